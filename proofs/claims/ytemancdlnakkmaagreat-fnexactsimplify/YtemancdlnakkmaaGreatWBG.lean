import Derived.Test.YtemancdlnakkmaaGreatWAF
import Derived.Deep.RegionHeld3
import Derived.Deep.RegionWith
import Derived.BigQuiet
import Derived.BigCall
import Derived.BigGuard
import Derived.Test.YtemancdlnakkmaaGreatWAD
import Derived.Test.YtemancdlnakkmaaGreatWAA
import Derived.Test.YtemancdlnakkmaaGreatWBB
import Derived.Test.YtemancdlnakkmaaGreatLRb
import Derived.Test.YtemancdlnakkmaaGreatLRc
import Derived.Test.YtemancdlnakkmaaGreatLRd
import Derived.Test.YtemancdlnakkmaaGreatLRe
namespace Go.Proofs.YtemancdlnakkmaaGreat
open Go.RowKit
def TreeF (t : List Nd) (w : World) (A : Nat → Prop) (R : Nat × Nat → Prop) (x : Nat × Nat) : Prop :=
  ∃ (b i : Nat) (bs : List Nat) (g c : Nat) (cur : Array Value), x = (b, i) ∧ A b ∧ A g ∧ w.heap[b]? = some (.cells #[.int .i64 (ndAt t i).kind, .int .i64 (ndAt t i).num, .string (ndAt t i).text, .int .i64 (ndAt t i).kids, .int .i64 (ndAt t i).place, .slice (some ⟨g, 0, none⟩) bs.length c, .int .i64 0, .int .i64 0, .bool false] 88 (0, 0)) ∧ w.heap[g]? = some (.cells cur 65 (0, 0)) ∧ (∀ j (h : j < bs.length), cur[j]? = some (.pointer (some ⟨bs[j], 0, none⟩))) ∧ bs.length ≤ c ∧ bs.length = (kidsRt t i).length ∧ ∀ j (h : j < bs.length) (h' : j < (kidsRt t i).length), R (bs[j], (kidsRt t i)[j])
structure TreeAt (t : List Nd) (w : World) (A : Nat → Prop) (b i : Nat) : Prop where
  of ::
  lfp : Lfp (TreeF t w A) (b, i)
theorem TreeAt.grows (t : List Nd) (w : World) (A : Nat → Prop) : Grows (TreeF t w A) := by
  rintro R R' x h ⟨b, i, bs, g, c, cur, e, h1, h2, h3, h4, h5, h6, h7, h8⟩
  exact ⟨b, i, bs, g, c, cur, e, h1, h2, h3, h4, h5, h6, h7, fun j hj hj' => h _ (h8 j hj hj')⟩
theorem TreeAt.mk {t : List Nd} {w : World} {A : Nat → Prop} (b i : Nat) (bs : List Nat) (g c : Nat) (cur : Array Value) (hA : A b) (hG : A g) (blk : w.heap[b]? = some (.cells #[.int .i64 (ndAt t i).kind, .int .i64 (ndAt t i).num, .string (ndAt t i).text, .int .i64 (ndAt t i).kids, .int .i64 (ndAt t i).place, .slice (some ⟨g, 0, none⟩) bs.length c, .int .i64 0, .int .i64 0, .bool false] 88 (0, 0))) (row : w.heap[g]? = some (.cells cur 65 (0, 0))) (cells : ∀ j (h : j < bs.length), cur[j]? = some (.pointer (some ⟨bs[j], 0, none⟩))) (cap : bs.length ≤ c) (len : bs.length = (kidsRt t i).length) (kids : ∀ j (h : j < bs.length) (h' : j < (kidsRt t i).length), TreeAt t w A bs[j] (kidsRt t i)[j]) : TreeAt t w A b i :=
  ⟨Lfp.fold (TreeAt.grows t w A) ⟨b, i, bs, g, c, cur, rfl, hA, hG, blk, row, cells, cap, len, fun j h h' => (kids j h h').lfp⟩⟩
theorem TreeAt.elim {t : List Nd} {w : World} {A : Nat → Prop} {motive : ∀ b i, TreeAt t w A b i → Prop}
    (mk : ∀ (b i : Nat) (bs : List Nat) (g c : Nat) (cur : Array Value) (hA : A b) (hG : A g) (blk : w.heap[b]? = some (.cells #[.int .i64 (ndAt t i).kind, .int .i64 (ndAt t i).num, .string (ndAt t i).text, .int .i64 (ndAt t i).kids, .int .i64 (ndAt t i).place, .slice (some ⟨g, 0, none⟩) bs.length c, .int .i64 0, .int .i64 0, .bool false] 88 (0, 0))) (row : w.heap[g]? = some (.cells cur 65 (0, 0))) (cells : ∀ j (h : j < bs.length), cur[j]? = some (.pointer (some ⟨bs[j], 0, none⟩))) (cap : bs.length ≤ c) (len : bs.length = (kidsRt t i).length) (kids : ∀ j (h : j < bs.length) (h' : j < (kidsRt t i).length), TreeAt t w A bs[j] (kidsRt t i)[j]), (∀ j (h : j < bs.length) (h' : j < (kidsRt t i).length), motive bs[j] (kidsRt t i)[j] (kids j h h')) → motive b i (TreeAt.mk b i bs g c cur hA hG blk row cells cap len kids))
    {b i : Nat} (h : TreeAt t w A b i) : motive b i h := by
  have key : ∀ h, motive (b, i).1 (b, i).2 h := Lfp.ind (TreeAt.grows t w A) (p := fun x => ∀ h, motive x.1 x.2 h) (by
    rintro x ⟨b, i, bs, g, c, cur, e, h1, h2, h3, h4, h5, h6, h7, h8⟩ h
    subst e
    exact mk b i bs g c cur h1 h2 h3 h4 h5 h6 h7 (fun j hj hj' => ⟨(h8 j hj hj').1⟩) (fun j hj hj' => (h8 j hj hj').2 _)) h.lfp
  exact key h
theorem TreeAt.inv {t : List Nd} {w : World} {A : Nat → Prop} {b i : Nat} (h : TreeAt t w A b i) : ∃ (bs : List Nat) (g c : Nat) (cur : Array Value), A b ∧ A g ∧ w.heap[b]? = some (.cells #[.int .i64 (ndAt t i).kind, .int .i64 (ndAt t i).num, .string (ndAt t i).text, .int .i64 (ndAt t i).kids, .int .i64 (ndAt t i).place, .slice (some ⟨g, 0, none⟩) bs.length c, .int .i64 0, .int .i64 0, .bool false] 88 (0, 0)) ∧ w.heap[g]? = some (.cells cur 65 (0, 0)) ∧ (∀ j (h : j < bs.length), cur[j]? = some (.pointer (some ⟨bs[j], 0, none⟩))) ∧ bs.length ≤ c ∧ bs.length = (kidsRt t i).length ∧ ∀ j (h : j < bs.length) (h' : j < (kidsRt t i).length), TreeAt t w A bs[j] (kidsRt t i)[j] := by
  induction h using TreeAt.elim with
  | mk b i bs g c cur hA hG blk row cells cap len kids => exact ⟨bs, g, c, cur, hA, hG, blk, row, cells, cap, len, kids⟩
theorem TreeAt.but {t : List Nd} {w w' : World} {A A' S : Nat → Prop} {b i : Nat} (h : TreeAt t w A b i) (hb : But S w w') (hS : ∀ q, A q → ¬ S q) (hA : ∀ q, A q → q < w.heap.size → A' q) : TreeAt t w' A' b i := by
  induction h using TreeAt.elim with
  | mk b i bs g c cur h1 h2 blk row cells cap len kids ih =>
    have l1 := (Array.getElem?_eq_some_iff.1 blk).1
    have l2 := (Array.getElem?_eq_some_iff.1 row).1
    exact .mk b i bs g c cur (hA b h1 l1) (hA g h2 l2) ((hb.block b l1 (hS b h1)).trans blk) ((hb.block g l2 (hS g h2)).trans row) cells cap len ih
theorem TreeAt.under {t : List Nd} {w w' : World} {A : Nat → Prop} {b i : Nat} (h : TreeAt t w A b i) (hb : Below w.heap.size w w') : TreeAt t w' A b i :=
  h.but (But.ofBelow (S := fun _ => False) hb) (fun _ _ h => h) (fun _ h _ => h)

theorem twoS_of {α : Type} {l : List α} (h : l.length = 2) : ∃ a b, l = [a, b] := by
  match l, h with
  | [a, b], _ => exact ⟨a, b, rfl⟩
end Go.Proofs.YtemancdlnakkmaaGreat
namespace Go.Proofs.YtemancdlnakkmaaGreat
theorem take_in {P : Program} {ops : Array Oper} {Q : Exit → Act → World → Prop} {md : Region.Mode} {S : World → Prop} {fuel : Nat} {listed : Array Bool} {tmps : Array Value} {defers : List Deferred} {w : World} (i d : Nat) {oi : Oper} {v : Value}
    (hi : ops[i]? = some oi) (hd : oi.dst = some d) (hs : Region.noSelect ops = true) (hf : Region.free md ops listed i = true) (hr : (Region.ready md ops listed).contains i = true)
    (hQ : ∀ c a w, Q (.panic c) (a.put oi.dst v) w → Q (.panic c) a w) (hy : YieldsIf P ops S oi v ⟨tmps, defers⟩) (hS : S w)
    (h : wpAnyH P md ops Q S fuel (listed.setIfInBounds i true) ⟨tmps.setIfInBounds d v, defers⟩ w) : wpAnyH P md ops Q S (fuel + 1) listed ⟨tmps, defers⟩ w := by
  refine wpAnyH_take hi hs hf hr hQ hy hS ?_
  have e : Act.put ⟨tmps, defers⟩ oi.dst v = ⟨tmps.setIfInBounds d v, defers⟩ := by rw [hd]; rfl
  rw [e]
  exact h
theorem ixA {α : Type} {l : List α} {i : Nat} {x : α} (h : l[i]? = some x) : l.toArray[i]? = some x := by rw [List.getElem?_toArray, h]
end Go.Proofs.YtemancdlnakkmaaGreat
namespace Go.Proofs.YtemancdlnakkmaaGreat
open Go.RowKit
set_option maxRecDepth 20000 in
set_option maxHeartbeats 8000000 in
theorem rule_else (us : Int → Nat) (x0 x1 x2 x3 x4 x5 : Sl3) (n : Nd) (ks : List Tre) (s : Sl3) (A : Nat → Prop) (w : World) (hA : ∀ q, w.heap.size ≤ q → A q) (hR : SRep w A (.mk n ks) s) (hP : PlT (.mk n ks)) (hu : CntS w x3 us) (hk : n.kind ≠ 88 ∧ n.kind ≠ 89 ∧ n.kind ≠ 83 ∧ n.kind ≠ 80 ∧ n.kind ≠ 77) :
    Calls Tryz.prog 44 #[xv x0 x1 x2 x3 x4 x5, .agg (sv (.mk n ks) s).toArray] w fun e w' => RuleRes w A (ruleT us (.mk n ks)) e w' := by
  obtain ⟨so, sl, sc⟩ := s
  obtain ⟨h1, h2, h3, h4⟩ := hR.skids
  simp only [Tre.ks] at h1 h2 h3 h4
  subst h1
  obtain ⟨kd, nm, tx, kk, pl⟩ := n
  simp only at hk
  obtain ⟨k88, k89, k83, k80, k77⟩ := hk
  obtain ⟨q, hq⟩ : ∃ q, ks.length = q := ⟨_, rfl⟩
  rw [hq] at hR ⊢
  clear h2 h3 h4 hq
  obtain ⟨kb, hkb⟩ : ∃ kb, knT (.mk ⟨kd, nm, tx, kk, pl⟩ ks) = kb := ⟨_, rfl⟩
  have HKB : Hid (knT (.mk ⟨kd, nm, tx, kk, pl⟩ ks) = kb) := hkb
  have hsv : (sv (.mk ⟨kd, nm, tx, kk, pl⟩ ks) (so, q, sc)).toArray = #[.int .i64 kd, .int .i64 nm, .string tx, .int .i64 kk, .int .i64 pl, .slice so q sc, .bool kb] := by rw [← hkb]; rfl
  have HR : Hid (SRep w A (.mk ⟨kd, nm, tx, kk, pl⟩ ks) (so, q, sc)) := hR
  have HA : Hid (∀ q, w.heap.size ≤ q → A q) := hA
  have HP : Hid (PlT (.mk ⟨kd, nm, tx, kk, pl⟩ ks)) := hP
  obtain ⟨V, hV⟩ : ∃ V, ruleT us (.mk ⟨kd, nm, tx, kk, pl⟩ ks) = V := ⟨_, rfl⟩
  have HV : Hid (ruleT us (.mk ⟨kd, nm, tx, kk, pl⟩ ks) = V) := hV
  have HU : Hid (CntS w x3 us) := hu
  rw [hV]
  obtain ⟨rX, rT, rZ, rN, hsz, hB0⟩ := four_blocks w #[.slice x0.1 x0.2.1 x0.2.2, .slice x1.1 x1.2.1 x1.2.2, .slice x2.1 x2.2.1 x2.2.2, .slice x3.1 x3.2.1 x3.2.2, .slice x4.1 x4.2.1 x4.2.2, .slice x5.1 x5.2.1 x5.2.2] #[.int .i64 kd, .int .i64 nm, .string tx, .int .i64 kk, .int .i64 pl, .slice so q sc, .bool kb] #[.int .i64 0, .int .i64 0, .string ⟨#[]⟩, .int .i64 0, .int .i64 0, .slice none 0 0, .bool false] #[.int .i64 kd, .int .i64 nm, .string tx, .int .i64 kk, .int .i64 pl] 48 51 51 34
  have HRX : Hid _ := rX
  have HRT : Hid _ := rT
  have HRZ : Hid _ := rZ
  have HRN : Hid _ := rN
  have HSZ : Hid _ := hsz
  have HB0 : Hid _ := hB0
  clear rX rT rZ rN hsz hB0 hkb hV hR hA hP hu
  unfold xv
  rw [hsv]
  clear hsv
  go_enter Tryz.func44, Tryz.ntmps44
  go_upto_region 2 with fail
  have rX := HRX.out
  have rT := HRT.out
  have rZ := HRZ.out
  have rN := HRN.out
  have hsz := HSZ.out
  have hB0 := HB0.out
  clear HRX HRT HRZ HRN HSZ HB0
  generalize ((((w.alloc (.cells #[.slice x0.1 x0.2.1 x0.2.2, .slice x1.1 x1.2.1 x1.2.2, .slice x2.1 x2.2.1 x2.2.2, .slice x3.1 x3.2.1 x3.2.2, .slice x4.1 x4.2.1 x4.2.2, .slice x5.1 x5.2.1 x5.2.2] 48)).alloc (.cells #[.int .i64 kd, .int .i64 nm, .string tx, .int .i64 kk, .int .i64 pl, .slice so q sc, .bool kb] 51)).alloc (.cells #[.int .i64 0, .int .i64 0, .string ⟨#[]⟩, .int .i64 0, .int .i64 0, .slice none 0 0, .bool false] 51)).alloc (.cells #[.int .i64 kd, .int .i64 nm, .string tx, .int .i64 kk, .int .i64 pl] 34)) = W0 at rX rT rZ rN hsz hB0 ⊢
  obtain ⟨z, hz⟩ : ∃ z, w.heap.size = z := ⟨_, rfl⟩
  have HZ : Hid (w.heap.size = z) := hz
  have e2 : z + 1 + 1 = z + 2 := rfl
  have e3 : z + 2 + 1 = z + 3 := rfl
  simp only [hz] at rX rT rZ rN hsz
  simp only [hz, e2, e3]
  clear e2 e3 hz
  have u88 : (kd == 88) = false := by simpa using k88
  have u89 : (kd == 89) = false := by simpa using k89
  have u83 : (kd == 83) = false := by simpa using k83
  have u80 : (kd == 80) = false := by simpa using k80
  have u77 : (kd == 77) = false := by simpa using k77
  have hV : V = .mk ⟨kd, nm, tx, kk, pl⟩ ks := by
    rw [← HV.out]
    unfold ruleT
    dsimp only
    rw [if_neg k88, if_neg k89, if_neg k83, if_neg k80, if_neg k77]
  have t0 : W0.cell? ⟨z + 1, 0, none⟩ = some (.int .i64 kd) := by rw [cell_of_row _ _ _ _ _ _ rT]; rfl
  have t1 : W0.cell? ⟨z + 1, 1, none⟩ = some (.int .i64 nm) := by rw [cell_of_row _ _ _ _ _ _ rT]; rfl
  have t2 : W0.cell? ⟨z + 1, 2, none⟩ = some (.string tx) := by rw [cell_of_row _ _ _ _ _ _ rT]; rfl
  have t3 : W0.cell? ⟨z + 1, 3, none⟩ = some (.int .i64 kk) := by rw [cell_of_row _ _ _ _ _ _ rT]; rfl
  have t4 : W0.cell? ⟨z + 1, 4, none⟩ = some (.int .i64 pl) := by rw [cell_of_row _ _ _ _ _ _ rT]; rfl
  have t5 : W0.cell? ⟨z + 1, 5, none⟩ = some (.slice so q sc) := by rw [cell_of_row _ _ _ _ _ _ rT]; rfl
  have t6 : W0.cell? ⟨z + 1, 6, none⟩ = some (.bool kb) := by rw [cell_of_row _ _ _ _ _ _ rT]; rfl
  have LT : z + 1 < W0.heap.size := lt_of_cell t0
  have n0 : W0.cell? ⟨z + 3, 0, none⟩ = some (.int .i64 kd) := by rw [cell_of_row _ _ _ _ _ _ rN]; rfl
  have n1 : W0.cell? ⟨z + 3, 1, none⟩ = some (.int .i64 nm) := by rw [cell_of_row _ _ _ _ _ _ rN]; rfl
  have n2 : W0.cell? ⟨z + 3, 2, none⟩ = some (.string tx) := by rw [cell_of_row _ _ _ _ _ _ rN]; rfl
  have LN : z + 3 < W0.heap.size := lt_of_cell n0
  have hf := seven_fin (w := w) (.mk ⟨kd, nm, tx, kk, pl⟩ ks) (so, q, sc) rZ hB0 (by rw [HZ.out]; omega)
  simp only [Tre.nd] at hf
  rw [HKB.out] at hf
  obtain ⟨f, d0, d1, d2, d3, d4, d5, d6⟩ := zero7 rZ
  have f0 := f 0
  have f1 := f 1
  have f2 := f 2
  have f3 := f 3
  have f4 := f 4
  have f5 := f 5
  have f6 := f 6
  have LZ : z + 2 < W0.heap.size := lt_of_cell d0
  clear f
  have HF : Hid (Row7 (((((((W0.setCell ⟨z + 2, 0, none⟩ (.int .i64 kd)).setCell ⟨z + 2, 1, none⟩ (.int .i64 nm)).setCell ⟨z + 2, 2, none⟩ (.string tx)).setCell ⟨z + 2, 3, none⟩ (.int .i64 kk)).setCell ⟨z + 2, 4, none⟩ (.int .i64 pl)).setCell ⟨z + 2, 5, none⟩ (.slice so q sc)).setCell ⟨z + 2, 6, none⟩ (.bool kb)) (z + 2) 0 (.mk ⟨kd, nm, tx, kk, pl⟩ ks) (so, q, sc) ∧ Below w.heap.size w (((((((W0.setCell ⟨z + 2, 0, none⟩ (.int .i64 kd)).setCell ⟨z + 2, 1, none⟩ (.int .i64 nm)).setCell ⟨z + 2, 2, none⟩ (.string tx)).setCell ⟨z + 2, 3, none⟩ (.int .i64 kk)).setCell ⟨z + 2, 4, none⟩ (.int .i64 pl)).setCell ⟨z + 2, 5, none⟩ (.slice so q sc)).setCell ⟨z + 2, 6, none⟩ (.bool kb))) := hf
  have HVV : Hid (V = .mk ⟨kd, nm, tx, kk, pl⟩ ks) := hV
  clear hV rX k88 k89 k83 k80 k77 hsz
  clear hf
  clear rT rZ rN hB0
  go_wp2
  refine bodyPost_ret (results_cell7 rfl _ (z + 2) rfl _ _ _ HF.out.1) rfl ?_
  exact ruleRes_of HVV.out rfl (HR.out.under HF.out.2) HF.out.2
theorem rule_any (us : Int → Nat) (x0 x1 x2 x3 x4 x5 : Sl3) (n : Nd) (ks : List Tre) (s : Sl3) (A : Nat → Prop) (w : World) (hA : ∀ q, w.heap.size ≤ q → A q) (hR : SRep w A (.mk n ks) s) (hP : PlT (.mk n ks)) (hu : CntS w x3 us) :
    Calls Tryz.prog 44 #[xv x0 x1 x2 x3 x4 x5, .agg (sv (.mk n ks) s).toArray] w fun e w' => RuleRes w A (ruleT us (.mk n ks)) e w' := by
  by_cases h88 : n.kind = 88
  · exact rule_bin us x0 x1 x2 x3 x4 x5 n ks s A w hA hR hP hu h88
  by_cases h89 : n.kind = 89
  · exact rule_un us x0 x1 x2 x3 x4 x5 n ks s A w hA hR hP hu h89
  by_cases h83 : n.kind = 83
  · exact rule_case us x0 x1 x2 x3 x4 x5 n ks s A w hA hR hP hu h83
  by_cases h80 : n.kind = 80
  · exact rule_let us x0 x1 x2 x3 x4 x5 n ks s A w hA hR hP hu h80
  by_cases h77 : n.kind = 77
  · exact rule_app us x0 x1 x2 x3 x4 x5 n ks s A w hA hR hP hu h77
  exact rule_else us x0 x1 x2 x3 x4 x5 n ks s A w hA hR hP hu ⟨h88, h89, h83, h80, h77⟩
theorem But.cellL {S : Nat → Prop} {w w' : World} (h : But S w w') {g j : Nat} {v : Value} (hc : w.cell? ⟨g, j, none⟩ = some v) (hg : ¬ S g) : w'.cell? ⟨g, j, none⟩ = some v := by
  have h9 := h.block g (lt_of_cell hc) hg
  rw [← hc]
  simp only [World.cell?, h9]
theorem Nodes.butL {S : Nat → Prop} {w w' : World} {ao : Option Addr} {xs : List Nd} (h : Nodes w ao xs) (hb : But S w w') (hd : ∀ b o, ao = some ⟨b, o, none⟩ → ¬ S b) : Nodes w' ao xs := by
  intro i hi
  obtain ⟨b, o, e, c0, c1, c2, c3, c4⟩ := h i hi
  have hn := hd b o e
  exact ⟨b, o, e, hb.cellL c0 hn, hb.cellL c1 hn, hb.cellL c2 hn, hb.cellL c3 hn, hb.cellL c4 hn⟩
theorem Ints.butL {S : Nat → Prop} {w w' : World} {B g cap n : Nat} {xs : List Int} (h : Ints w B g cap n xs) (hb : But S w w') (hn : ¬ S g) : Ints w' B g cap n xs := ⟨h.1, owns_but h.2 hb hn⟩
theorem CntS.butL {S : Nat → Prop} {w w' : World} {b l c : Nat} {f : Int → Nat} (h : CntS w (some ⟨b, 0, none⟩, l, c) f) (hb : But S w w') (hn : ¬ S b) : CntS w' (some ⟨b, 0, none⟩, l, c) f := by
  obtain ⟨b', e1, e2, h3⟩ := h
  simp only [Option.some.injEq, Addr.mk.injEq, and_true] at e1
  subst e1
  exact ⟨b, rfl, e2, fun n hn9 => hb.cellL (h3 n hn9) hn⟩
structure PasAt where
  (b0 o0 cap gz cz Bz b2 c2 b3 c3 g4 c4 g5 c5 : Nat)
def PasAt.W (k : PasAt) (q : Nat) : Prop := q = k.g4 ∨ q = k.g5
structure Pas (k : PasAt) (t : List Nd) (m : Nat) (ys : List Sp) (bd us : Int → Nat) (w : World) (A : Nat → Prop) (P : Int → Option Tre) : Prop where
  nodes : Nodes w (some ⟨k.b0, k.o0, none⟩) t
  ints : Ints w k.Bz k.gz k.cz m (ys.map szOf)
  cb : CntS w (some ⟨k.b2, 0, none⟩, 200001, k.c2) bd
  cu : CntS w (some ⟨k.b3, 0, none⟩, 200001, k.c3) us
  flag : ∀ n : Nat, n ≤ 200000 → w.cell? ⟨k.g5, n, none⟩ = some (.bool (P (n : Int)).isSome)
  row : ∀ n : Nat, n ≤ 200000 → ∀ V, P (n : Int) = some V → ∃ s, Row7 w k.g4 (n * 7) V s ∧ SRep w A V s
  row4 : ∃ cur : Array Value, w.heap[k.g4]? = some (.cells cur 51 (0, 0)) ∧ cur.size = 1400007
  row5 : ∃ cur : Array Value, w.heap[k.g5]? = some (.cells cur 4 (0, 0)) ∧ cur.size = 200001
  apart : ¬ k.W k.b0 ∧ ¬ k.W k.gz ∧ ¬ k.W k.b2 ∧ ¬ k.W k.b3 ∧ k.g4 ≠ k.g5
  out : ∀ q, A q → ¬ k.W q
theorem Pas.lt4 {k : PasAt} {t : List Nd} {m : Nat} {ys : List Sp} {bd us : Int → Nat} {w : World} {A : Nat → Prop} {P : Int → Option Tre} (h : Pas k t m ys bd us w A P) : k.g4 < w.heap.size ∧ k.g5 < w.heap.size := by
  obtain ⟨c, h1, -⟩ := h.row4
  obtain ⟨d, h2, -⟩ := h.row5
  exact ⟨(Array.getElem?_eq_some_iff.1 h1).1, (Array.getElem?_eq_some_iff.1 h2).1⟩
theorem Pas.but {k : PasAt} {t : List Nd} {m : Nat} {ys : List Sp} {bd us : Int → Nat} {w w' : World} {A A' S : Nat → Prop} {P : Int → Option Tre} (h : Pas k t m ys bd us w A P) (hb : But S w w') (hS : ∀ q, q < w.heap.size → S q → False) (hA : ∀ q, A q → q < w.heap.size → A' q) (hA2 : ∀ q, A' q → ¬ k.W q) : Pas k t m ys bd us w' A' P := by
  have hb : But (fun _ => False) w w' := ⟨hb.os, hb.tape, hb.output, hb.size, fun i hi _ => hb.block i hi (fun h9 => hS i hi h9)⟩
  obtain ⟨l4, l5⟩ := h.lt4
  refine ⟨h.nodes.butL hb (fun _ _ _ h => h), h.ints.butL hb (fun h => h), h.cb.butL hb (fun h => h), h.cu.butL hb (fun h => h), fun n hn => hb.cellL (h.flag n hn) (fun h => h), ?_, ?_, ?_, h.apart, hA2⟩
  · intro n hn V hV
    obtain ⟨s, h1, h2⟩ := h.row n hn V hV
    exact ⟨s, h1.but hb (fun h => h), h2.but hb (fun _ _ h => h) hA⟩
  · obtain ⟨c, h1, h2⟩ := h.row4
    exact ⟨c, (hb.block _ l4 (fun h => h)).trans h1, h2⟩
  · obtain ⟨c, h1, h2⟩ := h.row5
    exact ⟨c, (hb.block _ l5 (fun h => h)).trans h1, h2⟩
theorem Pas.under {k : PasAt} {t : List Nd} {m : Nat} {ys : List Sp} {bd us : Int → Nat} {w w' : World} {A A' : Nat → Prop} {P : Int → Option Tre} (h : Pas k t m ys bd us w A P) (hb : Below w.heap.size w w') (hA : ∀ q, A q → q < w.heap.size → A' q) (hA2 : ∀ q, A' q → ¬ k.W q) : Pas k t m ys bd us w' A' P :=
  h.but (But.ofBelow (S := fun _ => False) hb) (fun _ _ h => h) hA hA2
theorem Pas.turn {k : PasAt} {t : List Nd} {m : Nat} {ys : List Sp} {bd us : Int → Nat} {w w' : World} {A A' S : Nat → Prop} {P : Int → Option Tre} (h : Pas k t m ys bd us w A P) (hb : But S w w') (hS : ¬ S k.b0 ∧ ¬ S k.gz ∧ ¬ S k.b2 ∧ ¬ S k.b3 ∧ ¬ S k.g4 ∧ ¬ S k.g5) (hSA : ∀ q, A q → ¬ S q) (hA : ∀ q, A q → q < w.heap.size → A' q) (hA2 : ∀ q, A' q → ¬ k.W q) : Pas k t m ys bd us w' A' P := by
  obtain ⟨l4, l5⟩ := h.lt4
  obtain ⟨s0, sz, s2, s3, s4, s5⟩ := hS
  refine ⟨h.nodes.butL hb (fun b o e => by simp only [Option.some.injEq, Addr.mk.injEq, and_true] at e; rw [← e.1]; exact s0), h.ints.butL hb sz, h.cb.butL hb s2, h.cu.butL hb s3, fun n hn => hb.cellL (h.flag n hn) s5, ?_, ?_, ?_, h.apart, hA2⟩
  · intro n hn V hV
    obtain ⟨s, h1, h2⟩ := h.row n hn V hV
    exact ⟨s, h1.but hb s4, h2.but hb hSA hA⟩
  · obtain ⟨c, h1, h2⟩ := h.row4
    exact ⟨c, (hb.block _ l4 s4).trans h1, h2⟩
  · obtain ⟨c, h1, h2⟩ := h.row5
    exact ⟨c, (hb.block _ l5 s5).trans h1, h2⟩
def put7 (w : World) (g o : Nat) (T : Tre) (s : Sl3) : World :=
  ((((((w.setCell ⟨g, o, none⟩ (.int .i64 T.nd.kind)).setCell ⟨g, o + 1, none⟩ (.int .i64 T.nd.num)).setCell ⟨g, o + 2, none⟩ (.string T.nd.text)).setCell ⟨g, o + 3, none⟩ (.int .i64 T.nd.kids)).setCell ⟨g, o + 4, none⟩ (.int .i64 T.nd.place)).setCell ⟨g, o + 5, none⟩ (.slice s.1 s.2.1 s.2.2)).setCell ⟨g, o + 6, none⟩ (.bool (knT T))
theorem put7_row {w : World} {g o t : Nat} {cur : Array Value} (T : Tre) (s : Sl3) (h : w.heap[g]? = some (.cells cur t (0, 0))) : (put7 w g o T s).heap[g]? = some (.cells (((((((cur.setIfInBounds o (.int .i64 T.nd.kind)).setIfInBounds (o + 1) (.int .i64 T.nd.num)).setIfInBounds (o + 2) (.string T.nd.text)).setIfInBounds (o + 3) (.int .i64 T.nd.kids)).setIfInBounds (o + 4) (.int .i64 T.nd.place)).setIfInBounds (o + 5) (.slice s.1 s.2.1 s.2.2)).setIfInBounds (o + 6) (.bool (knT T))) t (0, 0)) := by
  unfold put7
  exact heap_setCell_same _ _ _ _ _ _ (heap_setCell_same _ _ _ _ _ _ (heap_setCell_same _ _ _ _ _ _ (heap_setCell_same _ _ _ _ _ _ (heap_setCell_same _ _ _ _ _ _ (heap_setCell_same _ _ _ _ _ _ (heap_setCell_same _ _ _ _ _ _ h))))))
theorem put7_but {S : Nat → Prop} {w0 w : World} {g o : Nat} (T : Tre) (s : Sl3) (h : But S w0 w) (hg : S g) : But S w0 (put7 w g o T s) :=
  ((((((h.setCell (p := ⟨g, o, none⟩) hg _).setCell (p := ⟨g, o + 1, none⟩) hg _).setCell (p := ⟨g, o + 2, none⟩) hg _).setCell (p := ⟨g, o + 3, none⟩) hg _).setCell (p := ⟨g, o + 4, none⟩) hg _).setCell (p := ⟨g, o + 5, none⟩) hg _).setCell (p := ⟨g, o + 6, none⟩) hg _
theorem Pas.put {k : PasAt} {t : List Nd} {m : Nat} {ys : List Sp} {bd us : Int → Nat} {w : World} {A : Nat → Prop} {P : Int → Option Tre} (h : Pas k t m ys bd us w A P) {x : Nat} (hx : x ≤ 200000) (T : Tre) (s : Sl3) (hT : SRep w A T s) :
    Pas k t m ys bd us ((put7 w k.g4 (x * 7) T s).setCell ⟨k.g5, x, none⟩ (.bool true)) A (setP P (x : Int) (some T)) := by
  obtain ⟨a0, az, a2, a3, a45⟩ := h.apart
  obtain ⟨c4, r4, z4⟩ := h.row4
  obtain ⟨c5, r5, z5⟩ := h.row5
  have hb : But k.W w ((put7 w k.g4 (x * 7) T s).setCell ⟨k.g5, x, none⟩ (.bool true)) := (put7_but T s (But.refl k.W w) (.inl rfl)).setCell (p := ⟨k.g5, x, none⟩) (.inr rfl) _
  have q4 := put7_row (o := x * 7) T s r4
  have n4 : ((put7 w k.g4 (x * 7) T s).setCell ⟨k.g5, x, none⟩ (.bool true)).heap[k.g4]? = _ := (Below.heap_setCell _ _ _ _ (by show k.g4 ≠ k.g5; exact a45)).trans q4
  have p5 : (put7 w k.g4 (x * 7) T s).heap[k.g5]? = some (.cells c5 4 (0, 0)) := ((put7_but (S := (· = k.g4)) (o := x * 7) T s (But.refl _ w) rfl).block k.g5 h.lt4.2 (fun e => a45 e.symm)).trans r5
  have n5 : ((put7 w k.g4 (x * 7) T s).setCell ⟨k.g5, x, none⟩ (.bool true)).heap[k.g5]? = some (.cells (c5.setIfInBounds x (.bool true)) 4 (0, 0)) := heap_setCell_same _ _ _ _ _ _ p5
  refine ⟨h.nodes.butL hb (fun b o e => by simp only [Option.some.injEq, Addr.mk.injEq, and_true] at e; rw [← e.1]; exact a0), h.ints.butL hb az, h.cb.butL hb a2, h.cu.butL hb a3, ?_, ?_, ?_, ?_, h.apart, h.out⟩
  · intro n hn
    rw [cell_of_row _ _ _ _ _ _ n5, Array.getElem?_setIfInBounds]
    unfold setP
    by_cases e : x = n
    · subst e
      simp [z5]
      omega
    · have e2 : ¬ ((n : Int) = (x : Int)) := by omega
      rw [if_neg e, if_neg e2, ← cell_of_row _ _ _ _ _ _ r5]
      exact h.flag n hn
  · intro n hn V hV
    unfold setP at hV
    by_cases e : n = x
    · subst e
      simp only [if_true, Option.some.injEq] at hV
      subst hV
      refine ⟨s, ?_, hT.but hb h.out (fun q hq _ => hq)⟩
      refine ⟨?_, ?_, ?_, ?_, ?_, ?_, ?_⟩ <;> (rw [cell_of_row _ _ _ _ _ _ n4]; simp [Array.getElem?_setIfInBounds, z4]; try omega)
    · have e2 : ¬ ((n : Int) = (x : Int)) := by omega
      rw [if_neg e2] at hV
      obtain ⟨sv9, h1, h2⟩ := h.row n hn V hV
      refine ⟨sv9, ?_, h2.but hb h.out (fun q hq _ => hq)⟩
      have hk : ∀ j, j < 7 → ((put7 w k.g4 (x * 7) T s).setCell ⟨k.g5, x, none⟩ (.bool true)).cell? ⟨k.g4, n * 7 + j, none⟩ = w.cell? ⟨k.g4, n * 7 + j, none⟩ := by
        intro j hj
        rw [cell_of_row _ _ _ _ _ _ n4, cell_of_row _ _ _ _ _ _ r4]
        simp only [Array.getElem?_setIfInBounds]
        rw [if_neg (by omega), if_neg (by omega), if_neg (by omega), if_neg (by omega), if_neg (by omega), if_neg (by omega), if_neg (by omega)]
      exact ⟨(hk 0 (by omega)).trans h1.1, (hk 1 (by omega)).trans h1.2.1, (hk 2 (by omega)).trans h1.2.2.1, (hk 3 (by omega)).trans h1.2.2.2.1, (hk 4 (by omega)).trans h1.2.2.2.2.1, (hk 5 (by omega)).trans h1.2.2.2.2.2.1, (hk 6 (by omega)).trans h1.2.2.2.2.2.2⟩
  · exact ⟨_, n4, by simp [z4]⟩
  · exact ⟨_, n5, by simp [z5]⟩
theorem Pas.del {k : PasAt} {t : List Nd} {m : Nat} {ys : List Sp} {bd us : Int → Nat} {w : World} {A : Nat → Prop} {P : Int → Option Tre} (h : Pas k t m ys bd us w A P) {x : Nat} (hx : x ≤ 200000) :
    Pas k t m ys bd us (w.setCell ⟨k.g5, x, none⟩ (.bool false)) A (setP P (x : Int) none) := by
  obtain ⟨a0, az, a2, a3, a45⟩ := h.apart
  obtain ⟨c4, r4, z4⟩ := h.row4
  obtain ⟨c5, r5, z5⟩ := h.row5
  have hb : But (· = k.g5) w (w.setCell ⟨k.g5, x, none⟩ (.bool false)) := (But.refl (· = k.g5) w).setCell (p := ⟨k.g5, x, none⟩) (show k.g5 = k.g5 from rfl) _
  have n5 : (w.setCell ⟨k.g5, x, none⟩ (.bool false)).heap[k.g5]? = some (.cells (c5.setIfInBounds x (.bool false)) 4 (0, 0)) := heap_setCell_same _ _ _ _ _ _ r5
  have hw : ∀ q, ¬ k.W q → ¬ q = k.g5 := fun q hq e => hq (.inr e)
  refine ⟨h.nodes.butL hb (fun b o e => by simp only [Option.some.injEq, Addr.mk.injEq, and_true] at e; rw [← e.1]; exact hw _ a0), h.ints.butL hb (hw _ az), h.cb.butL hb (hw _ a2), h.cu.butL hb (hw _ a3), ?_, ?_, ⟨c4, (hb.block _ h.lt4.1 a45).trans r4, z4⟩, ⟨_, n5, by simp [z5]⟩, h.apart, h.out⟩
  · intro n hn
    rw [cell_of_row _ _ _ _ _ _ n5, Array.getElem?_setIfInBounds]
    unfold setP
    by_cases e : x = n
    · subst e
      simp [z5]
      omega
    · have e2 : ¬ ((n : Int) = (x : Int)) := by omega
      rw [if_neg e, if_neg e2, ← cell_of_row _ _ _ _ _ _ r5]
      exact h.flag n hn
  · intro n hn V hV
    unfold setP at hV
    by_cases e : (n : Int) = (x : Int)
    · rw [if_pos e] at hV; cases hV
    · rw [if_neg e] at hV
      obtain ⟨s, h1, h2⟩ := h.row n hn V hV
      exact ⟨s, h1.but hb a45, h2.but hb (fun q hq => hw _ (h.out q hq)) (fun q hq _ => hq)⟩
end Go.Proofs.YtemancdlnakkmaaGreat
