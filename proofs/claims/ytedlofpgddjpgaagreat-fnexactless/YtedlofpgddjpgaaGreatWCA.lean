import Derived.Test.YtedlofpgddjpgaaGreatWBY
import Derived.Test.YtedlofpgddjpgaaGreatPLy
import Derived.Test.YtedlofpgddjpgaaGreatWAA
import Derived.Test.YtedlofpgddjpgaaGreatWAB
import Derived.Test.YtedlofpgddjpgaaGreatProg
import Derived.ProofKit
import Derived.Deep.Slices
namespace Go.Proofs.YtedlofpgddjpgaaGreat
open Go.RowKit
structure RunK (t : List Nd) (a e : Nat) (S : List Sp) (ks : List Tre) (D : List Sp) : Prop where
  run : ∃ ys, after t e = some (S ++ D, ys)
  nds : D.map (fun s => ndAt t s.rt) = ks.map Tre.nd
  fr : frOf D e = a
  ok : ∀ i, a ≤ i → i < e → nodeOk plainOwn plainKids (ndAt t i) (kidsN t i) = true
def RunC (T : Tre) : Prop := ∀ (t : List Nd) (a : Nat) (S ys : List Sp), after t a = some (S, ys) → (∀ j, j < (outT T).length → t[a + j]? = (outT T)[j]?) → ∃ s, RunK t a (a + (outT T).length) S [T] [s]
theorem run_kids {t : List Nd} : ∀ (ks : List Tre), (∀ k ∈ ks, RunC k) → ∀ (a : Nat) (S ys : List Sp), after t a = some (S, ys) → (∀ j, j < (ks.map outT).flatten.length → t[a + j]? = (ks.map outT).flatten[j]?) → ∃ D, RunK t a (a + (ks.map outT).flatten.length) S ks D := by
  intro ks
  induction ks with
  | nil =>
    intro _ a S ys h _
    exact ⟨[], ⟨⟨ys, by simpa using h⟩, rfl, rfl, fun i h1 h2 => by simp at h2; omega⟩⟩
  | cons k ks ih =>
    intro hC a S ys h ht
    have el : ((k :: ks).map outT).flatten = outT k ++ (ks.map outT).flatten := by simp
    rw [el] at ht ⊢
    obtain ⟨s, hs⟩ := hC k (by simp) t a S ys h (fun j hj => by
      rw [ht j (by rw [List.length_append]; omega), List.getElem?_append_left hj])
    obtain ⟨y1, r1⟩ := hs.run
    obtain ⟨D, hD⟩ := ih (fun x hx => hC x (by simp [hx])) (a + (outT k).length) (S ++ [s]) y1 r1 (fun j hj => by
      rw [Nat.add_assoc, ht _ (by rw [List.length_append]; omega), List.getElem?_append_right (by omega)]
      congr 1
      omega)
    obtain ⟨y2, r2⟩ := hD.run
    have h1 : ndAt t s.rt = k.nd := by simpa using hs.nds
    rw [List.length_append, ← Nat.add_assoc]
    refine ⟨s :: D, ⟨⟨y2, by simpa using r2⟩, ?_, hs.fr, fun i h3 h4 => ?_⟩⟩
    · rw [List.map_cons, List.map_cons, hD.nds, h1]
    · by_cases hi : i < a + (outT k).length
      · exact hs.ok i h3 hi
      · exact hD.ok i (by omega) h4
theorem run_tree (T : Tre) : PlT T → RunC T := by
  refine Tre.ind (p := fun T => PlT T → RunC T) ?_ T
  intro n ks ih hP t a S ys h ht
  rw [outT_eq n ks] at ht ⊢
  obtain ⟨D, hD⟩ := run_kids ks (fun k hk => ih k hk (hP.kid k hk)) a S ys h (fun j hj => by
    rw [ht j (by rw [List.length_append]; omega), List.getElem?_append_left hj])
  obtain ⟨L, hL⟩ : ∃ L, (ks.map outT).flatten = L := ⟨_, rfl⟩
  rw [hL] at ht hD ⊢
  obtain ⟨y1, r1⟩ := hD.run
  have hn : t[a + L.length]? = some n := by
    rw [ht L.length (by simp), List.getElem?_append_right (Nat.le_refl _)]
    simp
  obtain ⟨hlt, hget⟩ := List.getElem?_eq_some_iff.1 hn
  have hdl : D.length = ks.length := by
    have h9 := congrArg List.length hD.nds
    simpa using h9
  have hkn := hP.node.kids
  have e : (S ++ D).length - ((ks.length : Int)).toNat = S.length := by
    rw [List.length_append]
    simp
    omega
  have hst : step (S ++ D) (a + L.length) t[a + L.length].kids = some (S ++ [over D (a + L.length)], over D (a + L.length)) := by
    rw [hget, hkn, step_of (by omega) (by rw [List.length_append]; omega), e]
    simp
  have r2 := after_succ r1 hlt hst
  refine ⟨over D (a + L.length), ⟨⟨_, by rw [List.length_append]; exact r2⟩, ?_, hD.fr, fun i h1 h2 => ?_⟩⟩
  · show [ndAt t (a + L.length)] = [n]
    rw [ndAt_get hlt, hget]
  · by_cases hi : i < a + L.length
    · exact hD.ok i h1 hi
    · obtain rfl : i = a + L.length := by
        rw [List.length_append] at h2
        simp at h2
        omega
      rw [kidsN_eq r1 hlt, hget, hkn, e, List.drop_left, hD.nds, ndAt_get hlt, hget]
      exact hP.node.node
theorem not62 {t : List Nd} {i : Nat} (h : nodeOk plainOwn plainKids (ndAt t i) (kidsN t i) = true) : (ndAt t i).kind ≠ 62 := by
  intro e
  obtain ⟨p, hp, -⟩ := nodeOk_parts h
  rw [e] at hp
  cases hp
theorem plain_out {T : Tre} (hP : PlT T) (hc : pCode T.nd = true) (hl : (outT T).length ≤ 60000) : PlainS (outT T) := by
  obtain ⟨s, hs⟩ := run_tree T hP (outT T) 0 [] [] rfl (fun j hj => by rw [Nat.zero_add])
  obtain ⟨ys, hr⟩ := hs.run
  have hok := hs.ok
  have hfr : s.fr = 0 := hs.fr
  have hnd : ndAt (outT T) s.rt = T.nd := by simpa using hs.nds
  rw [Nat.zero_add] at hr hok
  have hpos : 0 < (outT T).length := out_pos T
  have hf := after_fine hr
  have hm : ys[s.rt]? = some s := hf.mem 0 (by simp)
  have hch := (hf.chain.2.2.1 (by simp)).2
  have hrt : s.rt + 1 = (outT T).length := by simpa using hch
  obtain ⟨s', h1, h2, h3, h4, h5⟩ := raw_some rfl hpos hr
  have e1 : (outT T).length - 1 = s.rt := by omega
  rw [e1, hm] at h1
  simp only [Option.some.injEq] at h1
  subst h1
  rw [plain_eq]
  refine ⟨hl, ?_, fun i hi => ?_, ?_⟩
  · rw [h2, if_pos hfr]
    omega
  · have h9 := hok i (Nat.zero_le _) hi
    unfold okAt
    rw [h9, alls, if_neg (not62 h9)]
    rfl
  · rw [e1, hnd]
    exact hc
theorem plain_texts (T : Tre) : PlT T → ∀ x ∈ outT T, x.text.size ≤ 1048576 ∧ (Lit.int .i64 x.num).wf = true := by
  refine Tre.ind (p := fun T => PlT T → ∀ x ∈ outT T, x.text.size ≤ 1048576 ∧ (Lit.int .i64 x.num).wf = true) ?_ T
  intro n ks ih hP x hx
  rw [outT_eq, List.mem_append] at hx
  rcases hx with hx | hx
  · obtain ⟨l, hl, hxl⟩ := List.mem_flatten.1 hx
    obtain ⟨k, hk, rfl⟩ := List.mem_map.1 hl
    exact ih k hk (hP.kid k hk) x hxl
  · simp only [List.mem_singleton] at hx
    subst hx
    exact ⟨hP.node.text, hP.node.num⟩
def GoodS (t : List Nd) : Prop := PlainS t ∧ ∀ x ∈ t, x.text.size ≤ 1048576 ∧ (Lit.int .i64 x.num).wf = true
theorem GoodS.less {t : List Nd} (h : GoodS t) : GoodS (lessL t t.length) ∧ (lessL t t.length).length ≤ t.length := by
  obtain ⟨hP, htx⟩ := h
  obtain ⟨h0, S, ys, hA, hS⟩ := one_of_raw hP.2.1
  have hT := plain_tree rfl hA hP htx t.length (t.length - 1) (by omega) (by omega)
  have hR := tree_root rfl hA hS h0
  have hk := (less_kept (cntK bndK t) (cntK (· == 70) t) (treT t t.length (t.length - 1)) (fun _ => none) hT (fun x V h9 => by cases h9)).1
  have hle : (lessL t t.length).length ≤ t.length := by
    have h9 := hk.le
    rw [hR] at h9
    exact h9
  have hc0 : pCode (treT t t.length (t.length - 1)).nd = true := by
    have h9 := ((plain_eq t).1 hP).2.2.2
    have e : (treT t t.length (t.length - 1)).nd = ndAt t (t.length - 1) := by
      cases t.length <;> rfl
    rw [e]
    exact h9
  have hc1 := cls_code.1 (hk.cl.trans (cls_code.2 hc0))
  exact ⟨⟨plain_out hk.pl hc1 (by have := hP.1; unfold lessL at hle; omega), plain_texts _ hk.pl⟩, hle⟩
theorem LessS.len {t l : List Nd} (htx : ∀ x ∈ t, x.text.size ≤ 1048576 ∧ (Lit.int .i64 x.num).wf = true) (h : LessS t l) : l.length ≤ t.length := by
  rcases h with ⟨h1, rfl⟩ | ⟨h1, rfl⟩
  · exact (GoodS.less ⟨h1, htx⟩).2
  · simp
end Go.Proofs.YtedlofpgddjpgaaGreat

namespace Go.Proofs.YtedlofpgddjpgaaGreat
open Go.RowKit
theorem specLess_row (t : List Nd) (m : Nat) (HM : Hid (t.length = m)) (hm : m ≤ 1048576) (htx : ∀ x ∈ t, x.text.size ≤ 1048576 ∧ (Lit.int .i64 x.num).wf = true) (ao : Option Addr) (cap : Nat) (w : World) (hx : Nodes w ao t) :
    Calls Tryz.prog 6 #[.slice ao m cap] w fun e w' => ∃ g c l zs, e = .returned (.slice (some ⟨g, 0, none⟩) l c) ∧ zs.length = l ∧ w.heap.size ≤ g ∧ Row w' g zs ∧ LessS t zs ∧ Below w.heap.size w w' := by
  refine (specLess_any t m HM hm htx ao cap w hx).mono ?_
  rintro e w' ⟨g, c, l, zs, rfl, h1, h2, h3⟩
  exact ⟨g, c, l, zs, rfl, h1.1, h1.row.1, h1.row.2, h2, h3⟩
theorem implLess_row (t : List Nd) (m : Nat) (HM : Hid (t.length = m)) (hm : m ≤ 1048576) (htx : ∀ x ∈ t, x.text.size ≤ 1048576 ∧ (Lit.int .i64 x.num).wf = true) (ao : Option Addr) (cap : Nat) (w : World) (hx : Nodes w ao t) :
    Calls Tryz.prog 8 #[.slice ao m cap] w fun e w' => ∃ g c l zs, e = .returned (.slice (some ⟨g, 0, none⟩) l c) ∧ zs.length = l ∧ w.heap.size ≤ g ∧ Row w' g zs ∧ LessS t zs ∧ Below w.heap.size w w' := by
  refine (implLess_any t m HM hm htx ao cap w hx).mono ?_
  rintro e w' ⟨g, c, l, zs, rfl, h1, h2, h3⟩
  exact ⟨g, c, l, zs, rfl, h1.1, h1.row.1, h1.row.2, h2, h3⟩
end Go.Proofs.YtedlofpgddjpgaaGreat

namespace Go.Proofs.YtedlofpgddjpgaaGreat
open Go.RowKit
theorem alike_LawLs (xs : List Nd) : Alike Nd.eqb xs xs := ⟨rfl, fun _ _ _ => Nd.eqb_refl _⟩
set_option maxHeartbeats 2000000 in
theorem lawLess (xs : List Nd) (ao : Option Addr) (cap : Nat) (w : World) (hx : Nodes w ao xs)
    (hsx : ∀ x ∈ xs, x.text.size ≤ maxLen ∧ (Lit.int .i64 x.num).wf = true) (hlx : xs.length ≤ 9223372036854775807) :
    Calls Tryz.prog 3 #[.slice ao xs.length cap] w fun e w' => e = .returned (.bool true) ∧ Below w.heap.size w w' := by
  go_enter Tryz.func3, Tryz.ntmps3
  go_wp2_with fail
  refine (szNodeT_any xs ao cap 1048576 w hx (fun x hx => (hsx x hx).1) hlx (by omega) (by omega)).mono ?_
  rintro e w1 ⟨⟨r, rfl, hr⟩, b1⟩
  rcases hr with hr | ⟨hr0, hr1, hr2⟩
  · subst hr
    clear hsx hx
    go_wp2
    go_ret
    exact ⟨rfl, b1⟩
  have lx : xs.length ≤ 1048576 := by omega
  obtain ⟨l, hl⟩ : ∃ l, xs.length = l := ⟨_, rfl⟩
  have HL : Hid (xs.length = l) := hl
  have HTX : Hid (∀ x ∈ xs, x.text.size ≤ 1048576 ∧ (Lit.int .i64 x.num).wf = true) := fun x hx => ⟨hr2 x hx, (hsx x hx).2⟩
  rw [hl] at lx ⊢
  clear hl hr1 hr2 hlx hsx
  have toN : ∀ W, Below w.heap.size w W → Calls Tryz.prog 7 #[.slice ao l cap] W fun e w' => ∃ g, e = .returned (.slice (some ⟨g, 0, none⟩) l l) ∧ W.heap.size ≤ g ∧ Row w' g xs ∧ Below W.heap.size W w' := by
    intro W hW
    have h9 := toNodeS_any xs ao cap W (hx.below hW) (by have := HL.out; omega)
    rw [HL.out] at h9
    exact h9
  have TON : Hid (∀ W, Below w.heap.size w W → Calls Tryz.prog 7 #[.slice ao l cap] W fun e w' => ∃ g, e = .returned (.slice (some ⟨g, 0, none⟩) l l) ∧ W.heap.size ≤ g ∧ Row w' g xs ∧ Below W.heap.size W w') := toN
  clear toN hx
  go_wp2_with fail
  refine (TON.out w1 b1).mono ?_
  rintro e w2 ⟨g1, rfl, _, R1, b2⟩
  have b2 := Below.step b1 b2
  clear b1
  go_wp2_with fail
  refine (specLess_row xs l HL lx HTX.out _ _ w2 R1.nodes).mono ?_
  rintro e w3 ⟨gw, cw, l3, Z, rfl, hl3, _, RW, hZS, b3⟩
  have hpl0 : Z.length ≤ l := by
    rw [← HL.out]
    exact LessS.len HTX.out hZS
  have HI : Hid (∀ (g : Nat) (W : World), Row W g xs → Calls Tryz.prog 8 #[.slice (some ⟨g, 0, none⟩) l l] W fun e w' => ∃ ag cg, e = .returned (.slice ag Z.length cg) ∧ Ans w' W.heap.size ag Z ∧ Below W.heap.size W w') := by
    intro g W hR
    refine (implLess_row xs l HL lx HTX.out _ _ W hR.nodes).mono ?_
    rintro e w' ⟨g', c', l', Z', rfl, h8, h7, h9, hZ', hb'⟩
    obtain rfl : Z = Z' := hZS.same hZ'
    subst h8
    exact ⟨_, _, rfl, h9.ans h7, hb'⟩
  obtain ⟨p, hp⟩ : ∃ p, Z.length = p := ⟨_, rfl⟩
  have HP : Hid (Z.length = p) := hp
  have hpl : p ≤ 1048576 := by omega
  rw [hp] at HI
  have e3 : p = l3 := by omega
  subst e3
  clear hl3 hZS hp hpl0
  have lw := RW.lt
  have b3 := Below.step b2 b3
  clear b2 R1
  go_wp2_with fail
  refine (TON.out w3 b3).mono ?_
  rintro e w4 ⟨gx, rfl, hgx, RX, b4⟩
  have RW := RW.below b4
  have hwx : gw ≠ gx := by omega
  have hgx0 : w.heap.size ≤ gx := by have := b3.size; omega
  have lx4 := RX.lt
  have b4 := Below.step b3 b4
  clear b3
  go_wp2_with fail
  refine (HI.out gx w4 RX).mono ?_
  rintro e w5 ⟨ag, cg, rfl, RG, b5⟩
  obtain ⟨B5, hB5⟩ : ∃ B, w4.heap.size = B := ⟨_, rfl⟩
  have lw4 := RW.lt
  rw [hB5] at RG lx4 lw4
  have hw5 : w.heap.size ≤ B5 := by have := b4.size; omega
  have RW := RW.below b5
  have RX := RX.below b5
  have b5 := Below.step b4 b5
  clear b4 hB5
  go_wp2_with fail
  refine (eqNodeS_any Z Z p p HP HP _ _ _ _ w5 RG.nodes RW.nodes (by omega) (by omega)).mono ?_
  rintro e w6 ⟨⟨u6, rfl, hu⟩, b6⟩
  have hu1 : u6 = true := hu.2 (alike_LawLs Z)
  subst hu1
  have RW := RW.below b6
  have RX := RX.below b6
  have RG := RG.below b6
  have b6 := Below.step b5 b6
  clear b5 hu
  go_wp2_with fail
  refine (TON.out w6 b6).mono ?_
  rintro e w7 ⟨g7, rfl, _, R7, b7⟩
  have RW := RW.below b7
  have RX := RX.below b7
  have RG := RG.below b7
  have b7 := Below.step b6 b7
  clear b6
  go_wp2_with fail
  refine (eqNodeS_any xs xs l l HL HL _ _ _ _ w7 RX.nodes R7.nodes (by omega) (by omega)).mono ?_
  rintro e w8 ⟨⟨u8, rfl, hu⟩, b8⟩
  have hu1 : u8 = true := hu.2 (alike_LawLs xs)
  subst hu1
  have RW := RW.below b8
  have RX := RX.below b8
  have RG := RG.below b8
  have b8 := Below.step b7 b8
  clear b7 hu R7
  go_wp2_with fail
  refine (markNodeS_any xs l gx l 1 w8 HL RX (by omega) (by omega) (by omega)).mono ?_
  rintro e w9 ⟨rfl, _, bu⟩
  have RW := bu.row RW hwx
  have RG := RG.but bu (fun q _ hq _ e => by omega)
  have b9 : Below w.heap.size w w9 := b8.trans (bu.below b8.size (fun q hq => by rw [hq]; exact hgx0))
  clear b8 RX bu
  go_wp2_with fail
  refine (eqNodeS_any Z Z p p HP HP _ _ _ _ w9 RG.nodes RW.nodes (by omega) (by omega)).mono ?_
  rintro e w10 ⟨⟨u10, rfl, hu⟩, b10⟩
  have hu1 : u10 = true := hu.2 (alike_LawLs Z)
  subst hu1
  have RW := RW.below b10
  have RG := RG.below b10
  have b10 := Below.step b9 b10
  clear b9 hu
  go_wp2_with fail
  refine (markNodeS_ans Z p B5 ag cg 1 w10 HP RG (by omega) (by omega) (by omega)).mono ?_
  rintro e w11 ⟨rfl, RM, bu⟩
  have RW := bu.row RW (fun h => by have := h.2; omega)
  have b11 : Below w.heap.size w w11 := b10.trans (bu.below b10.size (fun q hq => by have := hq.2; omega))
  clear b10 RG bu
  go_wp2_with fail
  refine (heldNodeS_ans p B5 ag cg 1 w11 RM (by omega) (by omega) (by omega)).mono ?_
  rintro e w12 ⟨rfl, b12⟩
  have RW := RW.below b12
  have RM := RM.below b12
  have b12 := Below.step b11 b12
  clear b11
  go_wp2_with fail
  refine (TON.out w12 b12).mono ?_
  rintro e w13 ⟨g13, rfl, _, R13, b13⟩
  have RW := RW.below b13
  have RM := RM.below b13
  have b13 := Below.step b12 b13
  clear b12
  go_wp2_with fail
  refine (HI.out g13 w13 R13).mono ?_
  rintro e w14 ⟨ah, ch, rfl, RH, b14⟩
  have RW := RW.below b14
  have RM := RM.below b14
  have b14 := Below.step b13 b14
  clear b13 R13
  go_wp2_with fail
  refine (eqNodeS_any Z Z p p HP HP _ _ _ _ w14 RH.nodes RW.nodes (by omega) (by omega)).mono ?_
  rintro e w15 ⟨⟨u15, rfl, hu⟩, b15⟩
  have hu1 : u15 = true := hu.2 (alike_LawLs Z)
  subst hu1
  have RM := RM.below b15
  have b15 := Below.step b14 b15
  clear b14 hu RH RW
  go_wp2_with fail
  refine (heldNodeS_ans p B5 ag cg 1 w15 RM (by omega) (by omega) (by omega)).mono ?_
  rintro e w16 ⟨rfl, b16⟩
  have b16 := Below.step b15 b16
  clear b15 RM
  go_wp2
  go_ret
  exact ⟨rfl, b16⟩
end Go.Proofs.YtedlofpgddjpgaaGreat

namespace Go.Proofs.YtedlofpgddjpgaaGreat
open Go.ChangeShapes Go.WideShapes Go.ChangeAt Go.RowKit Go.Deep
theorem Tryz.cells32 : Tryz.prog.cellsOf 32 = 5 := by kernel_rfl
theorem Tryz.cells3 : Tryz.prog.cellsOf 3 = 1 := by kernel_rfl
theorem Tryz.cells2 : Tryz.prog.cellsOf 2 = 1 := by kernel_rfl
theorem Tryz.cells9 : Tryz.prog.cellsOf 9 = 1 := by kernel_rfl
end Go.Proofs.YtedlofpgddjpgaaGreat

namespace Go.Proofs.YtedlofpgddjpgaaGreat
open Go.ChangeShapes Go.WideShapes Go.ChangeAt Go.RowKit Go.Deep
set_option maxRecDepth 4000 in
theorem open_nodeW {H : Type} {enc : TypeId × Value → H} {W : World} {base : Nat} {spare : Nat → Bool} {held : Bool} {fuel : Nat} {cs : List Value} {x : DataW H × List MemPlace}
    (h : DataW.trod enc Tryz.prog W base spare held fuel 32 cs = some x) :
    ∃ n : Nd, (n.text.size ≤ maxLen ∧ (Lit.int .i64 n.num).wf = true) ∧ cs = [.int .i64 n.kind, .int .i64 n.num, .string n.text, .int .i64 n.kids, .int .i64 n.place] := by
  obtain ⟨ys, k, _, _, hlen, hyl, hf⟩ := DataW.trod_struct Tryz.underlying32 h
  rw [Tryz.cells32] at hlen
  match cs, hlen with
  | [v0, v1, v2, v3, v4], _ =>
    have l0 : ∃ y, ys[0]? = some y := ⟨_, List.getElem?_eq_getElem (by simp at hyl; omega)⟩
    have l1 : ∃ y, ys[1]? = some y := ⟨_, List.getElem?_eq_getElem (by simp at hyl; omega)⟩
    have l2 : ∃ y, ys[2]? = some y := ⟨_, List.getElem?_eq_getElem (by simp at hyl; omega)⟩
    have l3 : ∃ y, ys[3]? = some y := ⟨_, List.getElem?_eq_getElem (by simp at hyl; omega)⟩
    have l4 : ∃ y, ys[4]? = some y := ⟨_, List.getElem?_eq_getElem (by simp at hyl; omega)⟩
    obtain ⟨y0, l0⟩ := l0
    obtain ⟨y1, l1⟩ := l1
    obtain ⟨y2, l2⟩ := l2
    obtain ⟨y3, l3⟩ := l3
    obtain ⟨y4, l4⟩ := l4
    have g0 := (hf 0 { name := "Kind", type := 3, offset := 0, embedded := false, tag := "", pkgPath := "", byteOffset := 0 } rfl).trans l0
    have g1 := (hf 1 { name := "Num", type := 2, offset := 1, embedded := false, tag := "", pkgPath := "", byteOffset := 8 } rfl).trans l1
    have g2 := (hf 2 { name := "Text", type := 9, offset := 2, embedded := false, tag := "", pkgPath := "", byteOffset := 16 } rfl).trans l2
    have g3 := (hf 3 { name := "Kids", type := 3, offset := 3, embedded := false, tag := "", pkgPath := "", byteOffset := 32 } rfl).trans l3
    have g4 := (hf 4 { name := "At", type := 3, offset := 4, embedded := false, tag := "", pkgPath := "", byteOffset := 40 } rfl).trans l4
    simp only [Tryz.cells3, Tryz.cells2, Tryz.cells9, List.drop_zero, List.drop_succ_cons, List.take_succ_cons, List.take_zero] at g0 g1 g2 g3 g4
    obtain ⟨a0, e0, _, _⟩ := DataW.trod_int Tryz.underlying3 g0
    obtain ⟨a1, e1, _, hw⟩ := DataW.trod_int Tryz.underlying2 g1
    obtain ⟨a2, e2, _, hs⟩ := DataW.trod_string Tryz.underlying9 g2
    obtain ⟨a3, e3, _, _⟩ := DataW.trod_int Tryz.underlying3 g3
    obtain ⟨a4, e4, _, _⟩ := DataW.trod_int Tryz.underlying3 g4
    simp at e0 e1 e2 e3 e4
    subst e0 e1 e2 e3 e4
    exact ⟨⟨a0, a1, a2, a3, a4⟩, ⟨hs, hw⟩, rfl⟩
set_option maxRecDepth 4000 in
theorem open_nodesW {H : Type} {enc : TypeId × Value → H} {W : World} {base : Nat} {spare : Nat → Bool} {held : Bool} {fuel : Nat} {ao : Option Addr} {len cap : Nat} {x : DataW H × List MemPlace}
    (h : DataW.trod enc Tryz.prog W base spare held fuel 22 [.slice ao len cap] = some x) :
    ∃ xs : List Nd, xs.length = len ∧ len ≤ 9223372036854775807 ∧ Nodes W ao xs ∧ ∀ n ∈ xs, n.text.size ≤ maxLen ∧ (Lit.int .i64 n.num).wf = true := by
  rcases open_slice Tryz.underlying22 h with ⟨hcs, _⟩ | ⟨a, l, c, m, n, D, Pl, hcs, _, hl, hm, hmm, _, hx⟩
  · simp at hcs
    obtain ⟨rfl, rfl, rfl⟩ := hcs
    exact ⟨[], rfl, by omega, fun i hi => by simp at hi, by simp⟩
  · simp at hcs
    obtain ⟨rfl, rfl, rfl⟩ := hcs
    have hlm : len ≤ m := by rw [hmm]; split <;> omega
    unfold maxLen at hm
    have inh : Inhabited Nd := ⟨⟨0, 0, ByteArray.empty, 0, 0⟩⟩
    obtain ⟨F, hF⟩ := choose_lt (α := Nd) (n := len) (p := fun i nd => (nd.text.size ≤ maxLen ∧ (Lit.int .i64 nd.num).wf = true) ∧ ∃ b o, a = ⟨b, o, none⟩ ∧ NodeAt W b (o + i * 5) nd) (fun i hi => by
      obtain ⟨cs', h1, h2⟩ := hx i (by omega)
      obtain ⟨nd, hs, rfl⟩ := open_nodeW h2
      rw [Tryz.cells32] at h1
      obtain ⟨_, _, hc⟩ := World.cells?_some h1
      simp only [add_add] at hc
      have c0 := hc 0 (by omega)
      have c1 := hc 1 (by omega)
      have c2 := hc 2 (by omega)
      have c3 := hc 3 (by omega)
      have c4 := hc 4 (by omega)
      obtain ⟨b, o, sp⟩ := a
      have hsp : sp = none := by
        obtain ⟨cs0, z1, z2⟩ := hx 0 (by omega)
        obtain ⟨nd0, _, rfl⟩ := open_nodeW z2
        rw [Tryz.cells32] at z1
        obtain ⟨_, _, zc⟩ := World.cells?_some z1
        have z0 := zc 0 (by omega)
        simpa [Addr.add] using World.cell?_spot (z0.trans rfl)
      subst hsp
      have ad : ∀ j, Addr.add ⟨b, o, none⟩ j = ⟨b, o + j, none⟩ := by
        intro j
        unfold Addr.add
        split
        · simp_all
        · rfl
      simp [ad, ← Nat.add_assoc] at c0 c1 c2 c3 c4
      exact ⟨nd, hs, b, o, rfl, c0, c1, c2, c3, c4⟩)
    refine ⟨(List.range len).map F, by simp, by omega, ?_, ?_⟩
    · intro i hi
      have hi' : i < len := by simpa using hi
      obtain ⟨_, b, o, rfl, hn⟩ := hF i hi'
      exact ⟨b, o, rfl, by simpa using hn⟩
    · intro nd hnd
      simp at hnd
      obtain ⟨i, hi, rfl⟩ := hnd
      exact (hF i hi).1
end Go.Proofs.YtedlofpgddjpgaaGreat
