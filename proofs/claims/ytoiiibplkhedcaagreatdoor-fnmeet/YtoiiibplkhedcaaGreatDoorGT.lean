import Derived.Test.YtoiiibplkhedcaaGreatDoorGD
import Derived.Test.YtoiiibplkhedcaaGreatDoorGS
import Derived.Test.YtoiiibplkhedcaaGreatDoorGB
import Derived.Test.YtoiiibplkhedcaaGreatDoorGA
import Derived.Maps.OwnSet
import Derived.Maps.OwnOps
import Derived.Deep.Slices
import Derived.Maps.OwnIn
import Derived.Shelf.SlGeneric
import Derived.Shelf.SlLaysZI
import Derived.Shelf.SlIterI.Sorted
import Derived.Shelf.SlIterI.Keys
import Derived.Shelf.SlIterI.Collect
import Derived.Shelf.SlLaysM
import Derived.Shelf.SortM.Plain
import Derived.Shelf.SortM.AssemblyIn
import Derived.Ground.SlgmProg
import Derived.Ground.GgzProg
import Derived.Test.YtoiiibplkhedcaaGreatDoorProg
import Derived.Shelf.SortM.SortNone
import Derived.Maps.RangeWalk
namespace Go.Proofs.YtoiiibplkhedcaaGreatDoor
open Go.RowKit
theorem Qcu {w : World} {ad : Addr} {xs : List Nd} (h : Nodes w (some ad) xs) : ∀ j u, (flat xs)[j]? = some u → w.cell? (ad.add j) = some u := by
  intro j u hj
  have hl : j < (flat xs).length := (List.getElem?_eq_some_iff.1 hj).1
  rw [flat_length] at hl
  have hq : j / 5 < xs.length := by omega
  obtain ⟨b, o, e, hn⟩ := h (j / 5) hq
  simp only [Option.some.injEq] at e
  subst e
  have ej : j = (j / 5) * 5 + j % 5 := by omega
  have hr : j % 5 < 5 := by omega
  have hg := flat_get xs (j / 5) (j % 5) hq hr
  rw [← ej] at hg
  rw [hg] at hj
  have ad1 : ∀ k, Addr.add ⟨b, o, none⟩ k = ⟨b, o + k, none⟩ := by
    intro k
    unfold Addr.add
    split
    · rename_i h0; rw [h0]; rfl
    · rfl
  obtain ⟨c0, c1, c2, c3, c4⟩ := hn
  have ad2 : Addr.add ⟨b, o, none⟩ j = ⟨b, o + j / 5 * 5 + j % 5, none⟩ := by
    rw [ad1]
    congr 1
    omega
  rw [ad2]
  generalize j % 5 = r at hj hr ⊢
  match r, hr with
  | 0, _ => simp [Nd.row] at hj; subst hj; exact c0
  | 1, _ => simp [Nd.row] at hj; subst hj; exact c1
  | 2, _ => simp [Nd.row] at hj; subst hj; exact c2
  | 3, _ => simp [Nd.row] at hj; subst hj; exact c3
  | 4, _ => simp [Nd.row] at hj; subst hj; exact c4
set_option maxHeartbeats 400000 in
theorem Qep (xs : List Nd) (m : Nat) (HM : Hid (xs.length = m)) (hm : m ≤ 1048576) (ad : Addr) (cap : Nat) (w : World) (hx : Nodes w (some ad) xs) :
    Calls Tryz.prog 44 #[.slice (some ad) m cap] w fun e w' => ∃ g c, e = .returned (.slice (some ⟨g, 0, none⟩) m c) ∧ w.heap.size ≤ g ∧ Row w' g xs ∧ Below w.heap.size w w' := by
  obtain ⟨i0, hi, hz0, hz1, hz2⟩ := info_parts Tryz.infoN
  have hO := OwnN.empty (w := w) (B := w.heap.size) (Nat.le_refl _)
  have hnil : ∀ (w : World), (binOp .eql 23 (.slice (some ad) m cap) (.slice none 0 0)).run Tryz.prog w = .ok (.bool false) w := fun w => Lib.run_eql_slice_nil w _ _ (some ad) m cap 0 0 Tryz.underlying23
  have hn := Qcu (hx.below ((Below.refl _ w).alloc (Nat.le_refl _) (.cells #[] 43)))
  go_enter Tryz.func44, Tryz.ntmps44
  clear hx
  go_wp2_with (at_builtin; refine wpList_append2 _ rfl (.tmp 5) (.tmp 6) 23 rfl w.heap.size 43 i0 _ 5 48 Tryz.underlying23 hi hz0 hz1 hz2 rfl (by decide) w.heap.size 0 0 _ rfl hO.2 ad m cap (flat xs) rfl ?a1 hn (nd_flat_one xs) ?a3 ?a4 ?a5 ?_)
  case a1 => rw [flat_length, HM.out]
  case a3 => unfold maxLen; omega
  case a4 => omega
  case a5 => simp
  intro g2 c2 w2 hown2 hgrow2 hwh
  have hF : OwnN w2 w.heap.size g2 c2 m xs := ⟨HM.out, by simpa [flat] using hown2⟩
  obtain ⟨hg, hr⟩ := hF.row
  have hbb : Below w.heap.size w w2 := ((Below.refl _ w).alloc (Nat.le_refl _) _).grown hgrow2 (by simp) (fun q hq => by cases hq; exact Nat.le_refl _)
  clear hown2 hgrow2 hwh hF hO hn
  go_wp2
  go_ret
  exact ⟨_, _, rfl, hg, hr, hbb⟩
end Go.Proofs.YtoiiibplkhedcaaGreatDoor

namespace Go.Proofs.YtoiiibplkhedcaaGreatDoor
open Go.RowKit
def Ans (w : World) (B : Nat) (ao : Option Addr) (zs : List Nd) : Prop := zs = [] ∨ ∃ g, ao = some ⟨g, 0, none⟩ ∧ B ≤ g ∧ Row w g zs
theorem Ans.nodes {w : World} {B : Nat} {ao : Option Addr} {zs : List Nd} (h : Ans w B ao zs) : Nodes w ao zs := by
  rcases h with rfl | ⟨g, rfl, _, hr⟩
  · exact fun i hi => by simp at hi
  · exact hr.nodes
theorem Ans.mono {w : World} {B B' : Nat} {ao : Option Addr} {zs : List Nd} (h : Ans w B ao zs) (hB : B' ≤ B) : Ans w B' ao zs := by
  rcases h with rfl | ⟨g, rfl, h1, hr⟩
  · exact Or.inl rfl
  · exact Or.inr ⟨g, rfl, by omega, hr⟩
theorem Row.ans {w : World} {B g : Nat} {zs : List Nd} (h : Row w g zs) (hB : B ≤ g) : Ans w B (some ⟨g, 0, none⟩) zs := Or.inr ⟨g, rfl, hB, h⟩
end Go.Proofs.YtoiiibplkhedcaaGreatDoor

namespace Go.Proofs.YtoiiibplkhedcaaGreatDoor
open Go.RowKit Go.Maps
def Qae (first : Int) (s : List Int × List Nd) (n : Nd) : List Int × List Nd :=
  if n.kind = 61 then (if placeIn s.1 n.num = s.1.length then s.1 ++ [n.num] else s.1, s.2 ++ [{ n with num := first + (placeIn s.1 n.num : Int) }])
  else (s.1, s.2 ++ [n])
def nmTo (first : Int) (t : List Nd) (k : Nat) : List Int × List Nd := (t.take k).foldl (Qae first) ([], [])
theorem Qab (first : Int) (t : List Nd) (k : Nat) (h : k < t.length) : nmTo first t (k + 1) = Qae first (nmTo first t k) t[k] := by
  unfold nmTo
  rw [List.take_succ_eq_append_getElem h, List.foldl_append]
  rfl
theorem Qby (t : List Nd) (k : Nat) : nmTo 1 t k = canonTo t k := by
  have h : Qae 1 = canonStep := by
    funext s n
    unfold Qae canonStep
    rw [Int.add_comm]
  unfold nmTo canonTo
  rw [h]
theorem Qal (first : Int) (t : List Nd) (k : Nat) (h : k ≤ t.length) : (nmTo first t k).2.length = k ∧ (nmTo first t k).1.length ≤ k := by
  induction k with
  | zero => simp [nmTo]
  | succ k ih =>
    obtain ⟨h1, h2⟩ := ih (by omega)
    rw [Qab first t k (by omega)]
    unfold Qae
    split
    · refine ⟨by simp [h1], ?_⟩
      simp only
      split
      · simp; omega
      · omega
    · exact ⟨by simp [h1], by simp only; omega⟩
theorem Qau (met : List Int) (x : Int) : placeIn met x ≤ met.length := List.findIdx_le_length
theorem Qbb (met : List Int) (x : Int) : placeIn (met ++ [x]) x = if placeIn met x = met.length then met.length else placeIn met x := by
  unfold placeIn
  rw [List.findIdx_append]
  have h := @List.findIdx_le_length _ (fun y => y == x) met
  by_cases h1 : List.findIdx (fun y => y == x) met = met.length
  · rw [if_pos h1, if_neg (by omega)]
    simp
  · rw [if_neg h1, if_pos (by omega)]
theorem Qba (met : List Int) (x y : Int) (hne : y ≠ x) : placeIn (met ++ [x]) y = if placeIn met y = met.length then met.length + 1 else placeIn met y := by
  unfold placeIn
  rw [List.findIdx_append]
  have h := @List.findIdx_le_length _ (fun z => z == y) met
  by_cases h1 : List.findIdx (fun z => z == y) met = met.length
  · have h2 : (x == y) = false := by simpa using fun h => hne h.symm
    rw [if_pos h1, if_neg (by omega)]
    simp [h2, List.findIdx_cons, Nat.add_comm]
  · rw [if_neg h1, if_pos (by omega)]
def Jag (first : Int) (met : List Int) (x : Int) : Int := if placeIn met x = met.length then 0 else first + placeIn met x
def NumsD (first : Int) (met : List Int) (D : DataW Unit) : Prop :=
  Tidy D ∧ Maps.size D = met.length ∧ ∀ x : Int, Maps.has D (.int .i64 x) = !(placeIn met x == met.length) ∧ D.atKey (.int .i64 x) (.lit (.int .i64 0)) = .lit (.int .i64 (Jag first met x))
theorem NumsD.start (first : Int) : NumsD first [] (.map []) := ⟨tidy_empty, rfl, fun _ => ⟨rfl, rfl⟩⟩
theorem NumsD.store {first : Int} {met : List Int} {D : DataW Unit} (h : NumsD first met D) (x : Int) (hx : placeIn met x = met.length) :
    NumsD first (met ++ [x]) (D.put (.int .i64 x) (.lit (.int .i64 (first + met.length)))) := by
  obtain ⟨h1, h2, h3⟩ := h
  have hkl : ∀ z : Int, WideAt.IsKeyLit (.int .i64 z) := fun _ => trivial
  refine ⟨h1.put (hkl x) _, ?_, ?_⟩
  · rw [size_put h1, (h3 x).1, hx]
    simp [h2]
  · intro y
    by_cases hy : y = x
    · subst hy
      refine ⟨?_, ?_⟩
      · rw [has_put_same h1.isMap (hkl y), Qbb, if_pos hx]
        simp
      · rw [atKey_put_same h1.isMap (hkl y)]
        unfold Jag
        rw [Qbb, if_pos hx, if_neg (by simp)]
    · have hne : (Lit.int .i64 y) ≠ (Lit.int .i64 x) := fun h => hy (by simpa using h)
      refine ⟨?_, ?_⟩
      · rw [has_put_other hne, (h3 y).1, Qba _ _ _ hy]
        have := Qau met y
        by_cases h9 : placeIn met y = met.length
        · rw [if_pos h9]; simp [h9]
        · rw [if_neg h9]
          have q : (placeIn met y == met.length) = false := by simpa using h9
          have q2 : (placeIn met y == (met ++ [x]).length) = false := by simp; omega
          rw [q, q2]
      · rw [atKey_put_other hne, (h3 y).2]
        unfold Jag
        rw [Qba _ _ _ hy]
        have := Qau met y
        by_cases h9 : placeIn met y = met.length
        · rw [if_pos h9, if_pos h9, if_pos (by simp)]
        · rw [if_neg h9, if_neg h9, if_neg (by simp; omega)]
theorem Tryz.law2 : Keyed Tryz.prog 2 := int_keyed Tryz.underlying2
theorem Tryz.zero2 (w : World) : (zeroValue 2).run Tryz.prog w = .ok (.int .i64 0) w := by kernel_rfl
theorem Jbx (ys zs : List Nd) (z y : Nd) (k : Nat) (h : ys.length = k) : (ys ++ z :: zs).set k y = ys ++ [y] ++ zs := by
  subst h
  simp
theorem Row.putNum {w : World} {g : Nat} {ys : List Nd} (h : Row w g ys) (i : Nat) (hi : i < ys.length) (v : Int) :
    Row (w.setCell ⟨g, i * 5 + 1, none⟩ (.int .i64 v)) g (ys.set i { ys[i] with num := v }) := by
  have hl := flat_length ys
  refine (Own.set h (i * 5 + 1) _ (by omega)).row ?_
  rw [← flat_set ys i hi]
  apply List.ext_getElem?
  intro j
  simp only [List.getElem?_set, List.length_set]
  have e0 := flat_get ys i 0 hi (by omega)
  have e2 := flat_get ys i 2 hi (by omega)
  have e3 := flat_get ys i 3 hi (by omega)
  have e4 := flat_get ys i 4 hi (by omega)
  simp only [Nd.row, Nat.add_zero] at e0 e2 e3 e4
  simp only [List.getElem?_cons_zero, List.getElem?_cons_succ] at e0 e2 e3 e4
  by_cases j4 : i * 5 + 4 = j
  · subst j4; simp [e4, hl]; omega
  · by_cases j3 : i * 5 + 3 = j
    · subst j3; simp [e3, hl]; omega
    · by_cases j2 : i * 5 + 2 = j
      · subst j2; simp [e2, hl]; omega
      · by_cases j1 : i * 5 + 1 = j
        · subst j1; simp [hl]
        · by_cases j0 : i * 5 = j
          · subst j0; simp [e0, hl]; omega
          · simp [j0, j1, j2, j3, j4]
theorem Jbc {w w' : World} {g k : Nat} {ys : List Nd} (h : Row w g ys) (hg : w.grownBy w' (some k)) (hne : g ≠ k) : Row w' g ys := by
  have hlt := h.lt
  obtain ⟨cur, rest, hb, e⟩ := h
  exact ⟨cur, rest, (hg.block g hlt (by simpa using hne)).trans hb, e⟩
theorem Qeq {w w' : World} {g k o : Nat} (hg : w.grownBy w' (some k)) (hl : g < w.heap.size) (hne : g ≠ k) : w'.cell? ⟨g, o, none⟩ = w.cell? ⟨g, o, none⟩ := by
  have h := hg.block g hl (by simpa using hne)
  unfold World.cell?
  rw [h]
theorem Row.putMid {w : World} {g k : Nat} {out rest : List Nd} {kd nm v : Int} {tx : ByteArray} {ks pl : Int} (h : Row w g (out ++ (⟨kd, nm, tx, ks, pl⟩ : Nd) :: rest)) (hk : out.length = k) :
    Row (w.setCell ⟨g, k * 5 + 1, none⟩ (.int .i64 v)) g (out ++ [⟨kd, v, tx, ks, pl⟩] ++ rest) := by
  have hlen : k < (out ++ (⟨kd, nm, tx, ks, pl⟩ : Nd) :: rest).length := by simp [hk]
  have e9 : (out ++ (⟨kd, nm, tx, ks, pl⟩ : Nd) :: rest)[k] = ⟨kd, nm, tx, ks, pl⟩ := by
    rw [List.getElem_append_right (by omega)]
    simp [hk]
  have h9 := h.putNum k hlen v
  rw [e9, Jbx _ _ _ _ _ hk] at h9
  exact h9
theorem Row.midNum {w : World} {g k : Nat} {out rest : List Nd} {kd nm : Int} {tx : ByteArray} {ks pl : Int} (h : Row w g (out ++ (⟨kd, nm, tx, ks, pl⟩ : Nd) :: rest)) (hk : out.length = k) :
    w.cell? ⟨g, k * 5 + 1, none⟩ = some (.int .i64 nm) := by
  have hlen : k < (out ++ (⟨kd, nm, tx, ks, pl⟩ : Nd) :: rest).length := by simp [hk]
  have e9 : (out ++ (⟨kd, nm, tx, ks, pl⟩ : Nd) :: rest)[k] = ⟨kd, nm, tx, ks, pl⟩ := by
    rw [List.getElem_append_right (by omega)]
    simp [hk]
  have hn := h.node k hlen
  rw [e9] at hn
  exact hn.2.1
set_option maxHeartbeats 4000000 in
set_option maxRecDepth 100000 in
theorem Qan (first : Int) (hf : 1 ≤ first) (hf2 : first ≤ 1000) (t : List Nd) (m : Nat) (HM : Hid (t.length = m)) (hm : m ≤ 300) (HW : Hid (∀ n ∈ t, n.kind = 61 → (Lit.int .i64 n.num).wf = true)) (b o cap : Nat) (w : World) (hx : Nodes w (some ⟨b, o, none⟩) t) :
    Calls Tryz.prog 19 #[.int .i64 first, .slice (some ⟨b, o, none⟩) m cap] w fun e w' => ∃ g c, e = .returned (.slice (some ⟨g, 0, none⟩) m c) ∧ w.heap.size ≤ g ∧ Row w' g (nmTo first t m).2 ∧ Below w.heap.size w w' := by
  have hmm := @run_makeMap Tryz.prog
  go_enter Tryz.func19, Tryz.ntmps19
  go_wp2_with fail
  refine (Qep t m HM (by omega) _ cap w hx).mono ?_
  rintro e w1 ⟨g, c, rfl, hg, hr, hb⟩
  have hx1 := hx.below hb
  have hr1 : g < w1.heap.size := hr.lt
  go_wp2
  go_loopw [14] (fun i wr => ∃ (k : Nat) (D : DataW Unit), k ≤ m ∧ i = .int .i64 k ∧ wr.ownsMap Tryz.prog 2 (plainElem Tryz.prog 2) w1.heap.size k D ∧ NumsD first (nmTo first t k).1 D ∧ Row wr g ((nmTo first t k).2 ++ t.drop k) ∧ Below w.heap.size w wr)
    (fun i _ => m - (intOf i).toNat)
  case atStart => 
    refine ⟨0, .map [], Nat.zero_le _, rfl, World.ownsMap_made _ _ _ _, NumsD.start _, ?_, hb.alloc hb.size _⟩
    simpa [nmTo] using hr.below ((Below.refl _ _).alloc (Nat.le_refl _) _)
  case round =>
    obtain ⟨k, D, hk, rfl, hown, hN, hrow, hbl⟩ := hrel
    by_cases hlt : k < m
    · have hltx : k < t.length := by have := HM.out; omega
      obtain ⟨hol, hml⟩ := Qal first t k (by omega)
      have hsucc := Qab first t k hltx
      have hdrop : t.drop k = t[k] :: t.drop (k + 1) := (List.drop_eq_getElem_cons hltx)
      have hxw := HW.out t[k] (List.getElem_mem hltx)
      obtain ⟨x, hxk⟩ : ∃ x, t[k] = x := ⟨_, rfl⟩
      obtain ⟨b', o', ebo, hcx⟩ := hx.below hbl k hltx
      simp only [Option.some.injEq, Addr.mk.injEq, and_true] at ebo
      obtain ⟨rfl, rfl⟩ := ebo
      rw [hxk] at hcx hsucc hdrop hxw
      obtain ⟨met, hmet⟩ : ∃ met, (nmTo first t k).1 = met := ⟨_, rfl⟩
      obtain ⟨out, hout⟩ : ∃ out, (nmTo first t k).2 = out := ⟨_, rfl⟩
      have hpair : nmTo first t k = (met, out) := by rw [← hmet, ← hout]
      rw [hpair] at hsucc
      rw [hmet] at hN hml
      rw [hout, hdrop] at hrow
      rw [hout] at hol
      obtain ⟨c0, c1, c2, c3, c4⟩ := hcx
      have hlb : b < wr.heap.size := lt_of_cell c0
      have HS : Hid (nmTo first t (k + 1) = Qae first (met, out) x) := hsucc
      have HR : Hid (Row wr g (out ++ x :: t.drop (k + 1))) := hrow
      clear hx hx1 hxk hmet hout hpair hsucc hdrop hrow hr
      obtain ⟨kd, nm, tx, ks, pl⟩ := x
      simp only at c0 c1 c2 c3 c4 hxw
      by_cases h61 : kd = 61
      · subst h61
        have hxw := hxw rfl
        have hkey : keyOf Tryz.prog 2 (.int .i64 nm) = some (.int .i64 nm) := keyOf_int_mk Tryz.underlying2 hxw
        by_cases hnew : placeIn met nm = met.length
        · have hc0 : ∀ c, D.atKey (.int .i64 nm) (.lit (.int .i64 0)) = .lit (.int .i64 c) → c = 0 := by
            intro c hc
            rw [(hN.2.2 nm).2, Jag, if_pos hnew] at hc
            simpa using hc.symm
          have hsz := hN.2.1
          have hN2 := hN.store nm hnew
          have hwf : (Lit.int .i64 (first + (met.length : Int))).wf = true := WalkArith.wf_i64 (by omega)
          have hc1 : ∀ c, (D.put (.int .i64 nm) (.lit (.int .i64 (first + (met.length : Int))))).atKey (.int .i64 nm) (.lit (.int .i64 0)) = .lit (.int .i64 c) → c = first + (met.length : Int) := by
            intro c hc
            rw [(hN2.2.2 nm).2, Jag, Qbb, if_pos hnew, if_neg (by simp)] at hc
            simpa using hc.symm
          have HS2 : Hid (nmTo first t (k + 1) = (met ++ [nm], out ++ [⟨61, first + (met.length : Int), tx, ks, pl⟩])) := by
            rw [Hid, HS.out, Qae, if_pos rfl]
            simp only
            rw [if_pos hnew, hnew]
          clear HS
          have hgr := HR.out.lt
          have hmlt := hown.lt
          have hgw : g < w1.heap.size := hr1
          have HF : Hid (∀ W2, (wr.alloc (.cells #[.int .i64 61, .int .i64 nm, .string tx, .int .i64 ks, .int .i64 pl] 43)).grownBy W2 (some w1.heap.size) → Row W2 g (out ++ (⟨61, nm, tx, ks, pl⟩ : Nd) :: t.drop (k + 1)) ∧ Below w.heap.size w W2 ∧ W2.cell? ⟨wr.heap.size, 1, none⟩ = some (.int .i64 nm) ∧ W2.cell? ⟨g, k * 5 + 1, none⟩ = some (.int .i64 nm) ∧ W2.frozen? ⟨g, k * 5 + 1, none⟩ = false) := by
            intro W2 hgw2
            have hr2 := Jbc (HR.out.below ((Below.refl _ _).alloc (Nat.le_refl _) _)) hgw2 (by omega)
            refine ⟨hr2, (hbl.alloc hbl.size _).grown hgw2 (hbl.alloc hbl.size _).size (fun j hj => by cases hj; exact hb.size), ?_, ?_, hr2.frozen _⟩
            · rw [Qeq hgw2 (by simp) (by omega), cell_of_row _ _ _ _ _ _ (heap_alloc_new _ _)]
              rfl
            · exact hr2.midNum hol
          go_wp2_with (first
            | (at_lookup; refine wpList_lookup_own_int _ rfl _ _ 87 rfl 2 2 .i64 Tryz.law2 Tryz.underlying87 Tryz.underlying2 (Tryz.zero2 _) w1.heap.size k _ rfl (hown.alloc _) _ _ rfl hkey ?_; intro c hat hwc; obtain rfl := hc0 c hat)
            | (at_len; refine wpList_len_own _ rfl _ 87 rfl 2 2 Tryz.underlying87 _ w1.heap.size k _ rfl (hown.alloc _) ?_; rw [hsz])
            | (at_mapUpdate; refine wpList_mapUpdate_own _ rfl _ _ _ 87 rfl 2 2 Tryz.law2 Tryz.underlying87 _ w1.heap.size k _ rfl (hown.alloc _) (by unfold maxLen; omega) _ _ _ rfl rfl hkey _ [] (plainElem_int Tryz.underlying2 hwf) ?_; intro w2 hown2 hgrow2; obtain ⟨r2, b2, q1, q2, q3⟩ := HF.out w2 hgrow2)
            | (at_lookup; refine wpList_lookup_own_int _ rfl _ _ 87 rfl 2 2 .i64 Tryz.law2 Tryz.underlying87 Tryz.underlying2 (Tryz.zero2 _) w1.heap.size (k + 1) _ rfl hown2 _ _ rfl hkey ?_; intro c hat hwc; obtain rfl := hc1 c hat)
            | go_in)
          go_roundw
          case rel =>
            refine ⟨k + 1, _, by omega, by go_num, hown2.setCell (by simp; omega) _, by rw [HS2.out]; exact hN2, ?_, b2.setCell hg _⟩
            rw [HS2.out]
            exact r2.putMid hol
          case measure => simp [intOf]; omega
        · have hle := Qau met nm
          have hc0 : ∀ c, D.atKey (.int .i64 nm) (.lit (.int .i64 0)) = .lit (.int .i64 c) → c = first + (placeIn met nm : Int) := by
            intro c hc
            rw [(hN.2.2 nm).2, Jag, if_neg hnew] at hc
            simpa using hc.symm
          have HS2 : Hid (nmTo first t (k + 1) = (met, out ++ [⟨61, first + (placeIn met nm : Int), tx, ks, pl⟩])) := by
            rw [Hid, HS.out, Qae, if_pos rfl]
            simp only
            rw [if_neg hnew]
          obtain ⟨v, hv⟩ : ∃ v, first + (placeIn met nm : Int) = v := ⟨_, rfl⟩
          rw [hv] at HS2 hc0
          have hv0 : (v == 0) = false := by simp; omega
          have hr2 := HR.out.below ((Below.refl _ _).alloc (Nat.le_refl _) (.cells #[.int .i64 61, .int .i64 nm, .string tx, .int .i64 ks, .int .i64 pl] 43))
          have q2 := hr2.midNum hol
          have q3 := hr2.frozen (k * 5 + 1)
          have hgr := HR.out.lt
          have hmlt := hown.lt
          clear HS hnew hle hv
          go_wp2_with (first
            | (at_lookup; refine wpList_lookup_own_int _ rfl _ _ 87 rfl 2 2 .i64 Tryz.law2 Tryz.underlying87 Tryz.underlying2 (Tryz.zero2 _) w1.heap.size k _ rfl (hown.alloc _) _ _ rfl hkey ?_; intro c hat hwc; obtain rfl : v = c := (hc0 c hat).symm)
            | go_in)
          go_roundw
          case rel =>
            have b9 := hbl.setCell (p := ⟨g, k * 5 + 1, none⟩) hg (.int .i64 v)
            refine ⟨k + 1, D, by omega, by go_num, ((hown.setCell (a := ⟨g, k * 5 + 1, none⟩) (by simp; omega) _).alloc _).mono (by omega), by rw [HS2.out]; exact hN, ?_, b9.alloc b9.size _⟩
            rw [HS2.out]
            exact (HR.out.putMid hol).below ((Below.refl _ _).alloc (Nat.le_refl _) _)
          case measure => simp [intOf]; omega
      · have t61 : ((kd : Int) != 61) = true := by simpa using h61
        have HS2 : Hid (nmTo first t (k + 1) = (met, out ++ [⟨kd, nm, tx, ks, pl⟩])) := by
          rw [Hid, HS.out, Qae, if_neg h61]
        clear HS hxw
        go_wp2
        go_roundw
        case rel =>
          refine ⟨k + 1, D, by omega, by go_num, (hown.alloc _).mono (by omega), by rw [HS2.out]; exact hN, ?_, hbl.alloc hbl.size _⟩
          rw [HS2.out]
          simpa using HR.out.below ((Below.refl _ _).alloc (Nat.le_refl _) _)
        case measure => simp [intOf]; omega
    · obtain rfl : k = m := by omega
      have HE : Hid (Row wr g (nmTo first t k).2) := by
        have := hrow
        rw [List.drop_of_length_le (by have := HM.out; omega), List.append_nil] at this
        exact this
      clear hrow hx hx1 hr
      go_wp2
      go_ret
      exact ⟨g, c, rfl, hg, HE.out, hbl⟩
end Go.Proofs.YtoiiibplkhedcaaGreatDoor

namespace Go.Proofs.YtoiiibplkhedcaaGreatDoor
open Go.RowKit Go.Shelf
attribute [local go_sem] Oper.semAt_some
def Box1 (w : World) (b : Nat) (t : TypeId) (v : Value) : Prop := w.heap[b]? = some (.cells #[v] t (0, 0))
theorem Box1.lt {w : World} {b : Nat} {t : TypeId} {v : Value} (h : Box1 w b t v) : b < w.heap.size := (Array.getElem?_eq_some_iff.1 h).1
theorem Box1.cell {w : World} {b : Nat} {t : TypeId} {v : Value} (h : Box1 w b t v) : w.cell? ⟨b, 0, none⟩ = some v := by rw [cell_of_row w b 0 _ t (0, 0) h]; rfl
theorem Box1.below {w w' : World} {B b : Nat} {t : TypeId} {v : Value} (h : Box1 w b t v) (hb : Below B w w') (hlt : b < B) : Box1 w' b t v := (hb.block b hlt).trans h
theorem Box1.but {S : Nat → Prop} {w w' : World} {b : Nat} {t : TypeId} {v : Value} (h : Box1 w b t v) (hb : But S w w') (hs : ¬ S b) : Box1 w' b t v := (hb.block b h.lt hs).trans h
theorem Box1.new (w : World) (t : TypeId) (v : Value) : Box1 (w.alloc (.cells #[v] t)) w.heap.size t v := heap_alloc_new _ _
theorem Box1.alloc {w : World} {b : Nat} {t : TypeId} {v : Value} (h : Box1 w b t v) (o : Obj) : Box1 (w.alloc o) b t v := (Below.heap_alloc w o b h.lt).trans h
end Go.Proofs.YtoiiibplkhedcaaGreatDoor

namespace Go.Proofs.YtoiiibplkhedcaaGreatDoor
open Go.RowKit Go.Maps
def Jac : Value → Option (DataW Value × List MemPlace)
  | .slice a n c => some (.held (.slice a n c), [])
  | _ => none
theorem Qek {v : Value} {z : DataW Value × List MemPlace} (h : Jac v = some z) : (∃ q : Option Addr × Nat × Nat, v = .slice q.1 q.2.1 q.2.2) ∧ z = (.held v, []) := by
  unfold Jac at h
  split at h
  · simp only [Option.some.injEq] at h
    exact ⟨⟨(_, _, _), rfl⟩, h.symm⟩
  · cases h
section
variable {P : Program} (w : World) {ops : Array Oper} {rest : List Oper} {o : Oper} {a : Act} {Q : Exit → Act → World → Prop}
theorem Qag (hg : o.guard = none) (m x : Operand) (t : TypeId) (hop : o.op = Op.lookup t m x true)
    (k e : TypeId) (K : Keyed P k) (ht : P.underlying t = some (.map k e)) {z : Value} (hz : (zeroValue e).run P w = .ok z w) (b n : Nat) (D : DataW Value)
    (hm : a.eval m = .map (some b)) (hown : w.ownsMap P k Jac b n D) (key : Value) (kl : Lit) (hx : a.eval x = key) (hkey : keyOf P k key = some kl)
    {h : Bool} {v : Value} (hzd : Jac z = some (.held z, [])) (hh : Maps.has D kl = h) (hv : D.atKey kl (.held z) = .held v)
    (hK : wpList P ops Q rest (a.put o.dst (.tuple #[v, .bool h])) w) :
    wpList P ops Q (o :: rest) a w :=
  wpList_lookup_own_ok w hg m x t hop k e K ht Jac hz (.held z) [] hzd b n D hm hown key kl hx hkey (fun v' ps hv' => by
    have e9 : v' = v := by
      rw [hv] at hv'
      have h9 := (Qek hv').2
      simp only [Prod.mk.injEq, DataW.held.injEq] at h9
      exact h9.1.symm
    rw [e9, hh]
    exact hK)
theorem Qbk (hg : o.guard = none) (m x : Operand) (t : TypeId) (hop : o.op = Op.lookup t m x false)
    (k e : TypeId) (K : Keyed P k) (ht : P.underlying t = some (.map k e)) {z : Value} (hz : (zeroValue e).run P w = .ok z w) (b n : Nat) (D : DataW Value)
    (hm : a.eval m = .map (some b)) (hown : w.ownsMap P k Jac b n D) (key : Value) (kl : Lit) (hx : a.eval x = key) (hkey : keyOf P k key = some kl)
    {v : Value} (hzd : Jac z = some (.held z, [])) (hv : D.atKey kl (.held z) = .held v)
    (hK : wpList P ops Q rest (a.put o.dst v) w) :
    wpList P ops Q (o :: rest) a w := by
  refine wpList_plain hg fun K' hK' => ?_
  obtain ⟨v', ps, hrun, hv'⟩ := hown.lookup K ht hz (zd := .held z) (zp := []) hzd hkey
  have e9 : v' = v := by
    rw [hv] at hv'
    have h9 := (Qek hv').2
    simp only [Prod.mk.injEq, DataW.held.injEq] at h9
    exact h9.1.symm
  subst e9
  unfold Oper.wp
  simp [execOp, hop, hm, hx, hrun, Result.andThen]
  exact hK' _ _ hK
end
def sl (q : Option Addr × Nat × Nat) : Value := .slice q.1 q.2.1 q.2.2
def FirstD (ps : List (Int × (Option Addr × Nat × Nat))) (D : DataW Value) : Prop :=
  Tidy D ∧ ∀ x : Int, Maps.has D (.int .i64 x) = decide (placeIn (ps.map Prod.fst) x < ps.length) ∧ ∀ (h : placeIn (ps.map Prod.fst) x < ps.length) z, D.atKey (.int .i64 x) z = .held (sl ps[placeIn (ps.map Prod.fst) x].2)
theorem FirstD.start : FirstD [] (.map []) := ⟨tidy_empty, fun _ => ⟨rfl, fun h => by simp at h⟩⟩
theorem Qbv (y : Int) (l : List Int) (x : Int) : placeIn (y :: l) x = if y = x then 0 else placeIn l x + 1 := by
  unfold placeIn
  rw [List.findIdx_cons]
  by_cases h : y = x
  · simp [h]
  · have : (y == x) = false := by simpa using h
    rw [this]; simp [h]
theorem FirstD.put {ps : List (Int × (Option Addr × Nat × Nat))} {D : DataW Value} (h : FirstD ps D) (p : Int × (Option Addr × Nat × Nat)) : FirstD (p :: ps) (D.put (.int .i64 p.1) (.held (sl p.2))) := by
  obtain ⟨h1, h2⟩ := h
  have hkl : ∀ z : Int, WideAt.IsKeyLit (.int .i64 z) := fun _ => trivial
  refine ⟨h1.put (hkl _) _, ?_⟩
  intro x
  by_cases hx : p.1 = x
  · subst hx
    have e : placeIn ((p :: ps).map Prod.fst) p.1 = 0 := by rw [List.map_cons, Qbv, if_pos rfl]
    refine ⟨?_, ?_⟩
    · rw [has_put_same h1.isMap (hkl _), e]
      simp
    · intro h z
      rw [atKey_put_same h1.isMap (hkl _)]
      simp only [e, List.getElem_cons_zero]
  · have hne : (Lit.int .i64 x) ≠ (Lit.int .i64 p.1) := fun h => hx (by simpa using h.symm)
    have e : placeIn ((p :: ps).map Prod.fst) x = placeIn (ps.map Prod.fst) x + 1 := by rw [List.map_cons, Qbv, if_neg hx]
    refine ⟨?_, ?_⟩
    · rw [has_put_other hne, (h2 x).1, e]
      simp
    · intro h z
      rw [atKey_put_other hne]
      simp only [e, List.getElem_cons_succ]
      exact (h2 x).2 (by simp only [e, List.length_cons] at h; omega) z
def Prs (w : World) (ao : Option Addr) (ps : List (Int × (Option Addr × Nat × Nat))) : Prop :=
  ∀ i (h : i < ps.length), ∃ b o, ao = some ⟨b, o, none⟩ ∧ w.cell? ⟨b, o + i * 2, none⟩ = some (.int .i64 ps[i].1) ∧ w.cell? ⟨b, o + i * 2 + 1, none⟩ = some (.slice ps[i].2.1 ps[i].2.2.1 ps[i].2.2.2)
theorem Prs.but {S : Nat → Prop} {w w' : World} {ao : Option Addr} {ps : List (Int × (Option Addr × Nat × Nat))} (h : Prs w ao ps) (hb : But S w w') (hs : ∀ b o, ao = some ⟨b, o, none⟩ → 0 < ps.length → ¬ S b) : Prs w' ao ps := by
  intro i hi
  obtain ⟨b, o, e, h0, h1⟩ := h i hi
  exact ⟨b, o, e, (hb.cell (lt_of_cell h0) (hs b o e (by omega))).trans h0, (hb.cell (lt_of_cell h1) (hs b o e (by omega))).trans h1⟩
theorem Prs.below {w w' : World} {ao : Option Addr} {ps : List (Int × (Option Addr × Nat × Nat))} (h : Prs w ao ps) (hb : Below w.heap.size w w') : Prs w' ao ps := h.but (S := fun _ => False) (But.ofBelow hb) (fun _ _ _ _ h => h)
theorem Binds.prs {w : World} {ao : Option Addr} {bs : List (Int × List Nd)} (h : Binds w ao bs) : ∃ ps : List (Int × (Option Addr × Nat × Nat)), ps.length = bs.length ∧ ps.map Prod.fst = bs.map Prod.fst ∧ Prs w ao ps ∧
    ∀ i (hp : i < ps.length) (hb : i < bs.length), ps[i].2.2.1 = bs[i].2.length ∧ Nodes w ps[i].2.1 bs[i].2 := by
  have inh : Inhabited (Option Addr × Nat) := ⟨none, 0⟩
  obtain ⟨F, hF⟩ := Go.Deep.choose_lt (α := Option Addr × Nat) (n := bs.length) (p := fun i q => ∀ hb : i < bs.length, ∃ b o, ao = some ⟨b, o, none⟩ ∧ w.cell? ⟨b, o + i * 2, none⟩ = some (.int .i64 bs[i].1) ∧ w.cell? ⟨b, o + i * 2 + 1, none⟩ = some (.slice q.1 bs[i].2.length q.2) ∧ Nodes w q.1 bs[i].2) (fun i hi => by
    obtain ⟨b, o, ai, ci, e, h0, hc, hn⟩ := h i hi
    exact ⟨(ai, ci), fun _ => ⟨b, o, e, h0, hc, hn⟩⟩)
  have hget : ∀ i (hp : i < (bs.mapIdx fun i x => (x.1, ((F i).1, x.2.length, (F i).2))).length) (hb : i < bs.length), (bs.mapIdx fun i x => (x.1, ((F i).1, x.2.length, (F i).2)))[i] = (bs[i].1, ((F i).1, bs[i].2.length, (F i).2)) := by
    intro i hp hb
    simp
  refine ⟨bs.mapIdx fun i x => (x.1, ((F i).1, x.2.length, (F i).2)), by simp, ?_, ?_, ?_⟩
  · apply List.ext_getElem
    · simp
    · intro i h1 h2
      simp
  · intro i hi
    have hb : i < bs.length := by simpa using hi
    obtain ⟨b, o, e, h0, h1, _⟩ := hF i hb hb
    refine ⟨b, o, e, ?_, ?_⟩
    · rw [hget i hi hb]; exact h0
    · rw [hget i hi hb]; exact h1
  · intro i hp hb
    obtain ⟨b, o, e, h0, h1, hn⟩ := hF i hb hb
    rw [hget i hp hb]
    exact ⟨rfl, hn⟩
end Go.Proofs.YtoiiibplkhedcaaGreatDoor

namespace Go.Proofs.YtoiiibplkhedcaaGreatDoor
open Go.RowKit Go.Shelf Go.Maps
attribute [local go_sem] Oper.semAt_some
theorem Qav {P : Program} {k : TypeId} {H : Type} {R : Value → Option (DataW H × List MemPlace)} {w w' : World} {b n : Nat} {D : DataW H} (h : w.ownsMap P k R b n D) (e : w'.heap[b]? = w.heap[b]?) : w'.ownsMap P k R b n D := by
  obtain ⟨es, clock, hb, F, hs, hD⟩ := h
  exact ⟨es, clock, e.trans hb, F, hs, hD⟩
theorem But.ofBelow' {B : Nat} {a b : World} (h : Below B a b) : But (B ≤ ·) a b := ⟨h.os, h.tape, h.output, h.size, fun i _ hn => h.block i (by omega)⟩
def Jbr (x : Nat × (Int × (Option Addr × Nat × Nat))) : Array Value := #[.int .i64 (x.1 : Int), .agg #[.int .i64 x.2.1, .slice x.2.2.1 x.2.2.2.1 x.2.2.2.2]]
def Jck (q : Nat) (ao : Option Addr) (cap Bb : Nat) (ps : List (Int × (Option Addr × Nat × Nat))) (A : World) : Prop := Box1 A Bb 30 (.slice ao q cap) ∧ Prs A ao ps
set_option maxRecDepth 100000 in
set_option maxHeartbeats 2000000 in
theorem Qcp (q : Nat) (hq : q ≤ 1048576) (ao : Option Addr) (cap Bb : Nat) (ps : List (Int × (Option Addr × Nat × Nat))) (HP : Hid (ps.length = q)) (n₀ n : Nat) (w : World) :
    Iter Fence.wide n Tryz.prog 105 #[.pointer (some ⟨Bb, 0, none⟩)] Jbr (fun xs => xs.length = q) (fun _ => True) (fun pre x => x.1 + 1 + pre.length = q ∧ ps[x.1]? = some x.2) (Jck q ao cap Bb ps) q n₀ w := by
  intro J Jx hJ hRd hY W hW hWs h0
  obtain ⟨hbx, _⟩ := hRd _ _ h0
  have hc := hbx.cell
  refine callsIn_of_wp Tryz.func105 rfl trivial ?_
  simp only [Tryz.ntmps105, List.size_toArray, List.length_cons, List.length_nil, Nat.reduceAdd, Nat.reduceSub, Array.replicate_succ, Array.replicate_zero, List.push_toArray, List.append_toArray, List.nil_append, List.cons_append]
  gi_wp2
  clear hbx hc
  gi_loopw [3] (fun p wr => ∃ (r : Nat) (pre : List (Nat × (Int × (Option Addr × Nat × Nat)))), p = .int .i64 ((r : Int) - 1) ∧ r + pre.length = q ∧ J pre wr) (fun p _ => (intOf p + 1).toNat)
  case atStart => exact ⟨q, [], rfl, by simp, h0⟩
  case round =>
    obtain ⟨r, pre, rfl, hr, hj⟩ := hrel
    by_cases hr0 : 0 < r
    · obtain ⟨r', rfl⟩ : ∃ r', r = r' + 1 := ⟨r - 1, by omega⟩
      obtain ⟨hbx, hsp⟩ := hRd _ _ hj
      have hc := hbx.cell
      have hlt : r' < ps.length := by have := HP.out; omega
      obtain ⟨b, o, rfl, c0, c1⟩ := hsp r' hlt
      have hps : ps[r']? = some ps[r'] := List.getElem?_eq_getElem hlt
      obtain ⟨⟨nm, sa, sn, sc⟩, hs⟩ : ∃ p, ps[r'] = p := ⟨_, rfl⟩
      rw [hs] at c0 c1 hps
      simp only at c0 c1
      obtain ⟨fn, tmps, assign, body, hy, hR⟩ := hY pre (r', nm, sa, sn, sc) _ hj (by omega) ⟨by show r' + 1 + pre.length = q; omega, hps⟩
      simp only [Jbr] at hy
      have e1 : (((r' + 1 : Nat) : Int) - 1) = (r' : Int) := by omega
      rw [e1]
      have hrq : r' < q := by omega
      clear hsp hs hlt h0 hps
      gi_wp2_with fail
      refine ⟨fun h => (by cases h), hR.mono ?_⟩
      rintro e W3 (⟨rfl, hJ3, hk3⟩ | ⟨rfl, hJx3⟩)
      · gi_wp2
        go_roundw
        case rel => exact ⟨r', pre ++ [(r', nm, sa, sn, sc)], by go_num, by simp; omega, hJ3⟩
        case measure => simp [intOf]
      · gi_wp2
        refine bodyPost_ret (results_none rfl _ _ _) rfl ?_
        exact ⟨⟨_, rfl⟩, .inr ⟨pre ++ [(r', nm, sa, sn, sc)], trivial, hJx3⟩⟩
    · have hr00 : r = 0 := by omega
      subst hr00
      gi_wp2
      go_end0
      exact ⟨⟨_, rfl⟩, .inl ⟨pre, by omega, hj⟩⟩
theorem Qdn (ao : Option Addr) (q cap : Nat) (w : World) :
    Calls Tryz.prog 88 #[.slice ao q cap] w fun e w' => e = .returned (.func (.func 105) #[] #[.pointer (some ⟨w.heap.size, 0, none⟩)]) ∧ w' = w.alloc (.cells #[.slice ao q cap] 30) := by
  go_enter Tryz.func88, Tryz.ntmps88
  go_wp2
  go_ret
  exact ⟨rfl, rfl⟩
structure TRnd (w : World) (z : Nat) (ao : Option Addr) (q cap : Nat) (ps : List (Int × (Option Addr × Nat × Nat))) (pre : List (Nat × (Int × (Option Addr × Nat × Nat)))) (W : World) : Prop where
  len : pre.length ≤ q
  own : ∃ D, W.ownsMap Tryz.prog 2 Jac z pre.length D ∧ FirstD (ps.drop (q - pre.length)) D
  box : Box1 W (z + 1) 67 (.map (some z))
  back : Box1 W (z + 1 + 1) 30 (.slice ao q cap)
  prs : Prs W ao ps
  below : Below w.heap.size w W
theorem TRnd.but {S : Nat → Prop} {w W W' : World} {z : Nat} {ao : Option Addr} {q cap : Nat} {ps : List (Int × (Option Addr × Nat × Nat))} {pre : List (Nat × (Int × (Option Addr × Nat × Nat)))} (h : TRnd w z ao q cap ps pre W) (hb : But S W W') (hz : w.heap.size ≤ z) (hs : ∀ k, S k → z + 3 ≤ k) (ha : ∀ b o, ao = some ⟨b, o, none⟩ → 0 < ps.length → b < w.heap.size) : TRnd w z ao q cap ps pre W' := by
  obtain ⟨D, hD, hF⟩ := h.own
  refine ⟨h.len, ⟨D, Qav hD (hb.block z hD.lt (fun h9 => by have := hs _ h9; omega)), hF⟩, h.box.but hb (fun h9 => by have := hs _ h9; omega), h.back.but hb (fun h9 => by have := hs _ h9; omega), h.prs.but hb (fun b o e h0 h9 => by have := hs _ h9; have := ha b o e h0; omega), ?_⟩
  exact h.below.trans (hb.below h.below.size (fun k hk => by have := hs _ hk; omega))
set_option maxRecDepth 100000 in
set_option maxHeartbeats 2000000 in
theorem Qeu (ps : List (Int × (Option Addr × Nat × Nat))) (q : Nat) (HP : Hid (ps.length = q)) (hq : q ≤ 1048576) (HW : Hid (∀ p ∈ ps, (Lit.int .i64 p.1).wf = true)) (ao : Option Addr) (cap : Nat) (w : World) (hx : Prs w ao ps) :
    Calls Tryz.prog 51 #[.slice ao q cap] w fun e w' => ∃ D, e = .returned (.map (some w.heap.size)) ∧ w'.ownsMap Tryz.prog 2 Jac w.heap.size q D ∧ FirstD ps D ∧ Below w.heap.size w w' := by
  obtain ⟨n, hn⟩ : ∃ n : Nat, 6 ≤ n := ⟨6, Nat.le_refl _⟩
  refine (callsIn_wide (n := n)).1 ?_
  refine callsIn_of_wp_marks Tryz.func51 rfl trivial ?_
  simp only [Tryz.ntmps51, List.size_toArray, List.length_cons, List.length_nil, Nat.reduceAdd, Nat.reduceSub, Array.replicate_succ, Array.replicate_zero, List.push_toArray, List.append_toArray, List.nil_append, List.cons_append]
  have hmm := @run_makeMap Tryz.prog
  gi_wp2_with fail
  refine ⟨trivial, fun h => (by cases h), callsIn_wide.2 ((Qdn _ q _ _).mono ?_)⟩
  rintro e w4 ⟨rfl, rfl⟩
  gi_wp2
  obtain ⟨z, hz⟩ : ∃ z, w.heap.size = z := ⟨_, rfl⟩
  have hT : TRnd w z ao q cap ps [] (((w.alloc (.map #[] 0)).alloc (.cells #[.map (some z)] 67)).alloc (.cells #[.slice ao q cap] 30)) := by
    subst hz
    have hA : Below w.heap.size w (w.alloc (.map #[] 0)) := (Below.refl _ w).alloc (Nat.le_refl _) _
    have hB := hA.alloc hA.size (.cells #[.map (some w.heap.size)] 67)
    have hC := hB.alloc hB.size (.cells #[.slice ao q cap] 30)
    refine ⟨Nat.zero_le _, ⟨.map [], ((World.ownsMap_made w Tryz.prog 2 Jac).alloc _).alloc _, ?_⟩, ?_, ?_, hx.below hC, hC⟩
    · rw [List.drop_of_length_le (by have := HP.out; simp; omega)]
      exact FirstD.start
    · have h9 := (Box1.new (w.alloc (.map #[] 0)) 67 (.map (some w.heap.size))).alloc (.cells #[.slice ao q cap] 30)
      simpa using h9
    · have h9 := Box1.new ((w.alloc (.map #[] 0)).alloc (.cells #[.map (some w.heap.size)] 67)) 30 (.slice ao q cap)
      simpa using h9
  have hal : ∀ b o, ao = some ⟨b, o, none⟩ → 0 < ps.length → b < w.heap.size := by
    intro b o e h0
    obtain ⟨b', o', e', c0, _⟩ := hx 0 h0
    rw [e] at e'
    simp only [Option.some.injEq, Addr.mk.injEq, and_true] at e'
    rw [e'.1]
    exact lt_of_cell c0
  have hs1 : (((w.alloc (.map #[] 0)).alloc (.cells #[.map (some z)] 67)).alloc (.cells #[.slice ao q cap] 30)).heap.size = z + 3 := by simp [hz]
  simp only [hz]
  generalize ((w.alloc (.map #[] 0)).alloc (.cells #[.map (some z)] 67)).alloc (.cells #[.slice ao q cap] 30) = W1 at hT hs1 ⊢
  clear hx
  refine wpIn_range (α := Nat × (Int × (Option Addr × Nat × Nat))) rfl (by omega) (gf := 105) (lb := #[.pointer (some ⟨z + 1 + 1, 0, none⟩)]) rfl trivial (enters_of Tryz.func105 (by kernel_rfl) rfl)
    (encs := Jbr) w.heap.size (by omega) (Qcp q hq ao cap (z + 1 + 1) ps HP w.heap.size (n - 1) W1) (fun _ => rfl)
    (fun pre W => TRnd w z ao q cap ps pre W)
    (fun _ _ _ => False) ?hI (fun _ _ _ _ h _ => h) ?hRd hT ?round ?done (fun _ _ _ _ h _ => h.elim)
  case hI =>
    rintro s A C h hb
    exact h.but (But.ofBelow' hb) (by omega) (fun k hk => by omega) hal
  case hRd =>
    rintro s A h
    exact ⟨h.back, h.prs⟩
  case round =>
    rintro pre ⟨k, nm, sa, sn, sc⟩ W hK hlen hfit hsz
    obtain ⟨hfit, hps⟩ := hfit
    simp only at hfit hps
    simp only [Jbr]
    have HS1 : Hid (W1.heap.size = z + 3) := hs1
    clear hs1
    gi_wp2
    refine ⟨But.ofBelow ((Below.refl _ W).alloc (Nat.le_refl _) _), ?_⟩
    intro Wb hWb
    have hs1 := HS1.out
    have hKa := hK.but (S := fun _ => False) (But.ofBelow ((Below.refl _ W).alloc (Nat.le_refl _) (.cells #[.int .i64 nm, .slice sa sn sc] 54))) (by omega) (fun _ h => h.elim) hal
    have hKb := hKa.but hWb (by omega) (fun k hk => by omega) hal
    have hblk : Wb.heap[W.heap.size]? = some (.cells #[.int .i64 nm, .slice sa sn sc] 54 (0, 0)) := (hWb.block W.heap.size (by simp) (by omega)).trans (heap_alloc_new _ _)
    have u0 : Wb.cell? ⟨W.heap.size, 0, none⟩ = some (.int .i64 nm) := by rw [cell_of_row _ _ _ _ _ _ hblk]; rfl
    have u1 : Wb.cell? ⟨W.heap.size, 1, none⟩ = some (.slice sa sn sc) := by rw [cell_of_row _ _ _ _ _ _ hblk]; rfl
    obtain ⟨D, hown, hF⟩ := hKb.own
    have hlt := (List.getElem?_eq_some_iff.1 hps).1
    have hwf := HW.out (nm, sa, sn, sc) (List.mem_of_getElem? hps)
    have hkey : keyOf Tryz.prog 2 (.int .i64 nm) = some (.int .i64 nm) := keyOf_int_mk Tryz.underlying2 hwf
    have hc := hKb.box.cell
    have hd : ps.drop (q - (pre.length + 1)) = (nm, sa, sn, sc) :: ps.drop (q - pre.length) := by
      have e1 : q - (pre.length + 1) = k := by omega
      have e2 : q - pre.length = k + 1 := by omega
      rw [e1, e2, List.drop_eq_getElem_cons hlt]
      congr 1
      rw [List.getElem?_eq_getElem hlt] at hps
      simpa using hps
    have hF2 := hF.put (nm, sa, sn, sc)
    rw [← hd] at hF2
    have HF2 : Hid (FirstD (ps.drop (q - (pre.length + 1))) (D.put (.int .i64 nm) (.held (.slice sa sn sc)))) := hF2
    have HFIN : Hid (∀ w2, w2.ownsMap Tryz.prog 2 Jac z (pre.length + 1) (D.put (.int .i64 nm) (.held (.slice sa sn sc))) → Wb.grownBy w2 (some z) → But (Mine w.heap.size W1.heap.size) Wb w2 ∧ TRnd w z ao q cap ps (pre ++ [(k, nm, sa, sn, sc)]) w2) := by
      intro w2 hown2 hg2
      have hbut : But (· = z) Wb w2 := (But.refl (· = z) Wb).grown hg2 (fun _ => rfl)
      refine ⟨⟨hbut.os, hbut.tape, hbut.output, hbut.size, fun i hi hn => hbut.block i hi (fun e => hn (by subst e; exact ⟨by omega, by omega⟩))⟩, ?_⟩
      refine ⟨by simp; omega, ⟨_, by simpa using hown2, by simpa using HF2.out⟩, hKb.box.but hbut (by omega), hKb.back.but hbut (by omega), hKb.prs.but hbut (fun b o e h0 e2 => by have := hal b o e h0; omega), hKb.below.trans (hbut.below hKb.below.size (fun k hk => by omega))⟩
    clear hF hF2 hd hlt hwf hps hblk hKa hK hWb HF2
    obtain ⟨w2, hrun, hown2, hgrow2⟩ := hown.update Tryz.law2 Tryz.underlying67 (by unfold maxLen; omega) hkey (val := .slice sa sn sc) (d := .held (.slice sa sn sc)) (ps := []) rfl
    gi_wp2
    exact HFIN.out w2 hown2 hgrow2
  case done =>
    rintro xs W hxl hK hD
    have hxl : xs.length = q := hxl
    obtain ⟨D, hown, hF⟩ := hK.own
    rw [hxl, Nat.sub_self, List.drop_zero] at hF
    rw [hxl] at hown
    have hput : But (· = W1.heap.size) W (W.putObj W1.heap.size (.deferred none)) := But.putObj _ _ _ rfl
    have hq := hK.box.cell
    have hown9 := Qav hown (hput.block z hown.lt (by omega))
    have hb9 := hK.below.trans (hput.below hK.below.size (fun k hk => by omega))
    rw [hs1] at hD hput hown9 hb9 ⊢
    clear hK hown
    gi_wp2
    refine ⟨by simp, .inl ⟨_, _, rfl, run_takeDeferred hD, ?_⟩⟩
    subst hz
    exact ⟨_, results_tmp rfl _ _ _, D, rfl, hown9, hF, hb9⟩
end Go.Proofs.YtoiiibplkhedcaaGreatDoor

namespace Go.Proofs.YtoiiibplkhedcaaGreatDoor
open Go.Shelf
end Go.Proofs.YtoiiibplkhedcaaGreatDoor

namespace Go.Proofs.YtoiiibplkhedcaaGreatDoor
open Go.RowKit Go.Maps Go.Sort Go.Shelf
structure RwsAt (W : World) (B b n : Nat) (E : Int → Option (List Nd)) (D : DataW Value) (F : Int → Nat × Nat) : Prop where
  own : W.ownsMap Tryz.prog 2 Jac b n D
  has : ∀ x, Maps.has D (.int .i64 x) = (E x).isSome
  at' : ∀ x t, E x = some t → (∀ z, D.atKey (.int .i64 x) z = .held (.slice (some ⟨(F x).1, 0, none⟩) t.length (F x).2)) ∧ B ≤ (F x).1 ∧ Row W (F x).1 t
  apart : ∀ x y, (E x).isSome = true → (E y).isSome = true → x ≠ y → (F x).1 ≠ (F y).1
def Rws (W : World) (B b n : Nat) (E : Int → Option (List Nd)) : Prop := ∃ D F, RwsAt W B b n E D F
theorem Rws.made (w : World) (B : Nat) : Rws (w.alloc (.map #[] 0)) B w.heap.size 0 (fun _ => none) :=
  ⟨.map [], fun _ => (0, 0), World.ownsMap_made w Tryz.prog 2 Jac, fun _ => rfl, fun x t h => (by cases h), fun x y h => (by cases h)⟩
theorem RwsAt.but {S : Nat → Prop} {W W' : World} {B b n : Nat} {E : Int → Option (List Nd)} {D : DataW Value} {F : Int → Nat × Nat} (h : RwsAt W B b n E D F) (hb : But S W W') (hS : ∀ k, S k → k ≠ b ∧ ∀ cs t f, W.heap[k]? ≠ some (.cells cs t f)) : RwsAt W' B b n E D F := by
  refine ⟨Qav h.own (hb.block b h.own.lt (fun h9 => (hS b h9).1 rfl)), h.has, fun x t hx => ?_, h.apart⟩
  obtain ⟨h1, h2, h3⟩ := h.at' x t hx
  refine ⟨h1, h2, hb.row h3 ?_⟩
  intro h9
  obtain ⟨cur, rest, hc, _⟩ := h3
  exact (hS _ h9).2 _ _ _ hc
theorem Rws.but {S : Nat → Prop} {W W' : World} {B b n : Nat} {E : Int → Option (List Nd)} (h : Rws W B b n E) (hb : But S W W') (hS : ∀ k, S k → k ≠ b ∧ ∀ cs t f, W.heap[k]? ≠ some (.cells cs t f)) : Rws W' B b n E := by
  obtain ⟨D, F, h⟩ := h
  exact ⟨D, F, h.but hb hS⟩
theorem Rws.below {W W' : World} {B b n : Nat} {E : Int → Option (List Nd)} (h : Rws W B b n E) (hb : Below W.heap.size W W') : Rws W' B b n E :=
  h.but (S := fun _ => False) (But.ofBelow hb) (fun _ h => h.elim)
theorem Rws.alloc {W : World} {B b n : Nat} {E : Int → Option (List Nd)} (h : Rws W B b n E) (o : Obj) : Rws (W.alloc o) B b n E := h.below ((Below.refl _ _).alloc (Nat.le_refl _) _)
def upE (E : Int → Option (List Nd)) (x : Int) (t : List Nd) : Int → Option (List Nd) := fun y => if y = x then some t else E y
theorem Qda (E : Int → Option (List Nd)) (x : Int) (t : List Nd) : upE E x t x = some t := by simp [upE]
theorem Qap (E : Int → Option (List Nd)) (x y : Int) (t : List Nd) (h : y ≠ x) : upE E x t y = E y := by simp [upE, h]
def Qcl (E : Int → Option (List Nd)) (bs : List (Int × List Nd)) : Prop := (bs.map Prod.fst).Pairwise (· < ·) ∧ (∀ p ∈ bs, E p.1 = some p.2) ∧ ∀ x, (E x).isSome = true → x ∈ bs.map Prod.fst
def Tryz.laysK65_ren : Go.Shelf.Ren := ⟨fun | 6 => 65 | 8 => 95 | 9 => 96 | 11 => 108 | 13 => 110 | 12 => 109 | 23 => 122 | 24 => 123 | 14 => 113 | 15 => 114 | 16 => 115 | 17 => 116 | 18 => 117 | 19 => 118 | 20 => 119 | 21 => 120 | 22 => 121 | 25 => 127 | 26 => 128 | 27 => 129 | 28 => 130 | 29 => 131 | 30 => 132 | 31 => 133 | n => n, fun | 26 => 2 | 28 => 124 | 24 => 75 | 0 => 0 | 3 => 3 | 37 => 197 | 48 => 217 | 50 => 219 | 4 => 4 | 40 => 209 | 39 => 208 | 45 => 214 | 5 => 5 | 9 => 9 | 51 => 224 | 55 => 228 | 57 => 230 | 58 => 35 | 33 => 173 | n => n, fun | n => n⟩
theorem Tryz.laysK65 : Go.Proofs.SlLaysZI.n6 Tryz.prog Tryz.laysK65_ren := {
  mixed := by kernel_rfl
  f6 := ⟨Tryz.f65.name, by decide, Tryz.func65.trans (congrArg some (by kernel_rfl))⟩
  f8 := ⟨Tryz.f95.name, by decide, Tryz.func95.trans (congrArg some (by kernel_rfl))⟩
  f11 := ⟨Tryz.f108.name, by decide, Tryz.func108.trans (congrArg some (by kernel_rfl))⟩
  t0 := Tryz.underlying0
  a0 := Tryz.isAgg0
  z0 := Tryz.sizeOf0
  v0 := Tryz.zeroValue0
  t24 := Tryz.underlying75
  a24 := Tryz.isAgg75
  z24 := Tryz.sizeOf75
  v24 := Tryz.zeroValue75
  t26 := Tryz.underlying2
  a26 := Tryz.isAgg2
  z26 := Tryz.sizeOf2
  v26 := Tryz.zeroValue2
  t28 := Tryz.underlying124
  a28 := Tryz.isAgg124
  z28 := Tryz.sizeOf124
  v28 := Tryz.zeroValue124
  i26 := by kernel_rfl }
def Tryz.laysK66_ren : Go.Shelf.Ren := ⟨fun | 7 => 66 | 10 => 97 | n => n, fun | 23 => 67 | 26 => 2 | 3 => 23 | 28 => 124 | 0 => 0 | 27 => 123 | 33 => 173 | 4 => 4 | n => n, fun | n => n⟩
theorem Tryz.laysK66 : Go.Proofs.SlLaysZI.n7 Tryz.prog Tryz.laysK66_ren := {
  mixed := by kernel_rfl
  f7 := ⟨Tryz.f66.name, by decide, Tryz.func66.trans (congrArg some (by kernel_rfl))⟩
  f10 := ⟨Tryz.f97.name, by decide, Tryz.func97.trans (congrArg some (by kernel_rfl))⟩
  t0 := Tryz.underlying0
  a0 := Tryz.isAgg0
  z0 := Tryz.sizeOf0
  v0 := Tryz.zeroValue0
  t4 := Tryz.underlying4
  a4 := Tryz.isAgg4
  z4 := Tryz.sizeOf4
  v4 := Tryz.zeroValue4
  t23 := Tryz.underlying67
  a23 := Tryz.isAgg67
  z23 := Tryz.sizeOf67
  v23 := Tryz.zeroValue67
  t26 := Tryz.underlying2
  a26 := Tryz.isAgg2
  z26 := Tryz.sizeOf2
  v26 := Tryz.zeroValue2
  t27 := Tryz.underlying123
  a27 := Tryz.isAgg123
  z27 := Tryz.sizeOf123
  v27 := Tryz.zeroValue123
  t28 := Tryz.underlying124
  a28 := Tryz.isAgg124
  z28 := Tryz.sizeOf124
  v28 := Tryz.zeroValue124
  t33 := Tryz.underlying173
  a33 := Tryz.isAgg173
  z33 := Tryz.sizeOf173
  v33 := Tryz.zeroValue173 }
def Tryz.laysK96_ren : Go.Shelf.Ren := ⟨fun | 5 => 96 | 8 => 110 | 7 => 109 | 19 => 122 | 20 => 123 | 10 => 113 | 11 => 114 | 12 => 115 | 13 => 116 | 14 => 117 | 15 => 118 | 16 => 119 | 17 => 120 | 18 => 121 | 30 => 127 | 31 => 128 | 32 => 129 | 33 => 130 | 34 => 131 | 35 => 132 | 40 => 133 | n => n, fun | 23 => 75 | 25 => 2 | 3 => 3 | 32 => 197 | 22 => 75 | 0 => 0 | 44 => 217 | 46 => 219 | 4 => 4 | 36 => 209 | 35 => 208 | 41 => 214 | 5 => 5 | 9 => 9 | 53 => 224 | 57 => 228 | 63 => 230 | 64 => 35 | n => n, fun | n => n⟩
theorem Tryz.laysK96 : Go.Proofs.SlLaysM.n5 Tryz.prog Tryz.laysK96_ren := {
  mixed := by kernel_rfl
  f5 := ⟨Tryz.f96.name, by decide, Tryz.func96.trans (congrArg some (by kernel_rfl))⟩
  f7 := ⟨Tryz.f109.name, by decide, Tryz.func109.trans (congrArg some (by kernel_rfl))⟩
  f8 := Tryz.func110.trans (congrArg some (by kernel_rfl))
  f10 := ⟨Tryz.f113.name, by decide, Tryz.func113.trans (congrArg some (by kernel_rfl))⟩
  f11 := ⟨Tryz.f114.name, by decide, Tryz.func114.trans (congrArg some (by kernel_rfl))⟩
  f12 := ⟨Tryz.f115.name, by decide, Tryz.func115.trans (congrArg some (by kernel_rfl))⟩
  f13 := ⟨Tryz.f116.name, by decide, Tryz.func116.trans (congrArg some (by kernel_rfl))⟩
  f14 := ⟨Tryz.f117.name, by decide, Tryz.func117.trans (congrArg some (by kernel_rfl))⟩
  f15 := ⟨Tryz.f118.name, by decide, Tryz.func118.trans (congrArg some (by kernel_rfl))⟩
  f16 := ⟨Tryz.f119.name, by decide, Tryz.func119.trans (congrArg some (by kernel_rfl))⟩
  f17 := ⟨Tryz.f120.name, by decide, Tryz.func120.trans (congrArg some (by kernel_rfl))⟩
  f18 := ⟨Tryz.f121.name, by decide, Tryz.func121.trans (congrArg some (by kernel_rfl))⟩
  f19 := Tryz.func122.trans (congrArg some (by kernel_rfl))
  f20 := Tryz.func123.trans (congrArg some (by kernel_rfl))
  f30 := ⟨Tryz.f127.name, by decide, Tryz.func127.trans (congrArg some (by kernel_rfl))⟩
  f31 := Tryz.func128.trans (congrArg some (by kernel_rfl))
  f32 := Tryz.func129.trans (congrArg some (by kernel_rfl))
  f33 := ⟨Tryz.f130.name, by decide, Tryz.func130.trans (congrArg some (by kernel_rfl))⟩
  f34 := ⟨Tryz.f131.name, by decide, Tryz.func131.trans (congrArg some (by kernel_rfl))⟩
  f35 := ⟨Tryz.f132.name, by decide, Tryz.func132.trans (congrArg some (by kernel_rfl))⟩
  f40 := ⟨Tryz.f133.name, by decide, Tryz.func133.trans (congrArg some (by kernel_rfl))⟩
  t0 := Tryz.underlying0
  a0 := Tryz.isAgg0
  z0 := Tryz.sizeOf0
  v0 := Tryz.zeroValue0
  t3 := Tryz.underlying3
  a3 := Tryz.isAgg3
  z3 := Tryz.sizeOf3
  v3 := Tryz.zeroValue3
  t4 := Tryz.underlying4
  a4 := Tryz.isAgg4
  z4 := Tryz.sizeOf4
  v4 := Tryz.zeroValue4
  t5 := Tryz.underlying5
  a5 := Tryz.isAgg5
  z5 := Tryz.sizeOf5
  v5 := Tryz.zeroValue5
  t9 := Tryz.underlying9
  a9 := Tryz.isAgg9
  z9 := Tryz.sizeOf9
  v9 := Tryz.zeroValue9
  t22 := Tryz.underlying75
  a22 := Tryz.isAgg75
  z22 := Tryz.sizeOf75
  v22 := Tryz.zeroValue75
  t23 := Tryz.underlying75
  a23 := Tryz.isAgg75
  z23 := Tryz.sizeOf75
  v23 := Tryz.zeroValue75
  t25 := Tryz.underlying2
  a25 := Tryz.isAgg2
  z25 := Tryz.sizeOf2
  v25 := Tryz.zeroValue2
  t32 := Tryz.underlying197
  a32 := Tryz.isAgg197
  z32 := Tryz.sizeOf197
  v32 := Tryz.zeroValue197
  t35 := Tryz.underlying208
  a35 := Tryz.isAgg208
  z35 := Tryz.sizeOf208
  v35 := Tryz.zeroValue208
  t36 := Tryz.underlying209
  a36 := Tryz.isAgg209
  z36 := Tryz.sizeOf209
  v36 := Tryz.zeroValue209
  t41 := Tryz.underlying214
  a41 := Tryz.isAgg214
  z41 := Tryz.sizeOf214
  v41 := Tryz.zeroValue214
  t44 := Tryz.underlying217
  a44 := Tryz.isAgg217
  z44 := Tryz.sizeOf217
  v44 := Tryz.zeroValue217
  t46 := Tryz.underlying219
  a46 := Tryz.isAgg219
  z46 := Tryz.sizeOf219
  v46 := Tryz.zeroValue219
  t53 := Tryz.underlying224
  a53 := Tryz.isAgg224
  z53 := Tryz.sizeOf224
  v53 := Tryz.zeroValue224
  t57 := Tryz.underlying228
  a57 := Tryz.isAgg228
  z57 := Tryz.sizeOf228
  v57 := Tryz.zeroValue228
  t63 := Tryz.underlying230
  a63 := Tryz.isAgg230
  z63 := Tryz.sizeOf230
  v63 := Tryz.zeroValue230
  t64 := Tryz.underlying35
  a64 := Tryz.isAgg35
  z64 := Tryz.sizeOf35
  v64 := Tryz.zeroValue35 }
theorem Jbp (mb : Option Nat) (W : World) : Calls Tryz.prog 66 #[.map mb] W fun e w' => e = .returned (.func (.func 97) #[] #[.pointer (some ⟨W.heap.size, 0, none⟩)]) ∧ w' = W.alloc (.cells #[.map mb] 67) :=
  (callsIn_wide (n := 1)).1 (AnyZI.keys_in Tryz.laysK66 Fence.wide 1 trivial rfl mb W)
theorem Jcd (m : Nat) : AnyZI.SortsIn Tryz.prog Tryz.laysK65_ren Fence.wide m :=
  ⟨fun blk off cap ss W hH hblk hsz => callsIn_wide.2 (AnyM.slices_Sort_int Tryz.laysK96 blk off cap ss W hH hblk hsz),
   fun p cap W => callsIn_wide.2 (AnyM.slices_Sort_int_none Tryz.laysK96 p cap W)⟩
theorem Qew (b nn : Nat) (D : DataW Value) (w : World) (hown : w.ownsMap Tryz.prog 2 Jac b nn D) (hmax : nn ≤ 1048576) :
    Calls Tryz.prog 65 #[.func (.func 97) #[] #[.pointer (some ⟨w.heap.size, 0, none⟩)]] (w.alloc (.cells #[.map (some b)] 67)) fun e w' =>
      ∃ (v : Value) (ss : List Int), e = .returned v ∧ ss.Perm (intKeys D) ∧ w'.ownsRow (w.alloc (.cells #[.map (some b)] 67)).heap.size 2 1 v ss.length ((ss.mergeSort (fun x y => decide (x ≤ y))).map encZ) ∧ (v = .slice none 0 0 ↔ ss = []) ∧ Below (w.alloc (.cells #[.map (some b)] 67)).heap.size (w.alloc (.cells #[.map (some b)] 67)) w' := by
  have hbl := hown.lt
  have hsz := hown.size_le
  have hseq : SeqGives Fence.wide 2 Tryz.prog 97 #[.pointer (some ⟨w.heap.size, 0, none⟩)] encZ (fun ss => ss.Perm (intKeys D)) (Maps.size D) (w.alloc (.cells #[.map (some b)] 67)) :=
    AnyZI.keys_gives (ρ := Tryz.laysK66_ren) { Tryz.laysK66 with } Fence.wide _ trivial rfl (by omega) w.heap.size b nn D _ (by simp) (by simp) (by
      obtain ⟨es, clock, hb, Ft, hs, hD⟩ := hown
      exact ⟨es, clock, (Below.heap_alloc _ _ b hbl).trans hb, Ft, hs, hD⟩)
  refine (callsIn_wide (n := 5)).1 ?_
  exact AnyZI.sorted_in Tryz.laysK65 Fence.wide 5 trivial trivial trivial trivial rfl (by omega) (Jcd _) (enters_of Tryz.func96 (by kernel_rfl) rfl) 97 #[.pointer (some ⟨w.heap.size, 0, none⟩)] trivial (enters_of Tryz.func97 (by kernel_rfl) rfl) _ _ (by unfold maxLen; omega) (by omega) _ hseq
theorem Qfw {w : World} {B n : Nat} {v : Value} {ks : List Int} (h : w.ownsRow B 2 1 v n (ks.map encZ)) (hn : ks.length = n) : ∃ ao c, v = .slice ao n c ∧ LCells w ao ks ∧ ∀ bb oo, ao = some ⟨bb, oo, none⟩ → B ≤ bb := by
  obtain ⟨_, h⟩ := h
  rcases h with ⟨rfl, rfl⟩ | ⟨g, cap, cur, rfl, hB, hb, h1, h2, h3, h4⟩
  · have : ks = [] := List.eq_nil_of_length_eq_zero hn
    subst this
    exact ⟨none, 0, rfl, fun i hi => (by simp at hi), fun bb oo e => (by cases e)⟩
  · refine ⟨_, _, rfl, fun i hi => ⟨g, 0, rfl, ?_⟩, fun bb oo e => (by simp only [Option.some.injEq, Addr.mk.injEq, and_true] at e; omega)⟩
    rw [Nat.zero_add, cell_of_row _ _ _ _ _ _ hb]
    have h5 : (cur.toList.take (n * 1))[i]? = some (.int .i64 ks[i]) := by
      rw [h4]
      simp [hi]
    rw [List.getElem?_take_of_lt (by omega)] at h5
    simpa using h5
theorem Jbo {w : World} {b n : Nat} {D : DataW Value} (hown : w.ownsMap Tryz.prog 2 Jac b n D) : (intKeys D).Nodup ∧ ∀ x, x ∈ intKeys D ↔ Maps.has D (.int .i64 x) = true := by
  obtain ⟨es, clock, hb, F, hs, hD⟩ := hown
  have hown : w.ownsMap Tryz.prog 2 Jac b n D := ⟨es, clock, hb, F, hs, hD⟩
  have hk := fit_keys F
  obtain ⟨es', hD', hp', _⟩ := hown.entries Tryz.law2
  have hkeys : ∀ p ∈ es', ∃ x, p.1 = .int .i64 x := by
    intro p hp
    have h9 : p ∈ (es.toList.map (WideElems.rg Tryz.prog 2 Jac)).foldr DataW.insert [] := by
      rw [hD] at hD'
      simp only [DataW.map.injEq] at hD'
      rw [hD']
      exact hp
    rw [mem_sorted] at h9
    obtain ⟨v, hv⟩ := hk p h9
    obtain ⟨x, _, e, _⟩ := keyOf_i64 Tryz.underlying2 hv
    exact ⟨x, e⟩
  subst hD'
  have hmem : ∀ x, x ∈ intKeys (DataW.map es') ↔ Maps.has (DataW.map es') (.int .i64 x) = true := by
    intro x
    rw [has_eq, List.any_eq_true]
    show x ∈ es'.map (fun p => Go.intOf p.1) ↔ _
    rw [List.mem_map]
    constructor
    · rintro ⟨p, hp, rfl⟩
      obtain ⟨a, ha⟩ := hkeys p hp
      exact ⟨p, hp, by rw [ha]; simp [Lit.sameKey, Go.intOf]⟩
    · rintro ⟨p, hp, hs⟩
      obtain ⟨a, ha⟩ := hkeys p hp
      rw [ha] at hs
      exact ⟨p, hp, by rw [ha]; simpa [Lit.sameKey, Go.intOf] using hs⟩
  refine ⟨?_, hmem⟩
  show (es'.map fun p => Go.intOf p.1).Nodup
  refine List.pairwise_map.2 (hp'.imp_of_mem fun {p q} hp hq hne e => hne ?_)
  obtain ⟨a, ha⟩ := hkeys p hp
  obtain ⟨c, hc⟩ := hkeys q hq
  rw [ha, hc] at e ⊢
  exact congrArg _ e
theorem Qde {ss : List Int} (h : ss.Nodup) : (ss.mergeSort (fun x y => decide (x ≤ y))).Pairwise (· < ·) := by
  have hp : (ss.mergeSort fun x y => decide (x ≤ y)).Pairwise (· ≤ ·) := by
    have := List.pairwise_mergeSort (le := fun x y : Int => decide (x ≤ y)) (fun a b c h1 h2 => by simp at *; omega) (fun a b => by simp; omega) ss
    simpa using this
  have hn : (ss.mergeSort fun x y => decide (x ≤ y)).Nodup := (List.mergeSort_perm ss _).nodup_iff.2 h
  exact (hp.and hn).imp (fun {a b} h => by obtain ⟨h1, h2⟩ := h; have : a ≠ b := h2; omega)
def Qcy (E : Int → Option (List Nd)) (F : Int → Nat × Nat) (x : Int) : Value × Value := (.int .i64 x, .slice (some ⟨(F x).1, 0, none⟩) ((E x).getD []).length (F x).2)
set_option maxRecDepth 100000 in
set_option maxHeartbeats 2000000 in
theorem Qci (E : Int → Option (List Nd)) (B b n : Nat) (hn : n ≤ 100000) (w : World) (h : Rws w B b n E) (hB : B ≤ w.heap.size) :
    Calls Tryz.prog 31 #[.map (some b)] w fun e w' => ∃ ag cg bs, e = .returned (.slice ag bs.length cg) ∧ Qcl E bs ∧ BAns w' B ag bs ∧ Below w.heap.size w w' := by
  obtain ⟨D, F, hR⟩ := h
  obtain ⟨i0, hi, hz0, hz1, hz2⟩ := info_parts Tryz.infoB
  have hA : Below w.heap.size w (w.alloc (.cells #[] 54)) := (Below.refl _ w).alloc (Nat.le_refl _) _
  have hO := OwnBs.empty (w := w) (B := w.heap.size) (Nat.le_refl _)
  have hR1 := hR.but (S := fun _ => False) (But.ofBelow hA) (fun _ h => h.elim)
  have hSK := Qew b n D _ hR1.own (by omega)
  simp only [World.size_alloc] at hSK
  have hKM := Jbo hR.own
  have hz : ∀ w, (zeroValue 23).run Tryz.prog w = .ok (.slice none 0 0) w := fun w => by kernel_rfl
  go_enter Tryz.func31, Tryz.ntmps31
  go_wp2_with fail
  refine (Jbp (some b) _).mono ?_
  rintro e w1 ⟨rfl, rfl⟩
  go_wp2_with fail
  refine hSK.mono ?_
  rintro e w2 ⟨v, ss, rfl, hperm, hrow, _, hb2⟩
  obtain ⟨ks, hks⟩ : ∃ ks, ss.mergeSort (fun x y => decide (x ≤ y)) = ks := ⟨_, rfl⟩
  have hkl : ks.length = ss.length := by rw [← hks, List.length_mergeSort]
  have hup : ks.Pairwise (· < ·) := by rw [← hks]; exact Qde (hperm.nodup_iff.2 hKM.1)
  have hmem : ∀ x, x ∈ ks ↔ (E x).isSome = true := by
    intro x
    rw [← hks, (List.mergeSort_perm ss _).mem_iff, hperm.mem_iff, hKM.2 x, hR.has x]
  have hwf : ∀ x ∈ ks, (Lit.int .i64 x).wf = true := by
    intro x hx
    rw [← hks, (List.mergeSort_perm ss _).mem_iff, hperm.mem_iff] at hx
    exact intKeys_wf hR.own Tryz.underlying2 x hx
  rw [hks] at hrow
  obtain ⟨q, hq⟩ : ∃ q, ss.length = q := ⟨_, rfl⟩
  have hqn : q ≤ n := by
    rw [← hq, hperm.length_eq]
    have h9 := hR.own.size_le
    obtain ⟨es, clock, _, _, _, hD⟩ := hR.own
    rw [hD] at h9 ⊢
    simpa [intKeys, Maps.size] using h9
  rw [hq] at hrow hkl
  obtain ⟨ao, c, rfl, hcs, hao⟩ := Qfw hrow hkl
  have hbA : Below w.heap.size w (((w.alloc (.cells #[] 54)).alloc (.cells #[.map (some b)] 67))) := hA.alloc hA.size _
  have hb := Below.step hbA (hb2.mono (by simp))
  have hO2 : OwnBs w2 w.heap.size w.heap.size 0 0 [] := (hO.alloc (.cells #[.map (some b)] 67)).below (by simpa using hb2)
  have HKL : Hid (ks.length = q) := hkl
  have HMEM : Hid (∀ x, x ∈ ks ↔ (E x).isSome = true) := hmem
  have HUP : Hid (ks.Pairwise (· < ·)) := hup
  have HWF : Hid (∀ x ∈ ks, (Lit.int .i64 x).wf = true) := hwf
  have hw2 := hb.size
  clear hSK hKM hperm hrow hb2 hks hkl hup hmem hwf hbA hA hO hq hR1
  go_wp2
  go_loopw [3, 11] (fun v p wr => ∃ (k g c : Nat), k ≤ q ∧ p = .int .i64 k ∧ v = .slice (some ⟨g, 0, none⟩) k c ∧ OwnBs wr w.heap.size g c k ((ks.take k).map (Qcy E F)) ∧ Below w.heap.size w wr ∧ LCells wr ao ks ∧ (g = w.heap.size ∨ w2.heap.size ≤ g) ∧ w2.heap.size ≤ wr.heap.size) (fun _ p _ => q - (RowKit.intOf p).toNat)
  case atStart => exact ⟨0, w.heap.size, 0, Nat.zero_le _, rfl, rfl, by simpa using hO2, hb, hcs, Or.inl rfl, Nat.le_refl _⟩
  case round =>
    have hgv : ∀ bb oo, ao = some ⟨bb, oo, none⟩ → 0 < q → bb < w2.heap.size := by
      intro bb oo e h0
      obtain ⟨b9, o9, e9, hc9⟩ := hcs 0 (by have := HKL.out; omega)
      rw [e] at e9
      simp only [Option.some.injEq, Addr.mk.injEq, and_true] at e9
      rw [e9.1]
      exact lt_of_cell hc9
    clear hO2 hb hcs
    obtain ⟨k, g, c', hk, rfl, rfl, hown, hb, hcs, hgg, hws⟩ := hrel
    by_cases hlt : k < q
    · have hltk : k < ks.length := by have := HKL.out; omega
      obtain ⟨x, hxk⟩ : ∃ x, ks[k] = x := ⟨_, rfl⟩
      have hxm : x ∈ ks := by rw [← hxk]; exact List.getElem_mem hltk
      have hxw := HWF.out x hxm
      obtain ⟨t, ht⟩ := Option.isSome_iff_exists.1 ((HMEM.out x).1 hxm)
      obtain ⟨hat, _, _⟩ := hR.at' x t ht
      have hv := hat (.held (.slice none 0 0))
      have hkey : keyOf Tryz.prog 2 (.int .i64 x) = some (.int .i64 x) := keyOf_int_mk Tryz.underlying2 hxw
      have hblt := hR.own.lt
      have hown9 := Qav hR.own (hb.block b hblt)
      obtain ⟨bb, oo, rfl, hcell⟩ := hcs k hltk
      rw [hxk] at hcell
      have hbb := hgv bb oo rfl (by omega)
      have hbo := hao bb oo rfl
      have HL : Hid ((ks.take (k + 1)).map (Qcy E F) = (ks.take k).map (Qcy E F) ++ [(.int .i64 x, .slice (some ⟨(F x).1, 0, none⟩) t.length (F x).2)]) := by
        rw [Hid, List.take_succ_eq_append_getElem hltk, List.map_append, hxk]
        simp [Qcy, ht]
      obtain ⟨l, hl⟩ : ∃ l, t.length = l := ⟨_, rfl⟩
      rw [hl] at hv HL
      generalize (F x).1 = f1 at hv HL
      generalize (F x).2 = f2 at hv HL
      obtain ⟨Z, hZ⟩ : ∃ Z, (ks.take k).map (Qcy E F) = Z := ⟨_, rfl⟩
      rw [hZ] at hown HL
      clear hZ
      have hone := bind_cells wr x (.slice (some ⟨f1, 0, none⟩) l f2)
      have hob := owns_block hown.2
      have hcsw := hcs
      clear hat ht hl hxm hxk hltk
      go_wp2_with (first
        | (at_lookup; refine Qbk _ rfl _ _ 67 rfl 2 23 Tryz.law2 Tryz.underlying67 (hz _) b n D rfl hown9 _ _ rfl hkey rfl hv ?_)
        | (at_builtin; refine wpList_append2 _ rfl (.tmp 15) (.tmp 21) 30 rfl w.heap.size 54 i0 _ 2 32 Tryz.underlying30 hi hz0 hz1 hz2 rfl (by decide) g k c' _ rfl (hown.alloc _).2 ⟨_, 0, none⟩ 1 1 [.int .i64 x, .slice (some ⟨f1, 0, none⟩) l f2] rfl rfl hone (bind_one _ _ _ _) ?a3 ?a4 ?a5 ?_)
        | go_in)
      case a3 => unfold maxLen; omega
      case a4 => omega
      case a5 => have := hb.size; simp; omega
      intro g2 c2 w3 hown3 hgrow3 hwh
      have hO3 := OwnBs.push (x := (.int .i64 x, .slice (some ⟨f1, 0, none⟩) l f2)) hown3 hown.1 rfl
      rw [← HL.out] at hO3
      have hb3 : Below w.heap.size w w3 := (hb.alloc hb.size _).grown hgrow3 (hb.alloc hb.size _).size (fun j hj => by cases hj; exact hob.1)
      have hcs3 : LCells w3 (some ⟨bb, oo, none⟩) ks := by
        intro i hi'
        obtain ⟨b9, o9, e9, hc9⟩ := hcsw i hi'
        simp only [Option.some.injEq, Addr.mk.injEq, and_true] at e9
        obtain ⟨rfl, rfl⟩ := e9
        refine ⟨_, _, rfl, ?_⟩
        rw [Qeq hgrow3 (by simp; omega) (by omega)]
        exact (((Below.refl _ wr).alloc (Nat.le_refl _) _).cell (p := ⟨bb, oo + i, none⟩) (lt_of_cell hc9)).trans hc9
      have hs3 := hgrow3.size
      have hg2 : g2 = w.heap.size ∨ w2.heap.size ≤ g2 := by
        rcases hwh with h9 | h9
        · omega
        · omega
      clear hown3 hgrow3 hwh hown hb hcs hcsw hone hcell
      go_wp2
      go_roundw
      case rel => exact ⟨k + 1, g2, c2, by omega, by go_num, rfl, hO3, hb3, hcs3, hg2, by simp at hs3; omega⟩
      case measure => simp [RowKit.intOf]; omega
    · have hkq : k = q := by omega
      subst hkq
      have HT : Hid (ks.take k = ks) := List.take_of_length_le (by have := HKL.out; omega)
      rw [HT.out] at hown
      obtain ⟨hg, hrw⟩ := hown.row
      clear hcs hown
      go_wp2
      go_ret
      refine ⟨some ⟨g, 0, none⟩, c', ks.map (fun x => (x, (E x).getD [])), by simp [HKL.out], ?_, ?_, hb⟩
      · refine ⟨?_, ?_, ?_⟩
        · rw [List.map_map]
          have e9 : (Prod.fst ∘ fun x => (x, (E x).getD [])) = fun x : Int => x := rfl
          rw [e9, List.map_id']
          exact HUP.out
        · intro p hp
          obtain ⟨x, hx, rfl⟩ := List.mem_map.1 hp
          obtain ⟨t, ht⟩ := Option.isSome_iff_exists.1 ((HMEM.out x).1 hx)
          simp [ht]
        · intro x hx
          rw [List.map_map]
          exact List.mem_map.2 ⟨x, (HMEM.out x).2 hx, rfl⟩
      · refine Or.inr ⟨g, ks.map F, rfl, by omega, ?_, ?_⟩
        · intro r hr
          obtain ⟨x, hx, rfl⟩ := List.mem_map.1 hr
          obtain ⟨t, ht⟩ := Option.isSome_iff_exists.1 ((HMEM.out x).1 hx)
          exact (hR.at' x t ht).2.1
        · refine ⟨by simp, ?_, ?_, ?_⟩
          · have e9 : leadR (ks.map F) (ks.map (fun x => (x, (E x).getD []))) = ks.map (Qcy E F) := by
              unfold leadR
              rw [List.zipWith_map, List.zipWith_self]
              rfl
            rw [e9]
            exact hrw
          · intro i hi1 hi2
            have hi3 : i < ks.length := by simpa using hi1
            obtain ⟨t, ht⟩ := Option.isSome_iff_exists.1 ((HMEM.out ks[i]).1 (List.getElem_mem hi3))
            have h9 := (hR.at' ks[i] t ht).2.2
            simp only [List.getElem_map, ht, Option.getD_some]
            obtain ⟨cur, rest, hc9, e9⟩ := h9
            exact ⟨cur, rest, (hb.block _ (Array.getElem?_eq_some_iff.1 hc9).1).trans hc9, e9⟩
          · rw [List.map_map]
            refine List.pairwise_map.2 (HUP.out.imp_of_mem fun {x y} hx hy hlt' => ?_)
            exact hR.apart x y ((HMEM.out x).1 hx) ((HMEM.out y).1 hy) (by omega)
end Go.Proofs.YtoiiibplkhedcaaGreatDoor
