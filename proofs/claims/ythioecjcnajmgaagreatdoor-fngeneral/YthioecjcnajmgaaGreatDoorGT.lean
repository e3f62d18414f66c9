import Derived.Test.YthioecjcnajmgaaGreatDoorGD
import Derived.Test.YthioecjcnajmgaaGreatDoorGS
import Derived.Test.YthioecjcnajmgaaGreatDoorGB
import Derived.Test.YthioecjcnajmgaaGreatDoorGA
import Derived.Maps.OwnSet
import Derived.Maps.OwnOps
import Derived.Deep.Slices
import Derived.Maps.OwnIn
import Derived.Shelf.SlGeneric
import Derived.Shelf.SlLaysZI
import Derived.Shelf.SlIterI.Sorted
import Derived.Shelf.SlIterI.Keys
import Derived.Shelf.SlIterI.Collect
import Derived.Shelf.SlLaysM
import Derived.Shelf.SortM.Plain
import Derived.Shelf.SortM.AssemblyIn
import Derived.Ground.SlgmProg
import Derived.Ground.GgzProg
import Derived.Test.YthioecjcnajmgaaGreatDoorProg
import Derived.Shelf.SortM.SortNone
import Derived.Maps.RangeWalk
namespace Go.Proofs.YthioecjcnajmgaaGreatDoor
open Go.RowKit

theorem nodes_news {w : World} {ad : Addr} {xs : List Nd} (h : Nodes w (some ad) xs) : ∀ j u, (flat xs)[j]? = some u → w.cell? (ad.add j) = some u := by
  intro j u hj
  have hl : j < (flat xs).length := (List.getElem?_eq_some_iff.1 hj).1
  rw [flat_length] at hl
  have hq : j / 5 < xs.length := by omega
  obtain ⟨b, o, e, hn⟩ := h (j / 5) hq
  simp only [Option.some.injEq] at e
  subst e
  have ej : j = (j / 5) * 5 + j % 5 := by omega
  have hr : j % 5 < 5 := by omega
  have hg := flat_get xs (j / 5) (j % 5) hq hr
  rw [← ej] at hg
  rw [hg] at hj
  have ad1 : ∀ k, Addr.add ⟨b, o, none⟩ k = ⟨b, o + k, none⟩ := by
    intro k
    unfold Addr.add
    split
    · rename_i h0; rw [h0]; rfl
    · rfl
  obtain ⟨c0, c1, c2, c3, c4⟩ := hn
  have ad2 : Addr.add ⟨b, o, none⟩ j = ⟨b, o + j / 5 * 5 + j % 5, none⟩ := by
    rw [ad1]
    congr 1
    omega
  rw [ad2]
  generalize j % 5 = r at hj hr ⊢
  match r, hr with
  | 0, _ => simp [Nd.row] at hj; subst hj; exact c0
  | 1, _ => simp [Nd.row] at hj; subst hj; exact c1
  | 2, _ => simp [Nd.row] at hj; subst hj; exact c2
  | 3, _ => simp [Nd.row] at hj; subst hj; exact c3
  | 4, _ => simp [Nd.row] at hj; subst hj; exact c4

set_option maxHeartbeats 400000 in
theorem clone_any (xs : List Nd) (m : Nat) (HM : Hid (xs.length = m)) (hm : m ≤ 1048576) (ad : Addr) (cap : Nat) (w : World) (hx : Nodes w (some ad) xs) :
    Calls Tryz.prog 57 #[.slice (some ad) m cap] w fun e w' => ∃ g c, e = .returned (.slice (some ⟨g, 0, none⟩) m c) ∧ w.heap.size ≤ g ∧ Row w' g xs ∧ Below w.heap.size w w' := by
  obtain ⟨i0, hi, hz0, hz1, hz2⟩ := info_parts Tryz.infoN
  have hO := OwnN.empty (w := w) (B := w.heap.size) (Nat.le_refl _)
  have hnil : ∀ (w : World), (binOp .eql 27 (.slice (some ad) m cap) (.slice none 0 0)).run Tryz.prog w = .ok (.bool false) w := fun w => Lib.run_eql_slice_nil w _ _ (some ad) m cap 0 0 Tryz.underlying27
  have hn := nodes_news (hx.below ((Below.refl _ w).alloc (Nat.le_refl _) (.cells #[] 40)))
  go_enter Tryz.func57, Tryz.ntmps57
  clear hx
  go_wp2_with (at_builtin; refine wpList_append2 _ rfl (.tmp 5) (.tmp 6) 27 rfl w.heap.size 40 i0 _ 5 48 Tryz.underlying27 hi hz0 hz1 hz2 rfl (by decide) w.heap.size 0 0 _ rfl hO.2 ad m cap (flat xs) rfl ?a1 hn (nd_flat_one xs) ?a3 ?a4 ?a5 ?_)
  case a1 => rw [flat_length, HM.out]
  case a3 => unfold maxLen; omega
  case a4 => omega
  case a5 => simp
  intro g2 c2 w2 hown2 hgrow2 hwh
  have hF : OwnN w2 w.heap.size g2 c2 m xs := ⟨HM.out, by simpa [flat] using hown2⟩
  obtain ⟨hg, hr⟩ := hF.row
  have hbb : Below w.heap.size w w2 := ((Below.refl _ w).alloc (Nat.le_refl _) _).grown hgrow2 (by simp) (fun q hq => by cases hq; exact Nat.le_refl _)
  clear hown2 hgrow2 hwh hF hO hn
  go_wp2
  go_ret
  exact ⟨_, _, rfl, hg, hr, hbb⟩

end Go.Proofs.YthioecjcnajmgaaGreatDoor

namespace Go.Proofs.YthioecjcnajmgaaGreatDoor
open Go.RowKit

/-- An answer: a slice of nodes that is empty, or a row of the call's own, from block B on. -/
def Ans (w : World) (B : Nat) (ao : Option Addr) (zs : List Nd) : Prop := zs = [] ∨ ∃ g, ao = some ⟨g, 0, none⟩ ∧ B ≤ g ∧ Row w g zs

theorem Ans.nodes {w : World} {B : Nat} {ao : Option Addr} {zs : List Nd} (h : Ans w B ao zs) : Nodes w ao zs := by
  rcases h with rfl | ⟨g, rfl, _, hr⟩
  · exact fun i hi => by simp at hi
  · exact hr.nodes

theorem Ans.below {w w' : World} {B : Nat} {ao : Option Addr} {zs : List Nd} (h : Ans w B ao zs) (hb : Below w.heap.size w w') : Ans w' B ao zs := by
  rcases h with rfl | ⟨g, rfl, hB, hr⟩
  · exact Or.inl rfl
  · exact Or.inr ⟨g, rfl, hB, hr.below hb⟩

theorem Ans.but {S : Nat → Prop} {w w' : World} {B : Nat} {ao : Option Addr} {zs : List Nd} (h : Ans w B ao zs) (hb : But S w w') (hS : ∀ g, ao = some ⟨g, 0, none⟩ → B ≤ g → Row w g zs → ¬ S g) : Ans w' B ao zs := by
  rcases h with rfl | ⟨g, rfl, hB, hr⟩
  · exact Or.inl rfl
  · exact Or.inr ⟨g, rfl, hB, hb.row hr (hS g rfl hB hr)⟩

theorem Ans.mono {w : World} {B B' : Nat} {ao : Option Addr} {zs : List Nd} (h : Ans w B ao zs) (hB : B' ≤ B) : Ans w B' ao zs := by
  rcases h with rfl | ⟨g, rfl, h1, hr⟩
  · exact Or.inl rfl
  · exact Or.inr ⟨g, rfl, by omega, hr⟩

end Go.Proofs.YthioecjcnajmgaaGreatDoor

namespace Go.Proofs.YthioecjcnajmgaaGreatDoor
open Go.RowKit Go.Maps

theorem placeIn_le (met : List Int) (x : Int) : placeIn met x ≤ met.length := List.findIdx_le_length

theorem placeIn_snoc (met : List Int) (x : Int) : placeIn (met ++ [x]) x = if placeIn met x = met.length then met.length else placeIn met x := by
  unfold placeIn
  rw [List.findIdx_append]
  have h := @List.findIdx_le_length _ (fun y => y == x) met
  by_cases h1 : List.findIdx (fun y => y == x) met = met.length
  · rw [if_pos h1, if_neg (by omega)]
    simp
  · rw [if_neg h1, if_pos (by omega)]

theorem placeIn_snoc_ne (met : List Int) (x y : Int) (hne : y ≠ x) : placeIn (met ++ [x]) y = if placeIn met y = met.length then met.length + 1 else placeIn met y := by
  unfold placeIn
  rw [List.findIdx_append]
  have h := @List.findIdx_le_length _ (fun z => z == y) met
  by_cases h1 : List.findIdx (fun z => z == y) met = met.length
  · have h2 : (x == y) = false := by simpa using fun h => hne h.symm
    rw [if_pos h1, if_neg (by omega)]
    simp [h2, List.findIdx_cons, Nat.add_comm]
  · rw [if_neg h1, if_pos (by omega)]

/-- What the map of numbers says of a number: 0 where it is not met. -/
def numAt (first : Int) (met : List Int) (x : Int) : Int := if placeIn met x = met.length then 0 else first + placeIn met x

/-- The map of numbers, as a datum. -/
def NumsD (first : Int) (met : List Int) (D : DataW Unit) : Prop :=
  Tidy D ∧ Maps.size D = met.length ∧ ∀ x : Int, Maps.has D (.int .i64 x) = !(placeIn met x == met.length) ∧ D.atKey (.int .i64 x) (.lit (.int .i64 0)) = .lit (.int .i64 (numAt first met x))

theorem NumsD.start (first : Int) : NumsD first [] (.map []) := ⟨tidy_empty, rfl, fun _ => ⟨rfl, rfl⟩⟩

theorem NumsD.store {first : Int} {met : List Int} {D : DataW Unit} (h : NumsD first met D) (x : Int) (hx : placeIn met x = met.length) :
    NumsD first (met ++ [x]) (D.put (.int .i64 x) (.lit (.int .i64 (first + met.length)))) := by
  obtain ⟨h1, h2, h3⟩ := h
  have hkl : ∀ z : Int, WideAt.IsKeyLit (.int .i64 z) := fun _ => trivial
  refine ⟨h1.put (hkl x) _, ?_, ?_⟩
  · rw [size_put h1, (h3 x).1, hx]
    simp [h2]
  · intro y
    by_cases hy : y = x
    · subst hy
      refine ⟨?_, ?_⟩
      · rw [has_put_same h1.isMap (hkl y), placeIn_snoc, if_pos hx]
        simp
      · rw [atKey_put_same h1.isMap (hkl y)]
        unfold numAt
        rw [placeIn_snoc, if_pos hx, if_neg (by simp)]
    · have hne : (Lit.int .i64 y) ≠ (Lit.int .i64 x) := fun h => hy (by simpa using h)
      refine ⟨?_, ?_⟩
      · rw [has_put_other hne, (h3 y).1, placeIn_snoc_ne _ _ _ hy]
        have := placeIn_le met y
        by_cases h9 : placeIn met y = met.length
        · rw [if_pos h9]; simp [h9]
        · rw [if_neg h9]
          have q : (placeIn met y == met.length) = false := by simpa using h9
          have q2 : (placeIn met y == (met ++ [x]).length) = false := by simp; omega
          rw [q, q2]
      · rw [atKey_put_other hne, (h3 y).2]
        unfold numAt
        rw [placeIn_snoc_ne _ _ _ hy]
        have := placeIn_le met y
        by_cases h9 : placeIn met y = met.length
        · rw [if_pos h9, if_pos h9, if_pos (by simp)]
        · rw [if_neg h9, if_neg h9, if_neg (by simp; omega)]

theorem Tryz.law2 : Keyed Tryz.prog 2 := int_keyed Tryz.underlying2
theorem row_kept {w w' : World} {g k : Nat} {ys : List Nd} (h : Row w g ys) (hg : w.grownBy w' (some k)) (hne : g ≠ k) : Row w' g ys := by
  have hlt := h.lt
  obtain ⟨cur, rest, hb, e⟩ := h
  exact ⟨cur, rest, (hg.block g hlt (by simpa using hne)).trans hb, e⟩

theorem cell_kept {w w' : World} {g k o : Nat} (hg : w.grownBy w' (some k)) (hl : g < w.heap.size) (hne : g ≠ k) : w'.cell? ⟨g, o, none⟩ = w.cell? ⟨g, o, none⟩ := by
  have h := hg.block g hl (by simpa using hne)
  unfold World.cell?
  rw [h]

end Go.Proofs.YthioecjcnajmgaaGreatDoor

namespace Go.Proofs.YthioecjcnajmgaaGreatDoor
open Go.RowKit Go.Shelf

attribute [local go_sem] Oper.semAt_some

/-- A box of one cell. -/
def Box1 (w : World) (b : Nat) (t : TypeId) (v : Value) : Prop := w.heap[b]? = some (.cells #[v] t (0, 0))

theorem Box1.lt {w : World} {b : Nat} {t : TypeId} {v : Value} (h : Box1 w b t v) : b < w.heap.size := (Array.getElem?_eq_some_iff.1 h).1

theorem Box1.cell {w : World} {b : Nat} {t : TypeId} {v : Value} (h : Box1 w b t v) : w.cell? ⟨b, 0, none⟩ = some v := by rw [cell_of_row w b 0 _ t (0, 0) h]; rfl

theorem Box1.frozen {w : World} {b : Nat} {t : TypeId} {v : Value} (h : Box1 w b t v) : w.frozen? ⟨b, 0, none⟩ = false := frozen_of_row w b 0 _ t h

theorem Box1.set {w : World} {b : Nat} {t : TypeId} {v : Value} (h : Box1 w b t v) (u : Value) : Box1 (w.setCell ⟨b, 0, none⟩ u) b t u := heap_setCell_same w b 0 _ t u h

theorem Box1.below {w w' : World} {B b : Nat} {t : TypeId} {v : Value} (h : Box1 w b t v) (hb : Below B w w') (hlt : b < B) : Box1 w' b t v := (hb.block b hlt).trans h

theorem Box1.but {S : Nat → Prop} {w w' : World} {b : Nat} {t : TypeId} {v : Value} (h : Box1 w b t v) (hb : But S w w') (hs : ¬ S b) : Box1 w' b t v := (hb.block b h.lt hs).trans h

theorem Box1.new (w : World) (t : TypeId) (v : Value) : Box1 (w.alloc (.cells #[v] t)) w.heap.size t v := heap_alloc_new _ _

theorem Box1.alloc {w : World} {b : Nat} {t : TypeId} {v : Value} (h : Box1 w b t v) (o : Obj) : Box1 (w.alloc o) b t v := (Below.heap_alloc w o b h.lt).trans h

/-- The three boxes of Part. -/
def boxes (w : World) (g m cm : Nat) (i : Int) : World :=
  ((w.alloc (.cells #[.slice (some ⟨g, 0, none⟩) m cm] 27)).alloc (.cells #[.int .i64 i] 3)).alloc (.cells #[.slice none 0 0] 27)

end Go.Proofs.YthioecjcnajmgaaGreatDoor

namespace Go.Proofs.YthioecjcnajmgaaGreatDoor
open Go.RowKit Go.Maps

/-- An element of a map that is a slice, and reads as itself. -/
def heldE : Value → Option (DataW Value × List MemPlace)
  | .slice a n c => some (.held (.slice a n c), [])
  | _ => none

theorem heldE_inv {v : Value} {z : DataW Value × List MemPlace} (h : heldE v = some z) : (∃ q : Option Addr × Nat × Nat, v = .slice q.1 q.2.1 q.2.2) ∧ z = (.held v, []) := by
  unfold heldE at h
  split at h
  · simp only [Option.some.injEq] at h
    exact ⟨⟨(_, _, _), rfl⟩, h.symm⟩
  · cases h

section
variable {P : Program} (w : World) {ops : Array Oper} {rest : List Oper} {o : Oper} {a : Act} {Q : Exit → Act → World → Prop}

theorem wpList_lookup_held1 (hg : o.guard = none) (m x : Operand) (t : TypeId) (hop : o.op = Op.lookup t m x false)
    (k e : TypeId) (K : Keyed P k) (ht : P.underlying t = some (.map k e)) {z : Value} (hz : (zeroValue e).run P w = .ok z w) (b n : Nat) (D : DataW Value)
    (hm : a.eval m = .map (some b)) (hown : w.ownsMap P k heldE b n D) (key : Value) (kl : Lit) (hx : a.eval x = key) (hkey : keyOf P k key = some kl)
    {v : Value} (hzd : heldE z = some (.held z, [])) (hv : D.atKey kl (.held z) = .held v)
    (hK : wpList P ops Q rest (a.put o.dst v) w) :
    wpList P ops Q (o :: rest) a w := by
  refine wpList_plain hg fun K' hK' => ?_
  obtain ⟨v', ps, hrun, hv'⟩ := hown.lookup K ht hz (zd := .held z) (zp := []) hzd hkey
  have e9 : v' = v := by
    rw [hv] at hv'
    have h9 := (heldE_inv hv').2
    simp only [Prod.mk.injEq, DataW.held.injEq] at h9
    exact h9.1.symm
  subst e9
  unfold Oper.wp
  simp [execOp, hop, hm, hx, hrun, Result.andThen]
  exact hK' _ _ hK
end

/-- A slice value. -/
def sl (q : Option Addr × Nat × Nat) : Value := .slice q.1 q.2.1 q.2.2

/-- The map of the first of several entries with one number. -/
def FirstD (ps : List (Int × (Option Addr × Nat × Nat))) (D : DataW Value) : Prop :=
  Tidy D ∧ ∀ x : Int, Maps.has D (.int .i64 x) = decide (placeIn (ps.map Prod.fst) x < ps.length) ∧ ∀ (h : placeIn (ps.map Prod.fst) x < ps.length) z, D.atKey (.int .i64 x) z = .held (sl ps[placeIn (ps.map Prod.fst) x].2)

theorem FirstD.start : FirstD [] (.map []) := ⟨tidy_empty, fun _ => ⟨rfl, fun h => by simp at h⟩⟩

theorem placeIn_cons (y : Int) (l : List Int) (x : Int) : placeIn (y :: l) x = if y = x then 0 else placeIn l x + 1 := by
  unfold placeIn
  rw [List.findIdx_cons]
  by_cases h : y = x
  · simp [h]
  · have : (y == x) = false := by simpa using h
    rw [this]; simp [h]

theorem FirstD.put {ps : List (Int × (Option Addr × Nat × Nat))} {D : DataW Value} (h : FirstD ps D) (p : Int × (Option Addr × Nat × Nat)) : FirstD (p :: ps) (D.put (.int .i64 p.1) (.held (sl p.2))) := by
  obtain ⟨h1, h2⟩ := h
  have hkl : ∀ z : Int, WideAt.IsKeyLit (.int .i64 z) := fun _ => trivial
  refine ⟨h1.put (hkl _) _, ?_⟩
  intro x
  by_cases hx : p.1 = x
  · subst hx
    have e : placeIn ((p :: ps).map Prod.fst) p.1 = 0 := by rw [List.map_cons, placeIn_cons, if_pos rfl]
    refine ⟨?_, ?_⟩
    · rw [has_put_same h1.isMap (hkl _), e]
      simp
    · intro h z
      rw [atKey_put_same h1.isMap (hkl _)]
      simp only [e, List.getElem_cons_zero]
  · have hne : (Lit.int .i64 x) ≠ (Lit.int .i64 p.1) := fun h => hx (by simpa using h.symm)
    have e : placeIn ((p :: ps).map Prod.fst) x = placeIn (ps.map Prod.fst) x + 1 := by rw [List.map_cons, placeIn_cons, if_neg hx]
    refine ⟨?_, ?_⟩
    · rw [has_put_other hne, (h2 x).1, e]
      simp
    · intro h z
      rw [atKey_put_other hne]
      simp only [e, List.getElem_cons_succ]
      exact (h2 x).2 (by simp only [e, List.length_cons] at h; omega) z

/-- Cells in pairs: a number, a slice. -/
def Prs (w : World) (ao : Option Addr) (ps : List (Int × (Option Addr × Nat × Nat))) : Prop :=
  ∀ i (h : i < ps.length), ∃ b o, ao = some ⟨b, o, none⟩ ∧ w.cell? ⟨b, o + i * 2, none⟩ = some (.int .i64 ps[i].1) ∧ w.cell? ⟨b, o + i * 2 + 1, none⟩ = some (.slice ps[i].2.1 ps[i].2.2.1 ps[i].2.2.2)

theorem Prs.but {S : Nat → Prop} {w w' : World} {ao : Option Addr} {ps : List (Int × (Option Addr × Nat × Nat))} (h : Prs w ao ps) (hb : But S w w') (hs : ∀ b o, ao = some ⟨b, o, none⟩ → 0 < ps.length → ¬ S b) : Prs w' ao ps := by
  intro i hi
  obtain ⟨b, o, e, h0, h1⟩ := h i hi
  exact ⟨b, o, e, (hb.cell (lt_of_cell h0) (hs b o e (by omega))).trans h0, (hb.cell (lt_of_cell h1) (hs b o e (by omega))).trans h1⟩

theorem Prs.below {w w' : World} {ao : Option Addr} {ps : List (Int × (Option Addr × Nat × Nat))} (h : Prs w ao ps) (hb : Below w.heap.size w w') : Prs w' ao ps := h.but (S := fun _ => False) (But.ofBelow hb) (fun _ _ _ _ h => h)

/-- What lies in a slice of Binds. -/
theorem Binds.prs {w : World} {ao : Option Addr} {bs : List (Int × List Nd)} (h : Binds w ao bs) : ∃ ps : List (Int × (Option Addr × Nat × Nat)), ps.length = bs.length ∧ ps.map Prod.fst = bs.map Prod.fst ∧ Prs w ao ps ∧
    ∀ i (hp : i < ps.length) (hb : i < bs.length), ps[i].2.2.1 = bs[i].2.length ∧ Nodes w ps[i].2.1 bs[i].2 := by
  have inh : Inhabited (Option Addr × Nat) := ⟨none, 0⟩
  obtain ⟨F, hF⟩ := Go.Deep.choose_lt (α := Option Addr × Nat) (n := bs.length) (p := fun i q => ∀ hb : i < bs.length, ∃ b o, ao = some ⟨b, o, none⟩ ∧ w.cell? ⟨b, o + i * 2, none⟩ = some (.int .i64 bs[i].1) ∧ w.cell? ⟨b, o + i * 2 + 1, none⟩ = some (.slice q.1 bs[i].2.length q.2) ∧ Nodes w q.1 bs[i].2) (fun i hi => by
    obtain ⟨b, o, ai, ci, e, h0, hc, hn⟩ := h i hi
    exact ⟨(ai, ci), fun _ => ⟨b, o, e, h0, hc, hn⟩⟩)
  have hget : ∀ i (hp : i < (bs.mapIdx fun i x => (x.1, ((F i).1, x.2.length, (F i).2))).length) (hb : i < bs.length), (bs.mapIdx fun i x => (x.1, ((F i).1, x.2.length, (F i).2)))[i] = (bs[i].1, ((F i).1, bs[i].2.length, (F i).2)) := by
    intro i hp hb
    simp
  refine ⟨bs.mapIdx fun i x => (x.1, ((F i).1, x.2.length, (F i).2)), by simp, ?_, ?_, ?_⟩
  · apply List.ext_getElem
    · simp
    · intro i h1 h2
      simp
  · intro i hi
    have hb : i < bs.length := by simpa using hi
    obtain ⟨b, o, e, h0, h1, _⟩ := hF i hb hb
    refine ⟨b, o, e, ?_, ?_⟩
    · rw [hget i hi hb]; exact h0
    · rw [hget i hi hb]; exact h1
  · intro i hp hb
    obtain ⟨b, o, e, h0, h1, hn⟩ := hF i hb hb
    rw [hget i hp hb]
    exact ⟨rfl, hn⟩

end Go.Proofs.YthioecjcnajmgaaGreatDoor

namespace Go.Proofs.YthioecjcnajmgaaGreatDoor
open Go.RowKit Go.Shelf Go.Maps
attribute [local go_sem] Oper.semAt_some

theorem owns_same {P : Program} {k : TypeId} {H : Type} {R : Value → Option (DataW H × List MemPlace)} {w w' : World} {b n : Nat} {D : DataW H} (h : w.ownsMap P k R b n D) (e : w'.heap[b]? = w.heap[b]?) : w'.ownsMap P k R b n D := by
  obtain ⟨es, clock, hb, F, hs, hD⟩ := h
  exact ⟨es, clock, e.trans hb, F, hs, hD⟩

/-- What the loop of typesOf keeps: z the place of its map. -/
structure TRnd (w : World) (z : Nat) (ao : Option Addr) (q cap : Nat) (ps : List (Int × (Option Addr × Nat × Nat))) (pre : List (Nat × (Int × (Option Addr × Nat × Nat)))) (W : World) : Prop where
  len : pre.length ≤ q
  own : ∃ D, W.ownsMap Tryz.prog 2 heldE z pre.length D ∧ FirstD (ps.drop (q - pre.length)) D
  box : Box1 W (z + 1) 72 (.map (some z))
  back : Box1 W (z + 1 + 1) 25 (.slice ao q cap)
  prs : Prs W ao ps
  below : Below w.heap.size w W

theorem TRnd.but {S : Nat → Prop} {w W W' : World} {z : Nat} {ao : Option Addr} {q cap : Nat} {ps : List (Int × (Option Addr × Nat × Nat))} {pre : List (Nat × (Int × (Option Addr × Nat × Nat)))} (h : TRnd w z ao q cap ps pre W) (hb : But S W W') (hz : w.heap.size ≤ z) (hs : ∀ k, S k → z + 3 ≤ k) (ha : ∀ b o, ao = some ⟨b, o, none⟩ → 0 < ps.length → b < w.heap.size) : TRnd w z ao q cap ps pre W' := by
  obtain ⟨D, hD, hF⟩ := h.own
  refine ⟨h.len, ⟨D, owns_same hD (hb.block z hD.lt (fun h9 => by have := hs _ h9; omega)), hF⟩, h.box.but hb (fun h9 => by have := hs _ h9; omega), h.back.but hb (fun h9 => by have := hs _ h9; omega), h.prs.but hb (fun b o e h0 h9 => by have := hs _ h9; have := ha b o e h0; omega), ?_⟩
  exact h.below.trans (hb.below h.below.size (fun k hk => by have := hs _ hk; omega))

end Go.Proofs.YthioecjcnajmgaaGreatDoor

namespace Go.Proofs.YthioecjcnajmgaaGreatDoor
open Go.Shelf
def Tryz.laysK54_ren : Go.Shelf.Ren := ⟨fun | 6 => 54 | 8 => 74 | 9 => 31 | 11 => 95 | 13 => 59 | 12 => 58 | 23 => 85 | 24 => 86 | 14 => 76 | 15 => 77 | 16 => 78 | 17 => 79 | 18 => 80 | 19 => 81 | 20 => 82 | 21 => 83 | 22 => 84 | 25 => 96 | 26 => 97 | 27 => 98 | 28 => 99 | 29 => 100 | 30 => 101 | 31 => 104 | n => n, fun | 26 => 2 | 28 => 113 | 24 => 31 | 0 => 0 | 3 => 3 | 37 => 120 | 48 => 157 | 50 => 159 | 4 => 4 | 40 => 149 | 39 => 148 | 45 => 154 | 5 => 5 | 9 => 9 | 51 => 179 | 55 => 183 | 57 => 194 | 58 => 45 | 33 => 146 | n => n, fun | n => n⟩
theorem Tryz.laysK54 : Go.Proofs.SlLaysZI.n6 Tryz.prog Tryz.laysK54_ren := {
  mixed := by kernel_rfl
  f6 := ⟨Tryz.f54.name, by decide, Tryz.func54.trans (congrArg some (by kernel_rfl))⟩
  f8 := ⟨Tryz.f74.name, by decide, Tryz.func74.trans (congrArg some (by kernel_rfl))⟩
  f11 := ⟨Tryz.f95.name, by decide, Tryz.func95.trans (congrArg some (by kernel_rfl))⟩
  t0 := Tryz.underlying0
  a0 := Tryz.isAgg0
  z0 := Tryz.sizeOf0
  v0 := Tryz.zeroValue0
  t24 := Tryz.underlying31
  a24 := Tryz.isAgg31
  z24 := Tryz.sizeOf31
  v24 := Tryz.zeroValue31
  t26 := Tryz.underlying2
  a26 := Tryz.isAgg2
  z26 := Tryz.sizeOf2
  v26 := Tryz.zeroValue2
  t28 := Tryz.underlying113
  a28 := Tryz.isAgg113
  z28 := Tryz.sizeOf113
  v28 := Tryz.zeroValue113
  i26 := by kernel_rfl }
def Tryz.laysK55_ren : Go.Shelf.Ren := ⟨fun | 7 => 55 | 10 => 75 | n => n, fun | 23 => 72 | 26 => 2 | 3 => 27 | 28 => 113 | 0 => 0 | 27 => 112 | 33 => 146 | 4 => 4 | n => n, fun | n => n⟩
theorem Tryz.laysK55 : Go.Proofs.SlLaysZI.n7 Tryz.prog Tryz.laysK55_ren := {
  mixed := by kernel_rfl
  f7 := ⟨Tryz.f55.name, by decide, Tryz.func55.trans (congrArg some (by kernel_rfl))⟩
  f10 := ⟨Tryz.f75.name, by decide, Tryz.func75.trans (congrArg some (by kernel_rfl))⟩
  t0 := Tryz.underlying0
  a0 := Tryz.isAgg0
  z0 := Tryz.sizeOf0
  v0 := Tryz.zeroValue0
  t4 := Tryz.underlying4
  a4 := Tryz.isAgg4
  z4 := Tryz.sizeOf4
  v4 := Tryz.zeroValue4
  t23 := Tryz.underlying72
  a23 := Tryz.isAgg72
  z23 := Tryz.sizeOf72
  v23 := Tryz.zeroValue72
  t26 := Tryz.underlying2
  a26 := Tryz.isAgg2
  z26 := Tryz.sizeOf2
  v26 := Tryz.zeroValue2
  t27 := Tryz.underlying112
  a27 := Tryz.isAgg112
  z27 := Tryz.sizeOf112
  v27 := Tryz.zeroValue112
  t28 := Tryz.underlying113
  a28 := Tryz.isAgg113
  z28 := Tryz.sizeOf113
  v28 := Tryz.zeroValue113
  t33 := Tryz.underlying146
  a33 := Tryz.isAgg146
  z33 := Tryz.sizeOf146
  v33 := Tryz.zeroValue146 }
def Tryz.laysK31_ren : Go.Shelf.Ren := ⟨fun | 5 => 31 | 8 => 59 | 7 => 58 | 19 => 85 | 20 => 86 | 10 => 76 | 11 => 77 | 12 => 78 | 13 => 79 | 14 => 80 | 15 => 81 | 16 => 82 | 17 => 83 | 18 => 84 | 30 => 96 | 31 => 97 | 32 => 98 | 33 => 99 | 34 => 100 | 35 => 101 | 40 => 104 | n => n, fun | 23 => 31 | 25 => 2 | 3 => 3 | 32 => 120 | 22 => 31 | 0 => 0 | 44 => 157 | 46 => 159 | 4 => 4 | 36 => 149 | 35 => 148 | 41 => 154 | 5 => 5 | 9 => 9 | 53 => 179 | 57 => 183 | 63 => 194 | 64 => 45 | n => n, fun | n => n⟩
theorem Tryz.laysK31 : Go.Proofs.SlLaysM.n5 Tryz.prog Tryz.laysK31_ren := {
  mixed := by kernel_rfl
  f5 := ⟨Tryz.f31.name, by decide, Tryz.func31.trans (congrArg some (by kernel_rfl))⟩
  f7 := ⟨Tryz.f58.name, by decide, Tryz.func58.trans (congrArg some (by kernel_rfl))⟩
  f8 := Tryz.func59.trans (congrArg some (by kernel_rfl))
  f10 := ⟨Tryz.f76.name, by decide, Tryz.func76.trans (congrArg some (by kernel_rfl))⟩
  f11 := ⟨Tryz.f77.name, by decide, Tryz.func77.trans (congrArg some (by kernel_rfl))⟩
  f12 := ⟨Tryz.f78.name, by decide, Tryz.func78.trans (congrArg some (by kernel_rfl))⟩
  f13 := ⟨Tryz.f79.name, by decide, Tryz.func79.trans (congrArg some (by kernel_rfl))⟩
  f14 := ⟨Tryz.f80.name, by decide, Tryz.func80.trans (congrArg some (by kernel_rfl))⟩
  f15 := ⟨Tryz.f81.name, by decide, Tryz.func81.trans (congrArg some (by kernel_rfl))⟩
  f16 := ⟨Tryz.f82.name, by decide, Tryz.func82.trans (congrArg some (by kernel_rfl))⟩
  f17 := ⟨Tryz.f83.name, by decide, Tryz.func83.trans (congrArg some (by kernel_rfl))⟩
  f18 := ⟨Tryz.f84.name, by decide, Tryz.func84.trans (congrArg some (by kernel_rfl))⟩
  f19 := Tryz.func85.trans (congrArg some (by kernel_rfl))
  f20 := Tryz.func86.trans (congrArg some (by kernel_rfl))
  f30 := ⟨Tryz.f96.name, by decide, Tryz.func96.trans (congrArg some (by kernel_rfl))⟩
  f31 := Tryz.func97.trans (congrArg some (by kernel_rfl))
  f32 := Tryz.func98.trans (congrArg some (by kernel_rfl))
  f33 := ⟨Tryz.f99.name, by decide, Tryz.func99.trans (congrArg some (by kernel_rfl))⟩
  f34 := ⟨Tryz.f100.name, by decide, Tryz.func100.trans (congrArg some (by kernel_rfl))⟩
  f35 := ⟨Tryz.f101.name, by decide, Tryz.func101.trans (congrArg some (by kernel_rfl))⟩
  f40 := ⟨Tryz.f104.name, by decide, Tryz.func104.trans (congrArg some (by kernel_rfl))⟩
  t0 := Tryz.underlying0
  a0 := Tryz.isAgg0
  z0 := Tryz.sizeOf0
  v0 := Tryz.zeroValue0
  t3 := Tryz.underlying3
  a3 := Tryz.isAgg3
  z3 := Tryz.sizeOf3
  v3 := Tryz.zeroValue3
  t4 := Tryz.underlying4
  a4 := Tryz.isAgg4
  z4 := Tryz.sizeOf4
  v4 := Tryz.zeroValue4
  t5 := Tryz.underlying5
  a5 := Tryz.isAgg5
  z5 := Tryz.sizeOf5
  v5 := Tryz.zeroValue5
  t9 := Tryz.underlying9
  a9 := Tryz.isAgg9
  z9 := Tryz.sizeOf9
  v9 := Tryz.zeroValue9
  t22 := Tryz.underlying31
  a22 := Tryz.isAgg31
  z22 := Tryz.sizeOf31
  v22 := Tryz.zeroValue31
  t23 := Tryz.underlying31
  a23 := Tryz.isAgg31
  z23 := Tryz.sizeOf31
  v23 := Tryz.zeroValue31
  t25 := Tryz.underlying2
  a25 := Tryz.isAgg2
  z25 := Tryz.sizeOf2
  v25 := Tryz.zeroValue2
  t32 := Tryz.underlying120
  a32 := Tryz.isAgg120
  z32 := Tryz.sizeOf120
  v32 := Tryz.zeroValue120
  t35 := Tryz.underlying148
  a35 := Tryz.isAgg148
  z35 := Tryz.sizeOf148
  v35 := Tryz.zeroValue148
  t36 := Tryz.underlying149
  a36 := Tryz.isAgg149
  z36 := Tryz.sizeOf149
  v36 := Tryz.zeroValue149
  t41 := Tryz.underlying154
  a41 := Tryz.isAgg154
  z41 := Tryz.sizeOf154
  v41 := Tryz.zeroValue154
  t44 := Tryz.underlying157
  a44 := Tryz.isAgg157
  z44 := Tryz.sizeOf157
  v44 := Tryz.zeroValue157
  t46 := Tryz.underlying159
  a46 := Tryz.isAgg159
  z46 := Tryz.sizeOf159
  v46 := Tryz.zeroValue159
  t53 := Tryz.underlying179
  a53 := Tryz.isAgg179
  z53 := Tryz.sizeOf179
  v53 := Tryz.zeroValue179
  t57 := Tryz.underlying183
  a57 := Tryz.isAgg183
  z57 := Tryz.sizeOf183
  v57 := Tryz.zeroValue183
  t63 := Tryz.underlying194
  a63 := Tryz.isAgg194
  z63 := Tryz.sizeOf194
  v63 := Tryz.zeroValue194
  t64 := Tryz.underlying45
  a64 := Tryz.isAgg45
  z64 := Tryz.sizeOf45
  v64 := Tryz.zeroValue45 }
end Go.Proofs.YthioecjcnajmgaaGreatDoor

namespace Go.Proofs.YthioecjcnajmgaaGreatDoor
open Go.RowKit Go.Maps Go.Sort Go.Shelf

/-- A map from numbers to rows of nodes of the call's own, no two of them one. -/
structure RwsAt (W : World) (B b n : Nat) (E : Int → Option (List Nd)) (D : DataW Value) (F : Int → Nat × Nat) : Prop where
  own : W.ownsMap Tryz.prog 2 heldE b n D
  has : ∀ x, Maps.has D (.int .i64 x) = (E x).isSome
  at' : ∀ x t, E x = some t → (∀ z, D.atKey (.int .i64 x) z = .held (.slice (some ⟨(F x).1, 0, none⟩) t.length (F x).2)) ∧ B ≤ (F x).1 ∧ Row W (F x).1 t
  apart : ∀ x y, (E x).isSome = true → (E y).isSome = true → x ≠ y → (F x).1 ≠ (F y).1

def Rws (W : World) (B b n : Nat) (E : Int → Option (List Nd)) : Prop := ∃ D F, RwsAt W B b n E D F

theorem Rws.made (w : World) (B : Nat) : Rws (w.alloc (.map #[] 0)) B w.heap.size 0 (fun _ => none) :=
  ⟨.map [], fun _ => (0, 0), World.ownsMap_made w Tryz.prog 2 heldE, fun _ => rfl, fun x t h => (by cases h), fun x y h => (by cases h)⟩

theorem RwsAt.but {S : Nat → Prop} {W W' : World} {B b n : Nat} {E : Int → Option (List Nd)} {D : DataW Value} {F : Int → Nat × Nat} (h : RwsAt W B b n E D F) (hb : But S W W') (hS : ∀ k, S k → k ≠ b ∧ ∀ cs t f, W.heap[k]? ≠ some (.cells cs t f)) : RwsAt W' B b n E D F := by
  refine ⟨owns_same h.own (hb.block b h.own.lt (fun h9 => (hS b h9).1 rfl)), h.has, fun x t hx => ?_, h.apart⟩
  obtain ⟨h1, h2, h3⟩ := h.at' x t hx
  refine ⟨h1, h2, hb.row h3 ?_⟩
  intro h9
  obtain ⟨cur, rest, hc, _⟩ := h3
  exact (hS _ h9).2 _ _ _ hc

theorem Rws.but {S : Nat → Prop} {W W' : World} {B b n : Nat} {E : Int → Option (List Nd)} (h : Rws W B b n E) (hb : But S W W') (hS : ∀ k, S k → k ≠ b ∧ ∀ cs t f, W.heap[k]? ≠ some (.cells cs t f)) : Rws W' B b n E := by
  obtain ⟨D, F, h⟩ := h
  exact ⟨D, F, h.but hb hS⟩

theorem Rws.below {W W' : World} {B b n : Nat} {E : Int → Option (List Nd)} (h : Rws W B b n E) (hb : Below W.heap.size W W') : Rws W' B b n E :=
  h.but (S := fun _ => False) (But.ofBelow hb) (fun _ h => h.elim)

theorem Rws.alloc {W : World} {B b n : Nat} {E : Int → Option (List Nd)} (h : Rws W B b n E) (o : Obj) : Rws (W.alloc o) B b n E := h.below ((Below.refl _ _).alloc (Nat.le_refl _) _)

theorem Rws.lt {W : World} {B b n : Nat} {E : Int → Option (List Nd)} (h : Rws W B b n E) : b < W.heap.size := by
  obtain ⟨D, F, h⟩ := h
  exact h.own.lt

def upE (E : Int → Option (List Nd)) (x : Int) (t : List Nd) : Int → Option (List Nd) := fun y => if y = x then some t else E y

theorem upE_same (E : Int → Option (List Nd)) (x : Int) (t : List Nd) : upE E x t x = some t := by simp [upE]
theorem upE_other (E : Int → Option (List Nd)) (x y : Int) (t : List Nd) (h : y ≠ x) : upE E x t y = E y := by simp [upE, h]

/-- A store of a new row. -/
theorem Rws.store {W0 W : World} {B b n g c : Nat} {E : Int → Option (List Nd)} {t : List Nd} (h : Rws W0 B b n E) (hb : Below W0.heap.size W0 W) (hn : n < maxLen) {x : Int} (hx : (Lit.int .i64 x).wf = true) (hr : Row W g t) (hg : W0.heap.size ≤ g) (hB : B ≤ W0.heap.size) :
    ∃ W2, (Instr.mapUpdate 72 (.map (some b)) (.int .i64 x) (.slice (some ⟨g, 0, none⟩) t.length c)).run Tryz.prog W = .ok () W2 ∧ Rws W2 B b (n + 1) (upE E x t) ∧ W.grownBy W2 (some b) := by
  obtain ⟨D, F, h⟩ := h
  have hW := h.but (S := fun _ => False) (But.ofBelow hb) (fun _ h => h.elim)
  have hkl : ∀ z : Int, WideAt.IsKeyLit (.int .i64 z) := fun _ => trivial
  obtain ⟨W2, hrun, hown2, hg2⟩ := hW.own.update Tryz.law2 Tryz.underlying72 hn (keyOf_int_mk Tryz.underlying2 hx) (val := .slice (some ⟨g, 0, none⟩) t.length c) (d := .held (.slice (some ⟨g, 0, none⟩) t.length c)) (ps := []) rfl
  have hblt := h.own.lt
  have hti : IsMap D := hW.own.isMap
  refine ⟨W2, hrun, ⟨_, fun y => if y = x then (g, c) else F y, hown2, ?_, ?_, ?_⟩, hg2⟩
  · intro y
    by_cases hy : y = x
    · subst hy
      rw [has_put_same hti (hkl y), upE_same]
      rfl
    · rw [has_put_other (fun e => hy (by simpa using e)), upE_other _ _ _ _ hy]
      exact h.has y
  · intro y t' hy'
    by_cases hy : y = x
    · subst hy
      rw [upE_same] at hy'
      simp only [Option.some.injEq] at hy'
      subst hy'
      refine ⟨fun z => ?_, ?_, ?_⟩
      · rw [atKey_put_same hti (hkl y)]
        simp
      · simp only [if_true]
        omega
      · simp only [if_true]
        exact Row.kept hr hg2 (by omega)
    · rw [upE_other _ _ _ _ hy] at hy'
      obtain ⟨h1, h2, h3⟩ := hW.at' y t' hy'
      rw [if_neg hy]
      refine ⟨fun z => ?_, h2, ?_⟩
      · rw [atKey_put_other (fun e => hy (by simpa using e))]
        exact h1 z
      · refine Row.kept h3 hg2 ?_
        intro e9
        obtain ⟨es, clock, hb9, _⟩ := hW.own
        obtain ⟨cur, rest, hc, _⟩ := h3
        rw [e9, hb9] at hc
        cases hc
  · intro y z hy hz hne
    by_cases h1 : y = x
    · subst h1
      rw [if_pos rfl, if_neg (fun e => hne e.symm)]
      rw [upE_other _ _ _ _ (fun e => hne e.symm)] at hz
      obtain ⟨tz, htz⟩ := Option.isSome_iff_exists.1 hz
      have := (h.at' z tz htz).2.2.lt
      show g ≠ (F z).1
      omega
    · rw [upE_other _ _ _ _ h1] at hy
      obtain ⟨ty, hty⟩ := Option.isSome_iff_exists.1 hy
      have := (h.at' y ty hty).2.2.lt
      rw [if_neg h1]
      by_cases h2 : z = x
      · rw [if_pos h2]
        show (F y).1 ≠ g
        omega
      · rw [if_neg h2]
        rw [upE_other _ _ _ _ h2] at hz
        exact h.apart y z hy hz hne

/-- The Binds of such a map, Nums rising. -/
def IsBinds (E : Int → Option (List Nd)) (bs : List (Int × List Nd)) : Prop := (bs.map Prod.fst).Pairwise (· < ·) ∧ (∀ p ∈ bs, E p.1 = some p.2) ∧ ∀ x, (E x).isSome = true → x ∈ bs.map Prod.fst

theorem keys_any (mb : Option Nat) (W : World) : Calls Tryz.prog 55 #[.map mb] W fun e w' => e = .returned (.func (.func 75) #[] #[.pointer (some ⟨W.heap.size, 0, none⟩)]) ∧ w' = W.alloc (.cells #[.map mb] 72) :=
  (callsIn_wide (n := 1)).1 (AnyZI.keys_in Tryz.laysK55 Fence.wide 1 trivial rfl mb W)

theorem sortsI (m : Nat) : AnyZI.SortsIn Tryz.prog Tryz.laysK54_ren Fence.wide m :=
  ⟨fun blk off cap ss W hH hblk hsz => callsIn_wide.2 (AnyM.slices_Sort_int Tryz.laysK31 blk off cap ss W hH hblk hsz),
   fun p cap W => callsIn_wide.2 (AnyM.slices_Sort_int_none Tryz.laysK31 p cap W)⟩

theorem sorted_keys (b nn : Nat) (D : DataW Value) (w : World) (hown : w.ownsMap Tryz.prog 2 heldE b nn D) (hmax : nn ≤ 1048576) :
    Calls Tryz.prog 54 #[.func (.func 75) #[] #[.pointer (some ⟨w.heap.size, 0, none⟩)]] (w.alloc (.cells #[.map (some b)] 72)) fun e w' =>
      ∃ (v : Value) (ss : List Int), e = .returned v ∧ ss.Perm (intKeys D) ∧ w'.ownsRow (w.alloc (.cells #[.map (some b)] 72)).heap.size 2 1 v ss.length ((ss.mergeSort (fun x y => decide (x ≤ y))).map encZ) ∧ (v = .slice none 0 0 ↔ ss = []) ∧ Below (w.alloc (.cells #[.map (some b)] 72)).heap.size (w.alloc (.cells #[.map (some b)] 72)) w' := by
  have hbl := hown.lt
  have hsz := hown.size_le
  have hseq : SeqGives Fence.wide 2 Tryz.prog 75 #[.pointer (some ⟨w.heap.size, 0, none⟩)] encZ (fun ss => ss.Perm (intKeys D)) (Maps.size D) (w.alloc (.cells #[.map (some b)] 72)) :=
    AnyZI.keys_gives (ρ := Tryz.laysK55_ren) { Tryz.laysK55 with } Fence.wide _ trivial rfl (by omega) w.heap.size b nn D _ (by simp) (by simp) (by
      obtain ⟨es, clock, hb, Ft, hs, hD⟩ := hown
      exact ⟨es, clock, (Below.heap_alloc _ _ b hbl).trans hb, Ft, hs, hD⟩)
  refine (callsIn_wide (n := 5)).1 ?_
  exact AnyZI.sorted_in Tryz.laysK54 Fence.wide 5 trivial trivial trivial trivial rfl (by omega) (sortsI _) (enters_of Tryz.func31 (by kernel_rfl) rfl) 75 #[.pointer (some ⟨w.heap.size, 0, none⟩)] trivial (enters_of Tryz.func75 (by kernel_rfl) rfl) _ _ (by unfold maxLen; omega) (by omega) _ hseq

/-- The cells of a sorted slice. -/
theorem owns_longs {w : World} {B n : Nat} {v : Value} {ks : List Int} (h : w.ownsRow B 2 1 v n (ks.map encZ)) (hn : ks.length = n) : ∃ ao c, v = .slice ao n c ∧ LCells w ao ks ∧ ∀ bb oo, ao = some ⟨bb, oo, none⟩ → B ≤ bb := by
  obtain ⟨_, h⟩ := h
  rcases h with ⟨rfl, rfl⟩ | ⟨g, cap, cur, rfl, hB, hb, h1, h2, h3, h4⟩
  · have : ks = [] := List.eq_nil_of_length_eq_zero hn
    subst this
    exact ⟨none, 0, rfl, fun i hi => (by simp at hi), fun bb oo e => (by cases e)⟩
  · refine ⟨_, _, rfl, fun i hi => ⟨g, 0, rfl, ?_⟩, fun bb oo e => (by simp only [Option.some.injEq, Addr.mk.injEq, and_true] at e; omega)⟩
    rw [Nat.zero_add, cell_of_row _ _ _ _ _ _ hb]
    have h5 : (cur.toList.take (n * 1))[i]? = some (.int .i64 ks[i]) := by
      rw [h4]
      simp [hi]
    rw [List.getElem?_take_of_lt (by omega)] at h5
    simpa using h5

theorem keys_mem {w : World} {b n : Nat} {D : DataW Value} (hown : w.ownsMap Tryz.prog 2 heldE b n D) : (intKeys D).Nodup ∧ ∀ x, x ∈ intKeys D ↔ Maps.has D (.int .i64 x) = true := by
  obtain ⟨es, clock, hb, F, hs, hD⟩ := hown
  have hown : w.ownsMap Tryz.prog 2 heldE b n D := ⟨es, clock, hb, F, hs, hD⟩
  have hk := fit_keys F
  obtain ⟨es', hD', hp', _⟩ := hown.entries Tryz.law2
  have hkeys : ∀ p ∈ es', ∃ x, p.1 = .int .i64 x := by
    intro p hp
    have h9 : p ∈ (es.toList.map (WideElems.rg Tryz.prog 2 heldE)).foldr DataW.insert [] := by
      rw [hD] at hD'
      simp only [DataW.map.injEq] at hD'
      rw [hD']
      exact hp
    rw [mem_sorted] at h9
    obtain ⟨v, hv⟩ := hk p h9
    obtain ⟨x, _, e, _⟩ := keyOf_i64 Tryz.underlying2 hv
    exact ⟨x, e⟩
  subst hD'
  have hmem : ∀ x, x ∈ intKeys (DataW.map es') ↔ Maps.has (DataW.map es') (.int .i64 x) = true := by
    intro x
    rw [has_eq, List.any_eq_true]
    show x ∈ es'.map (fun p => Go.intOf p.1) ↔ _
    rw [List.mem_map]
    constructor
    · rintro ⟨p, hp, rfl⟩
      obtain ⟨a, ha⟩ := hkeys p hp
      exact ⟨p, hp, by rw [ha]; simp [Lit.sameKey, Go.intOf]⟩
    · rintro ⟨p, hp, hs⟩
      obtain ⟨a, ha⟩ := hkeys p hp
      rw [ha] at hs
      exact ⟨p, hp, by rw [ha]; simpa [Lit.sameKey, Go.intOf] using hs⟩
  refine ⟨?_, hmem⟩
  show (es'.map fun p => Go.intOf p.1).Nodup
  refine List.pairwise_map.2 (hp'.imp_of_mem fun {p q} hp hq hne e => hne ?_)
  obtain ⟨a, ha⟩ := hkeys p hp
  obtain ⟨c, hc⟩ := hkeys q hq
  rw [ha, hc] at e ⊢
  exact congrArg _ e

theorem sorted_rising {ss : List Int} (h : ss.Nodup) : (ss.mergeSort (fun x y => decide (x ≤ y))).Pairwise (· < ·) := by
  have hp : (ss.mergeSort fun x y => decide (x ≤ y)).Pairwise (· ≤ ·) := by
    have := List.pairwise_mergeSort (le := fun x y : Int => decide (x ≤ y)) (fun a b c h1 h2 => by simp at *; omega) (fun a b => by simp; omega) ss
    simpa using this
  have hn : (ss.mergeSort fun x y => decide (x ≤ y)).Nodup := (List.mergeSort_perm ss _).nodup_iff.2 h
  exact (hp.and hn).imp (fun {a b} h => by obtain ⟨h1, h2⟩ := h; have : a ≠ b := h2; omega)

/-- One Bind of a map, as cells. -/
def leadOf (E : Int → Option (List Nd)) (F : Int → Nat × Nat) (x : Int) : Value × Value := (.int .i64 x, .slice (some ⟨(F x).1, 0, none⟩) ((E x).getD []).length (F x).2)

set_option maxRecDepth 100000 in
set_option maxHeartbeats 2000000 in
theorem bindsOf_any (E : Int → Option (List Nd)) (B b n : Nat) (hn : n ≤ 100000) (w : World) (h : Rws w B b n E) (hB : B ≤ w.heap.size) :
    Calls Tryz.prog 29 #[.map (some b)] w fun e w' => ∃ ag cg bs, e = .returned (.slice ag bs.length cg) ∧ IsBinds E bs ∧ BAns w' B ag bs ∧ Below w.heap.size w w' := by
  obtain ⟨D, F, hR⟩ := h
  obtain ⟨i0, hi, hz0, hz1, hz2⟩ := info_parts Tryz.infoB
  have hA : Below w.heap.size w (w.alloc (.cells #[] 37)) := (Below.refl _ w).alloc (Nat.le_refl _) _
  have hO := OwnBs.empty (w := w) (B := w.heap.size) (Nat.le_refl _)
  have hR1 := hR.but (S := fun _ => False) (But.ofBelow hA) (fun _ h => h.elim)
  have hSK := sorted_keys b n D _ hR1.own (by omega)
  simp only [World.size_alloc] at hSK
  have hKM := keys_mem hR.own
  have hz : ∀ w, (zeroValue 27).run Tryz.prog w = .ok (.slice none 0 0) w := fun w => by kernel_rfl
  go_enter Tryz.func29, Tryz.ntmps29
  go_wp2_with fail
  refine (keys_any (some b) _).mono ?_
  rintro e w1 ⟨rfl, rfl⟩
  go_wp2_with fail
  refine hSK.mono ?_
  rintro e w2 ⟨v, ss, rfl, hperm, hrow, _, hb2⟩
  obtain ⟨ks, hks⟩ : ∃ ks, ss.mergeSort (fun x y => decide (x ≤ y)) = ks := ⟨_, rfl⟩
  have hkl : ks.length = ss.length := by rw [← hks, List.length_mergeSort]
  have hup : ks.Pairwise (· < ·) := by rw [← hks]; exact sorted_rising (hperm.nodup_iff.2 hKM.1)
  have hmem : ∀ x, x ∈ ks ↔ (E x).isSome = true := by
    intro x
    rw [← hks, (List.mergeSort_perm ss _).mem_iff, hperm.mem_iff, hKM.2 x, hR.has x]
  have hwf : ∀ x ∈ ks, (Lit.int .i64 x).wf = true := by
    intro x hx
    rw [← hks, (List.mergeSort_perm ss _).mem_iff, hperm.mem_iff] at hx
    exact intKeys_wf hR.own Tryz.underlying2 x hx
  rw [hks] at hrow
  obtain ⟨q, hq⟩ : ∃ q, ss.length = q := ⟨_, rfl⟩
  have hqn : q ≤ n := by
    rw [← hq, hperm.length_eq]
    have h9 := hR.own.size_le
    obtain ⟨es, clock, _, _, _, hD⟩ := hR.own
    rw [hD] at h9 ⊢
    simpa [intKeys, Maps.size] using h9
  rw [hq] at hrow hkl
  obtain ⟨ao, c, rfl, hcs, hao⟩ := owns_longs hrow hkl
  have hbA : Below w.heap.size w (((w.alloc (.cells #[] 37)).alloc (.cells #[.map (some b)] 72))) := hA.alloc hA.size _
  have hb := Below.step hbA (hb2.mono (by simp))
  have hO2 : OwnBs w2 w.heap.size w.heap.size 0 0 [] := (hO.alloc (.cells #[.map (some b)] 72)).below (by simpa using hb2)
  have HKL : Hid (ks.length = q) := hkl
  have HMEM : Hid (∀ x, x ∈ ks ↔ (E x).isSome = true) := hmem
  have HUP : Hid (ks.Pairwise (· < ·)) := hup
  have HWF : Hid (∀ x ∈ ks, (Lit.int .i64 x).wf = true) := hwf
  have hw2 := hb.size
  clear hSK hKM hperm hrow hb2 hks hkl hup hmem hwf hbA hA hO hq hR1
  go_wp2
  go_loopw [3, 11] (fun v p wr => ∃ (k g c : Nat), k ≤ q ∧ p = .int .i64 k ∧ v = .slice (some ⟨g, 0, none⟩) k c ∧ OwnBs wr w.heap.size g c k ((ks.take k).map (leadOf E F)) ∧ Below w.heap.size w wr ∧ LCells wr ao ks ∧ (g = w.heap.size ∨ w2.heap.size ≤ g) ∧ w2.heap.size ≤ wr.heap.size) (fun _ p _ => q - (RowKit.intOf p).toNat)
  case atStart => exact ⟨0, w.heap.size, 0, Nat.zero_le _, rfl, rfl, by simpa using hO2, hb, hcs, Or.inl rfl, Nat.le_refl _⟩
  case round =>
    have hgv : ∀ bb oo, ao = some ⟨bb, oo, none⟩ → 0 < q → bb < w2.heap.size := by
      intro bb oo e h0
      obtain ⟨b9, o9, e9, hc9⟩ := hcs 0 (by have := HKL.out; omega)
      rw [e] at e9
      simp only [Option.some.injEq, Addr.mk.injEq, and_true] at e9
      rw [e9.1]
      exact lt_of_cell hc9
    clear hO2 hb hcs
    obtain ⟨k, g, c', hk, rfl, rfl, hown, hb, hcs, hgg, hws⟩ := hrel
    by_cases hlt : k < q
    · have hltk : k < ks.length := by have := HKL.out; omega
      obtain ⟨x, hxk⟩ : ∃ x, ks[k] = x := ⟨_, rfl⟩
      have hxm : x ∈ ks := by rw [← hxk]; exact List.getElem_mem hltk
      have hxw := HWF.out x hxm
      obtain ⟨t, ht⟩ := Option.isSome_iff_exists.1 ((HMEM.out x).1 hxm)
      obtain ⟨hat, _, _⟩ := hR.at' x t ht
      have hv := hat (.held (.slice none 0 0))
      have hkey : keyOf Tryz.prog 2 (.int .i64 x) = some (.int .i64 x) := keyOf_int_mk Tryz.underlying2 hxw
      have hblt := hR.own.lt
      have hown9 := owns_same hR.own (hb.block b hblt)
      obtain ⟨bb, oo, rfl, hcell⟩ := hcs k hltk
      rw [hxk] at hcell
      have hbb := hgv bb oo rfl (by omega)
      have hbo := hao bb oo rfl
      have HL : Hid ((ks.take (k + 1)).map (leadOf E F) = (ks.take k).map (leadOf E F) ++ [(.int .i64 x, .slice (some ⟨(F x).1, 0, none⟩) t.length (F x).2)]) := by
        rw [Hid, List.take_succ_eq_append_getElem hltk, List.map_append, hxk]
        simp [leadOf, ht]
      obtain ⟨l, hl⟩ : ∃ l, t.length = l := ⟨_, rfl⟩
      rw [hl] at hv HL
      generalize (F x).1 = f1 at hv HL
      generalize (F x).2 = f2 at hv HL
      obtain ⟨Z, hZ⟩ : ∃ Z, (ks.take k).map (leadOf E F) = Z := ⟨_, rfl⟩
      rw [hZ] at hown HL
      clear hZ
      have hone := bind_cells wr x (.slice (some ⟨f1, 0, none⟩) l f2)
      have hob := owns_block hown.2
      have hcsw := hcs
      clear hat ht hl hxm hxk hltk
      go_wp2_with (first
        | (at_lookup; refine wpList_lookup_held1 _ rfl _ _ 72 rfl 2 27 Tryz.law2 Tryz.underlying72 (hz _) b n D rfl hown9 _ _ rfl hkey rfl hv ?_)
        | (at_builtin; refine wpList_append2 _ rfl (.tmp 15) (.tmp 21) 25 rfl w.heap.size 37 i0 _ 2 32 Tryz.underlying25 hi hz0 hz1 hz2 rfl (by decide) g k c' _ rfl (hown.alloc _).2 ⟨_, 0, none⟩ 1 1 [.int .i64 x, .slice (some ⟨f1, 0, none⟩) l f2] rfl rfl hone (bind_one _ _ _ _) ?a3 ?a4 ?a5 ?_)
        | go_in)
      case a3 => unfold maxLen; omega
      case a4 => omega
      case a5 => have := hb.size; simp; omega
      intro g2 c2 w3 hown3 hgrow3 hwh
      have hO3 := OwnBs.push (x := (.int .i64 x, .slice (some ⟨f1, 0, none⟩) l f2)) hown3 hown.1 rfl
      rw [← HL.out] at hO3
      have hb3 : Below w.heap.size w w3 := (hb.alloc hb.size _).grown hgrow3 (hb.alloc hb.size _).size (fun j hj => by cases hj; exact hob.1)
      have hcs3 : LCells w3 (some ⟨bb, oo, none⟩) ks := by
        intro i hi'
        obtain ⟨b9, o9, e9, hc9⟩ := hcsw i hi'
        simp only [Option.some.injEq, Addr.mk.injEq, and_true] at e9
        obtain ⟨rfl, rfl⟩ := e9
        refine ⟨_, _, rfl, ?_⟩
        rw [cell_kept hgrow3 (by simp; omega) (by omega)]
        exact (((Below.refl _ wr).alloc (Nat.le_refl _) _).cell (p := ⟨bb, oo + i, none⟩) (lt_of_cell hc9)).trans hc9
      have hs3 := hgrow3.size
      have hg2 : g2 = w.heap.size ∨ w2.heap.size ≤ g2 := by
        rcases hwh with h9 | h9
        · omega
        · omega
      clear hown3 hgrow3 hwh hown hb hcs hcsw hone hcell
      go_wp2
      go_roundw
      case rel => exact ⟨k + 1, g2, c2, by omega, by go_num, rfl, hO3, hb3, hcs3, hg2, by simp at hs3; omega⟩
      case measure => simp [RowKit.intOf]; omega
    · have hkq : k = q := by omega
      subst hkq
      have HT : Hid (ks.take k = ks) := List.take_of_length_le (by have := HKL.out; omega)
      rw [HT.out] at hown
      obtain ⟨hg, hrw⟩ := hown.row
      clear hcs hown
      go_wp2
      go_ret
      refine ⟨some ⟨g, 0, none⟩, c', ks.map (fun x => (x, (E x).getD [])), by simp [HKL.out], ?_, ?_, hb⟩
      · refine ⟨?_, ?_, ?_⟩
        · rw [List.map_map]
          have e9 : (Prod.fst ∘ fun x => (x, (E x).getD [])) = fun x : Int => x := rfl
          rw [e9, List.map_id']
          exact HUP.out
        · intro p hp
          obtain ⟨x, hx, rfl⟩ := List.mem_map.1 hp
          obtain ⟨t, ht⟩ := Option.isSome_iff_exists.1 ((HMEM.out x).1 hx)
          simp [ht]
        · intro x hx
          rw [List.map_map]
          exact List.mem_map.2 ⟨x, (HMEM.out x).2 hx, rfl⟩
      · refine Or.inr ⟨g, ks.map F, rfl, by omega, ?_, ?_⟩
        · intro r hr
          obtain ⟨x, hx, rfl⟩ := List.mem_map.1 hr
          obtain ⟨t, ht⟩ := Option.isSome_iff_exists.1 ((HMEM.out x).1 hx)
          exact (hR.at' x t ht).2.1
        · refine ⟨by simp, ?_, ?_, ?_⟩
          · have e9 : leadR (ks.map F) (ks.map (fun x => (x, (E x).getD []))) = ks.map (leadOf E F) := by
              unfold leadR
              rw [List.zipWith_map, List.zipWith_self]
              rfl
            rw [e9]
            exact hrw
          · intro i hi1 hi2
            have hi3 : i < ks.length := by simpa using hi1
            obtain ⟨t, ht⟩ := Option.isSome_iff_exists.1 ((HMEM.out ks[i]).1 (List.getElem_mem hi3))
            have h9 := (hR.at' ks[i] t ht).2.2
            simp only [List.getElem_map, ht, Option.getD_some]
            obtain ⟨cur, rest, hc9, e9⟩ := h9
            exact ⟨cur, rest, (hb.block _ (Array.getElem?_eq_some_iff.1 hc9).1).trans hc9, e9⟩
          · rw [List.map_map]
            refine List.pairwise_map.2 (HUP.out.imp_of_mem fun {x y} hx hy hlt' => ?_)
            exact hR.apart x y ((HMEM.out x).1 hx) ((HMEM.out y).1 hy) (by omega)

end Go.Proofs.YthioecjcnajmgaaGreatDoor
