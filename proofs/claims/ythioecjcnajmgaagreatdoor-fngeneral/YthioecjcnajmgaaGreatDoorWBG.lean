import Derived.Test.YthioecjcnajmgaaGreatDoorWBF
import Derived.Maps.OwnSet
import Derived.Maps.OwnOps
import Derived.Test.YthioecjcnajmgaaGreatDoorWAQ
import Derived.Deep.Slices
import Derived.Maps.OwnIn
import Derived.Test.YthioecjcnajmgaaGreatDoorWBE
import Derived.Shelf.SlGeneric
import Derived.Shelf.SlLaysZI
import Derived.Shelf.SlIterI.Sorted
import Derived.Shelf.SlIterI.Keys
import Derived.Shelf.SlIterI.Collect
import Derived.Shelf.SlLaysM
import Derived.Shelf.SortM.Plain
import Derived.Shelf.SortM.AssemblyIn
import Derived.Ground.SlgmProg
import Derived.Ground.GgzProg
import Derived.Test.YthioecjcnajmgaaGreatDoorProg
namespace Go.Proofs.YthioecjcnajmgaaGreatDoor

open Go.RowKit Go.Maps

theorem placeIn_le (met : List Int) (x : Int) : placeIn met x ≤ met.length := List.findIdx_le_length

theorem placeIn_snoc (met : List Int) (x : Int) : placeIn (met ++ [x]) x = if placeIn met x = met.length then met.length else placeIn met x := by
  unfold placeIn
  rw [List.findIdx_append]
  have h := @List.findIdx_le_length _ (fun y => y == x) met
  by_cases h1 : List.findIdx (fun y => y == x) met = met.length
  · rw [if_pos h1, if_neg (by omega)]
    simp
  · rw [if_neg h1, if_pos (by omega)]

theorem placeIn_snoc_ne (met : List Int) (x y : Int) (hne : y ≠ x) : placeIn (met ++ [x]) y = if placeIn met y = met.length then met.length + 1 else placeIn met y := by
  unfold placeIn
  rw [List.findIdx_append]
  have h := @List.findIdx_le_length _ (fun z => z == y) met
  by_cases h1 : List.findIdx (fun z => z == y) met = met.length
  · have h2 : (x == y) = false := by simpa using fun h => hne h.symm
    rw [if_pos h1, if_neg (by omega)]
    simp [h2, List.findIdx_cons, Nat.add_comm]
  · rw [if_neg h1, if_pos (by omega)]

/-- What the map of numbers says of a number: 0 where it is not met. -/
def numAt (first : Int) (met : List Int) (x : Int) : Int := if placeIn met x = met.length then 0 else first + placeIn met x

/-- The map of numbers, as a datum. -/
def NumsD (first : Int) (met : List Int) (D : DataW Unit) : Prop :=
  Tidy D ∧ Maps.size D = met.length ∧ ∀ x : Int, Maps.has D (.int .i64 x) = !(placeIn met x == met.length) ∧ D.atKey (.int .i64 x) (.lit (.int .i64 0)) = .lit (.int .i64 (numAt first met x))

theorem NumsD.start (first : Int) : NumsD first [] (.map []) := ⟨tidy_empty, rfl, fun _ => ⟨rfl, rfl⟩⟩

theorem NumsD.store {first : Int} {met : List Int} {D : DataW Unit} (h : NumsD first met D) (x : Int) (hx : placeIn met x = met.length) :
    NumsD first (met ++ [x]) (D.put (.int .i64 x) (.lit (.int .i64 (first + met.length)))) := by
  obtain ⟨h1, h2, h3⟩ := h
  have hkl : ∀ z : Int, WideAt.IsKeyLit (.int .i64 z) := fun _ => trivial
  refine ⟨h1.put (hkl x) _, ?_, ?_⟩
  · rw [size_put h1, (h3 x).1, hx]
    simp [h2]
  · intro y
    by_cases hy : y = x
    · subst hy
      refine ⟨?_, ?_⟩
      · rw [has_put_same h1.isMap (hkl y), placeIn_snoc, if_pos hx]
        simp
      · rw [atKey_put_same h1.isMap (hkl y)]
        unfold numAt
        rw [placeIn_snoc, if_pos hx, if_neg (by simp)]
    · have hne : (Lit.int .i64 y) ≠ (Lit.int .i64 x) := fun h => hy (by simpa using h)
      refine ⟨?_, ?_⟩
      · rw [has_put_other hne, (h3 y).1, placeIn_snoc_ne _ _ _ hy]
        have := placeIn_le met y
        by_cases h9 : placeIn met y = met.length
        · rw [if_pos h9]; simp [h9]
        · rw [if_neg h9]
          have q : (placeIn met y == met.length) = false := by simpa using h9
          have q2 : (placeIn met y == (met ++ [x]).length) = false := by simp; omega
          rw [q, q2]
      · rw [atKey_put_other hne, (h3 y).2]
        unfold numAt
        rw [placeIn_snoc_ne _ _ _ hy]
        have := placeIn_le met y
        by_cases h9 : placeIn met y = met.length
        · rw [if_pos h9, if_pos h9, if_pos (by simp)]
        · rw [if_neg h9, if_neg h9, if_neg (by simp; omega)]

theorem Tryz.law2 : Keyed Tryz.prog 2 := int_keyed Tryz.underlying2
theorem row_kept {w w' : World} {g k : Nat} {ys : List Nd} (h : Row w g ys) (hg : w.grownBy w' (some k)) (hne : g ≠ k) : Row w' g ys := by
  have hlt := h.lt
  obtain ⟨cur, rest, hb, e⟩ := h
  exact ⟨cur, rest, (hg.block g hlt (by simpa using hne)).trans hb, e⟩

theorem cell_kept {w w' : World} {g k o : Nat} (hg : w.grownBy w' (some k)) (hl : g < w.heap.size) (hne : g ≠ k) : w'.cell? ⟨g, o, none⟩ = w.cell? ⟨g, o, none⟩ := by
  have h := hg.block g hl (by simpa using hne)
  unfold World.cell?
  rw [h]

end Go.Proofs.YthioecjcnajmgaaGreatDoor

namespace Go.Proofs.YthioecjcnajmgaaGreatDoor
open Go.RowKit Go.Shelf

attribute [local go_sem] Oper.semAt_some

/-- A box of one cell. -/
def Box1 (w : World) (b : Nat) (t : TypeId) (v : Value) : Prop := w.heap[b]? = some (.cells #[v] t (0, 0))

theorem Box1.lt {w : World} {b : Nat} {t : TypeId} {v : Value} (h : Box1 w b t v) : b < w.heap.size := (Array.getElem?_eq_some_iff.1 h).1

theorem Box1.cell {w : World} {b : Nat} {t : TypeId} {v : Value} (h : Box1 w b t v) : w.cell? ⟨b, 0, none⟩ = some v := by rw [cell_of_row w b 0 _ t (0, 0) h]; rfl

theorem Box1.frozen {w : World} {b : Nat} {t : TypeId} {v : Value} (h : Box1 w b t v) : w.frozen? ⟨b, 0, none⟩ = false := frozen_of_row w b 0 _ t h

theorem Box1.set {w : World} {b : Nat} {t : TypeId} {v : Value} (h : Box1 w b t v) (u : Value) : Box1 (w.setCell ⟨b, 0, none⟩ u) b t u := heap_setCell_same w b 0 _ t u h

theorem Box1.below {w w' : World} {B b : Nat} {t : TypeId} {v : Value} (h : Box1 w b t v) (hb : Below B w w') (hlt : b < B) : Box1 w' b t v := (hb.block b hlt).trans h

theorem Box1.but {S : Nat → Prop} {w w' : World} {b : Nat} {t : TypeId} {v : Value} (h : Box1 w b t v) (hb : But S w w') (hs : ¬ S b) : Box1 w' b t v := (hb.block b h.lt hs).trans h

theorem Box1.new (w : World) (t : TypeId) (v : Value) : Box1 (w.alloc (.cells #[v] t)) w.heap.size t v := heap_alloc_new _ _

theorem Box1.alloc {w : World} {b : Nat} {t : TypeId} {v : Value} (h : Box1 w b t v) (o : Obj) : Box1 (w.alloc o) b t v := (Below.heap_alloc w o b h.lt).trans h

/-- The three boxes of Part. -/
def boxes (w : World) (g m cm : Nat) (i : Int) : World :=
  ((w.alloc (.cells #[.slice (some ⟨g, 0, none⟩) m cm] 27)).alloc (.cells #[.int .i64 i] 3)).alloc (.cells #[.slice none 0 0] 27)

end Go.Proofs.YthioecjcnajmgaaGreatDoor

namespace Go.Proofs.YthioecjcnajmgaaGreatDoor
open Go.RowKit Go.Maps

/-- An element of a map that is a slice, and reads as itself. -/
def heldE : Value → Option (DataW Value × List MemPlace)
  | .slice a n c => some (.held (.slice a n c), [])
  | _ => none

theorem heldE_inv {v : Value} {z : DataW Value × List MemPlace} (h : heldE v = some z) : (∃ q : Option Addr × Nat × Nat, v = .slice q.1 q.2.1 q.2.2) ∧ z = (.held v, []) := by
  unfold heldE at h
  split at h
  · simp only [Option.some.injEq] at h
    exact ⟨⟨(_, _, _), rfl⟩, h.symm⟩
  · cases h

section
variable {P : Program} (w : World) {ops : Array Oper} {rest : List Oper} {o : Oper} {a : Act} {Q : Exit → Act → World → Prop}

theorem wpList_lookup_held1 (hg : o.guard = none) (m x : Operand) (t : TypeId) (hop : o.op = Op.lookup t m x false)
    (k e : TypeId) (K : Keyed P k) (ht : P.underlying t = some (.map k e)) {z : Value} (hz : (zeroValue e).run P w = .ok z w) (b n : Nat) (D : DataW Value)
    (hm : a.eval m = .map (some b)) (hown : w.ownsMap P k heldE b n D) (key : Value) (kl : Lit) (hx : a.eval x = key) (hkey : keyOf P k key = some kl)
    {v : Value} (hzd : heldE z = some (.held z, [])) (hv : D.atKey kl (.held z) = .held v)
    (hK : wpList P ops Q rest (a.put o.dst v) w) :
    wpList P ops Q (o :: rest) a w := by
  refine wpList_plain hg fun K' hK' => ?_
  obtain ⟨v', ps, hrun, hv'⟩ := hown.lookup K ht hz (zd := .held z) (zp := []) hzd hkey
  have e9 : v' = v := by
    rw [hv] at hv'
    have h9 := (heldE_inv hv').2
    simp only [Prod.mk.injEq, DataW.held.injEq] at h9
    exact h9.1.symm
  subst e9
  unfold Oper.wp
  simp [execOp, hop, hm, hx, hrun, Result.andThen]
  exact hK' _ _ hK
end

/-- A slice value. -/
def sl (q : Option Addr × Nat × Nat) : Value := .slice q.1 q.2.1 q.2.2

/-- The map of the first of several entries with one number. -/
def FirstD (ps : List (Int × (Option Addr × Nat × Nat))) (D : DataW Value) : Prop :=
  Tidy D ∧ ∀ x : Int, Maps.has D (.int .i64 x) = decide (placeIn (ps.map Prod.fst) x < ps.length) ∧ ∀ (h : placeIn (ps.map Prod.fst) x < ps.length) z, D.atKey (.int .i64 x) z = .held (sl ps[placeIn (ps.map Prod.fst) x].2)

theorem FirstD.start : FirstD [] (.map []) := ⟨tidy_empty, fun _ => ⟨rfl, fun h => by simp at h⟩⟩

theorem placeIn_cons (y : Int) (l : List Int) (x : Int) : placeIn (y :: l) x = if y = x then 0 else placeIn l x + 1 := by
  unfold placeIn
  rw [List.findIdx_cons]
  by_cases h : y = x
  · simp [h]
  · have : (y == x) = false := by simpa using h
    rw [this]; simp [h]

theorem FirstD.put {ps : List (Int × (Option Addr × Nat × Nat))} {D : DataW Value} (h : FirstD ps D) (p : Int × (Option Addr × Nat × Nat)) : FirstD (p :: ps) (D.put (.int .i64 p.1) (.held (sl p.2))) := by
  obtain ⟨h1, h2⟩ := h
  have hkl : ∀ z : Int, WideAt.IsKeyLit (.int .i64 z) := fun _ => trivial
  refine ⟨h1.put (hkl _) _, ?_⟩
  intro x
  by_cases hx : p.1 = x
  · subst hx
    have e : placeIn ((p :: ps).map Prod.fst) p.1 = 0 := by rw [List.map_cons, placeIn_cons, if_pos rfl]
    refine ⟨?_, ?_⟩
    · rw [has_put_same h1.isMap (hkl _), e]
      simp
    · intro h z
      rw [atKey_put_same h1.isMap (hkl _)]
      simp only [e, List.getElem_cons_zero]
  · have hne : (Lit.int .i64 x) ≠ (Lit.int .i64 p.1) := fun h => hx (by simpa using h.symm)
    have e : placeIn ((p :: ps).map Prod.fst) x = placeIn (ps.map Prod.fst) x + 1 := by rw [List.map_cons, placeIn_cons, if_neg hx]
    refine ⟨?_, ?_⟩
    · rw [has_put_other hne, (h2 x).1, e]
      simp
    · intro h z
      rw [atKey_put_other hne]
      simp only [e, List.getElem_cons_succ]
      exact (h2 x).2 (by simp only [e, List.length_cons] at h; omega) z

/-- Cells in pairs: a number, a slice. -/
def Prs (w : World) (ao : Option Addr) (ps : List (Int × (Option Addr × Nat × Nat))) : Prop :=
  ∀ i (h : i < ps.length), ∃ b o, ao = some ⟨b, o, none⟩ ∧ w.cell? ⟨b, o + i * 2, none⟩ = some (.int .i64 ps[i].1) ∧ w.cell? ⟨b, o + i * 2 + 1, none⟩ = some (.slice ps[i].2.1 ps[i].2.2.1 ps[i].2.2.2)

theorem Prs.but {S : Nat → Prop} {w w' : World} {ao : Option Addr} {ps : List (Int × (Option Addr × Nat × Nat))} (h : Prs w ao ps) (hb : But S w w') (hs : ∀ b o, ao = some ⟨b, o, none⟩ → 0 < ps.length → ¬ S b) : Prs w' ao ps := by
  intro i hi
  obtain ⟨b, o, e, h0, h1⟩ := h i hi
  exact ⟨b, o, e, (hb.cell (lt_of_cell h0) (hs b o e (by omega))).trans h0, (hb.cell (lt_of_cell h1) (hs b o e (by omega))).trans h1⟩

theorem Prs.below {w w' : World} {ao : Option Addr} {ps : List (Int × (Option Addr × Nat × Nat))} (h : Prs w ao ps) (hb : Below w.heap.size w w') : Prs w' ao ps := h.but (S := fun _ => False) (But.ofBelow hb) (fun _ _ _ _ h => h)

/-- What lies in a slice of Binds. -/
theorem Binds.prs {w : World} {ao : Option Addr} {bs : List (Int × List Nd)} (h : Binds w ao bs) : ∃ ps : List (Int × (Option Addr × Nat × Nat)), ps.length = bs.length ∧ ps.map Prod.fst = bs.map Prod.fst ∧ Prs w ao ps ∧
    ∀ i (hp : i < ps.length) (hb : i < bs.length), ps[i].2.2.1 = bs[i].2.length ∧ Nodes w ps[i].2.1 bs[i].2 := by
  have inh : Inhabited (Option Addr × Nat) := ⟨none, 0⟩
  obtain ⟨F, hF⟩ := Go.Deep.choose_lt (α := Option Addr × Nat) (n := bs.length) (p := fun i q => ∀ hb : i < bs.length, ∃ b o, ao = some ⟨b, o, none⟩ ∧ w.cell? ⟨b, o + i * 2, none⟩ = some (.int .i64 bs[i].1) ∧ w.cell? ⟨b, o + i * 2 + 1, none⟩ = some (.slice q.1 bs[i].2.length q.2) ∧ Nodes w q.1 bs[i].2) (fun i hi => by
    obtain ⟨b, o, ai, ci, e, h0, hc, hn⟩ := h i hi
    exact ⟨(ai, ci), fun _ => ⟨b, o, e, h0, hc, hn⟩⟩)
  have hget : ∀ i (hp : i < (bs.mapIdx fun i x => (x.1, ((F i).1, x.2.length, (F i).2))).length) (hb : i < bs.length), (bs.mapIdx fun i x => (x.1, ((F i).1, x.2.length, (F i).2)))[i] = (bs[i].1, ((F i).1, bs[i].2.length, (F i).2)) := by
    intro i hp hb
    simp
  refine ⟨bs.mapIdx fun i x => (x.1, ((F i).1, x.2.length, (F i).2)), by simp, ?_, ?_, ?_⟩
  · apply List.ext_getElem
    · simp
    · intro i h1 h2
      simp
  · intro i hi
    have hb : i < bs.length := by simpa using hi
    obtain ⟨b, o, e, h0, h1, _⟩ := hF i hb hb
    refine ⟨b, o, e, ?_, ?_⟩
    · rw [hget i hi hb]; exact h0
    · rw [hget i hi hb]; exact h1
  · intro i hp hb
    obtain ⟨b, o, e, h0, h1, hn⟩ := hF i hb hb
    rw [hget i hp hb]
    exact ⟨rfl, hn⟩

end Go.Proofs.YthioecjcnajmgaaGreatDoor

namespace Go.Proofs.YthioecjcnajmgaaGreatDoor
open Go.RowKit Go.Shelf Go.Maps
attribute [local go_sem] Oper.semAt_some

theorem owns_same {P : Program} {k : TypeId} {H : Type} {R : Value → Option (DataW H × List MemPlace)} {w w' : World} {b n : Nat} {D : DataW H} (h : w.ownsMap P k R b n D) (e : w'.heap[b]? = w.heap[b]?) : w'.ownsMap P k R b n D := by
  obtain ⟨es, clock, hb, F, hs, hD⟩ := h
  exact ⟨es, clock, e.trans hb, F, hs, hD⟩

/-- What the loop of typesOf keeps: z the place of its map. -/
structure TRnd (w : World) (z : Nat) (ao : Option Addr) (q cap : Nat) (ps : List (Int × (Option Addr × Nat × Nat))) (pre : List (Nat × (Int × (Option Addr × Nat × Nat)))) (W : World) : Prop where
  len : pre.length ≤ q
  own : ∃ D, W.ownsMap Tryz.prog 2 heldE z pre.length D ∧ FirstD (ps.drop (q - pre.length)) D
  box : Box1 W (z + 1) 72 (.map (some z))
  back : Box1 W (z + 1 + 1) 25 (.slice ao q cap)
  prs : Prs W ao ps
  below : Below w.heap.size w W

theorem TRnd.but {S : Nat → Prop} {w W W' : World} {z : Nat} {ao : Option Addr} {q cap : Nat} {ps : List (Int × (Option Addr × Nat × Nat))} {pre : List (Nat × (Int × (Option Addr × Nat × Nat)))} (h : TRnd w z ao q cap ps pre W) (hb : But S W W') (hz : w.heap.size ≤ z) (hs : ∀ k, S k → z + 3 ≤ k) (ha : ∀ b o, ao = some ⟨b, o, none⟩ → 0 < ps.length → b < w.heap.size) : TRnd w z ao q cap ps pre W' := by
  obtain ⟨D, hD, hF⟩ := h.own
  refine ⟨h.len, ⟨D, owns_same hD (hb.block z hD.lt (fun h9 => by have := hs _ h9; omega)), hF⟩, h.box.but hb (fun h9 => by have := hs _ h9; omega), h.back.but hb (fun h9 => by have := hs _ h9; omega), h.prs.but hb (fun b o e h0 h9 => by have := hs _ h9; have := ha b o e h0; omega), ?_⟩
  exact h.below.trans (hb.below h.below.size (fun k hk => by have := hs _ hk; omega))

end Go.Proofs.YthioecjcnajmgaaGreatDoor

namespace Go.Proofs.YthioecjcnajmgaaGreatDoor

open Go.Shelf

def Tryz.laysK54_ren : Go.Shelf.Ren := ⟨fun | 6 => 54 | 8 => 74 | 9 => 31 | 11 => 95 | 13 => 59 | 12 => 58 | 23 => 85 | 24 => 86 | 14 => 76 | 15 => 77 | 16 => 78 | 17 => 79 | 18 => 80 | 19 => 81 | 20 => 82 | 21 => 83 | 22 => 84 | 25 => 96 | 26 => 97 | 27 => 98 | 28 => 99 | 29 => 100 | 30 => 101 | 31 => 104 | n => n, fun | 26 => 2 | 28 => 113 | 24 => 31 | 0 => 0 | 3 => 3 | 37 => 120 | 48 => 157 | 50 => 159 | 4 => 4 | 40 => 149 | 39 => 148 | 45 => 154 | 5 => 5 | 9 => 9 | 51 => 179 | 55 => 183 | 57 => 194 | 58 => 45 | 33 => 146 | n => n, fun | n => n⟩
theorem Tryz.laysK54 : Go.Proofs.SlLaysZI.n6 Tryz.prog Tryz.laysK54_ren := {
  mixed := by kernel_rfl
  f6 := ⟨Tryz.f54.name, by decide, Tryz.func54.trans (congrArg some (by kernel_rfl))⟩
  f8 := ⟨Tryz.f74.name, by decide, Tryz.func74.trans (congrArg some (by kernel_rfl))⟩
  f11 := ⟨Tryz.f95.name, by decide, Tryz.func95.trans (congrArg some (by kernel_rfl))⟩
  t0 := Tryz.underlying0
  a0 := Tryz.isAgg0
  z0 := Tryz.sizeOf0
  v0 := Tryz.zeroValue0
  t24 := Tryz.underlying31
  a24 := Tryz.isAgg31
  z24 := Tryz.sizeOf31
  v24 := Tryz.zeroValue31
  t26 := Tryz.underlying2
  a26 := Tryz.isAgg2
  z26 := Tryz.sizeOf2
  v26 := Tryz.zeroValue2
  t28 := Tryz.underlying113
  a28 := Tryz.isAgg113
  z28 := Tryz.sizeOf113
  v28 := Tryz.zeroValue113
  i26 := by kernel_rfl }
def Tryz.laysK55_ren : Go.Shelf.Ren := ⟨fun | 7 => 55 | 10 => 75 | n => n, fun | 23 => 72 | 26 => 2 | 3 => 27 | 28 => 113 | 0 => 0 | 27 => 112 | 33 => 146 | 4 => 4 | n => n, fun | n => n⟩
theorem Tryz.laysK55 : Go.Proofs.SlLaysZI.n7 Tryz.prog Tryz.laysK55_ren := {
  mixed := by kernel_rfl
  f7 := ⟨Tryz.f55.name, by decide, Tryz.func55.trans (congrArg some (by kernel_rfl))⟩
  f10 := ⟨Tryz.f75.name, by decide, Tryz.func75.trans (congrArg some (by kernel_rfl))⟩
  t0 := Tryz.underlying0
  a0 := Tryz.isAgg0
  z0 := Tryz.sizeOf0
  v0 := Tryz.zeroValue0
  t4 := Tryz.underlying4
  a4 := Tryz.isAgg4
  z4 := Tryz.sizeOf4
  v4 := Tryz.zeroValue4
  t23 := Tryz.underlying72
  a23 := Tryz.isAgg72
  z23 := Tryz.sizeOf72
  v23 := Tryz.zeroValue72
  t26 := Tryz.underlying2
  a26 := Tryz.isAgg2
  z26 := Tryz.sizeOf2
  v26 := Tryz.zeroValue2
  t27 := Tryz.underlying112
  a27 := Tryz.isAgg112
  z27 := Tryz.sizeOf112
  v27 := Tryz.zeroValue112
  t28 := Tryz.underlying113
  a28 := Tryz.isAgg113
  z28 := Tryz.sizeOf113
  v28 := Tryz.zeroValue113
  t33 := Tryz.underlying146
  a33 := Tryz.isAgg146
  z33 := Tryz.sizeOf146
  v33 := Tryz.zeroValue146 }
def Tryz.laysK31_ren : Go.Shelf.Ren := ⟨fun | 5 => 31 | 8 => 59 | 7 => 58 | 19 => 85 | 20 => 86 | 10 => 76 | 11 => 77 | 12 => 78 | 13 => 79 | 14 => 80 | 15 => 81 | 16 => 82 | 17 => 83 | 18 => 84 | 30 => 96 | 31 => 97 | 32 => 98 | 33 => 99 | 34 => 100 | 35 => 101 | 40 => 104 | n => n, fun | 23 => 31 | 25 => 2 | 3 => 3 | 32 => 120 | 22 => 31 | 0 => 0 | 44 => 157 | 46 => 159 | 4 => 4 | 36 => 149 | 35 => 148 | 41 => 154 | 5 => 5 | 9 => 9 | 53 => 179 | 57 => 183 | 63 => 194 | 64 => 45 | n => n, fun | n => n⟩
theorem Tryz.laysK31 : Go.Proofs.SlLaysM.n5 Tryz.prog Tryz.laysK31_ren := {
  mixed := by kernel_rfl
  f5 := ⟨Tryz.f31.name, by decide, Tryz.func31.trans (congrArg some (by kernel_rfl))⟩
  f7 := ⟨Tryz.f58.name, by decide, Tryz.func58.trans (congrArg some (by kernel_rfl))⟩
  f8 := Tryz.func59.trans (congrArg some (by kernel_rfl))
  f10 := ⟨Tryz.f76.name, by decide, Tryz.func76.trans (congrArg some (by kernel_rfl))⟩
  f11 := ⟨Tryz.f77.name, by decide, Tryz.func77.trans (congrArg some (by kernel_rfl))⟩
  f12 := ⟨Tryz.f78.name, by decide, Tryz.func78.trans (congrArg some (by kernel_rfl))⟩
  f13 := ⟨Tryz.f79.name, by decide, Tryz.func79.trans (congrArg some (by kernel_rfl))⟩
  f14 := ⟨Tryz.f80.name, by decide, Tryz.func80.trans (congrArg some (by kernel_rfl))⟩
  f15 := ⟨Tryz.f81.name, by decide, Tryz.func81.trans (congrArg some (by kernel_rfl))⟩
  f16 := ⟨Tryz.f82.name, by decide, Tryz.func82.trans (congrArg some (by kernel_rfl))⟩
  f17 := ⟨Tryz.f83.name, by decide, Tryz.func83.trans (congrArg some (by kernel_rfl))⟩
  f18 := ⟨Tryz.f84.name, by decide, Tryz.func84.trans (congrArg some (by kernel_rfl))⟩
  f19 := Tryz.func85.trans (congrArg some (by kernel_rfl))
  f20 := Tryz.func86.trans (congrArg some (by kernel_rfl))
  f30 := ⟨Tryz.f96.name, by decide, Tryz.func96.trans (congrArg some (by kernel_rfl))⟩
  f31 := Tryz.func97.trans (congrArg some (by kernel_rfl))
  f32 := Tryz.func98.trans (congrArg some (by kernel_rfl))
  f33 := ⟨Tryz.f99.name, by decide, Tryz.func99.trans (congrArg some (by kernel_rfl))⟩
  f34 := ⟨Tryz.f100.name, by decide, Tryz.func100.trans (congrArg some (by kernel_rfl))⟩
  f35 := ⟨Tryz.f101.name, by decide, Tryz.func101.trans (congrArg some (by kernel_rfl))⟩
  f40 := ⟨Tryz.f104.name, by decide, Tryz.func104.trans (congrArg some (by kernel_rfl))⟩
  t0 := Tryz.underlying0
  a0 := Tryz.isAgg0
  z0 := Tryz.sizeOf0
  v0 := Tryz.zeroValue0
  t3 := Tryz.underlying3
  a3 := Tryz.isAgg3
  z3 := Tryz.sizeOf3
  v3 := Tryz.zeroValue3
  t4 := Tryz.underlying4
  a4 := Tryz.isAgg4
  z4 := Tryz.sizeOf4
  v4 := Tryz.zeroValue4
  t5 := Tryz.underlying5
  a5 := Tryz.isAgg5
  z5 := Tryz.sizeOf5
  v5 := Tryz.zeroValue5
  t9 := Tryz.underlying9
  a9 := Tryz.isAgg9
  z9 := Tryz.sizeOf9
  v9 := Tryz.zeroValue9
  t22 := Tryz.underlying31
  a22 := Tryz.isAgg31
  z22 := Tryz.sizeOf31
  v22 := Tryz.zeroValue31
  t23 := Tryz.underlying31
  a23 := Tryz.isAgg31
  z23 := Tryz.sizeOf31
  v23 := Tryz.zeroValue31
  t25 := Tryz.underlying2
  a25 := Tryz.isAgg2
  z25 := Tryz.sizeOf2
  v25 := Tryz.zeroValue2
  t32 := Tryz.underlying120
  a32 := Tryz.isAgg120
  z32 := Tryz.sizeOf120
  v32 := Tryz.zeroValue120
  t35 := Tryz.underlying148
  a35 := Tryz.isAgg148
  z35 := Tryz.sizeOf148
  v35 := Tryz.zeroValue148
  t36 := Tryz.underlying149
  a36 := Tryz.isAgg149
  z36 := Tryz.sizeOf149
  v36 := Tryz.zeroValue149
  t41 := Tryz.underlying154
  a41 := Tryz.isAgg154
  z41 := Tryz.sizeOf154
  v41 := Tryz.zeroValue154
  t44 := Tryz.underlying157
  a44 := Tryz.isAgg157
  z44 := Tryz.sizeOf157
  v44 := Tryz.zeroValue157
  t46 := Tryz.underlying159
  a46 := Tryz.isAgg159
  z46 := Tryz.sizeOf159
  v46 := Tryz.zeroValue159
  t53 := Tryz.underlying179
  a53 := Tryz.isAgg179
  z53 := Tryz.sizeOf179
  v53 := Tryz.zeroValue179
  t57 := Tryz.underlying183
  a57 := Tryz.isAgg183
  z57 := Tryz.sizeOf183
  v57 := Tryz.zeroValue183
  t63 := Tryz.underlying194
  a63 := Tryz.isAgg194
  z63 := Tryz.sizeOf194
  v63 := Tryz.zeroValue194
  t64 := Tryz.underlying45
  a64 := Tryz.isAgg45
  z64 := Tryz.sizeOf45
  v64 := Tryz.zeroValue45 }

end Go.Proofs.YthioecjcnajmgaaGreatDoor
