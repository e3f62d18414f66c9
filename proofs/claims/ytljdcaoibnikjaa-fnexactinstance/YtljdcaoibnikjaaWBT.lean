import Derived.Test.YtljdcaoibnikjaaWBS
import Derived.Test.YtljdcaoibnikjaaWAP
import Derived.Deep.Slices
import Derived.Maps.OwnIn
import Derived.Test.YtljdcaoibnikjaaWBO
namespace Go.Proofs.Ytljdcaoibnikjaa
open Go.RowKit Go.Maps

/-- An element of a map that is a slice, and reads as itself. -/
def heldE : Value → Option (DataW Value × List MemPlace)
  | .slice a n c => some (.held (.slice a n c), [])
  | _ => none

theorem heldE_inv {v : Value} {z : DataW Value × List MemPlace} (h : heldE v = some z) : (∃ q : Option Addr × Nat × Nat, v = .slice q.1 q.2.1 q.2.2) ∧ z = (.held v, []) := by
  unfold heldE at h
  split at h
  · simp only [Option.some.injEq] at h
    exact ⟨⟨(_, _, _), rfl⟩, h.symm⟩
  · cases h

section
variable {P : Program} (w : World) {ops : Array Oper} {rest : List Oper} {o : Oper} {a : Act} {Q : Exit → Act → World → Prop}

theorem wpList_lookup_held1 (hg : o.guard = none) (m x : Operand) (t : TypeId) (hop : o.op = Op.lookup t m x false)
    (k e : TypeId) (K : Keyed P k) (ht : P.underlying t = some (.map k e)) {z : Value} (hz : (zeroValue e).run P w = .ok z w) (b n : Nat) (D : DataW Value)
    (hm : a.eval m = .map (some b)) (hown : w.ownsMap P k heldE b n D) (key : Value) (kl : Lit) (hx : a.eval x = key) (hkey : keyOf P k key = some kl)
    {v : Value} (hzd : heldE z = some (.held z, [])) (hv : D.atKey kl (.held z) = .held v)
    (hK : wpList P ops Q rest (a.put o.dst v) w) :
    wpList P ops Q (o :: rest) a w := by
  refine wpList_plain hg fun K' hK' => ?_
  obtain ⟨v', ps, hrun, hv'⟩ := hown.lookup K ht hz (zd := .held z) (zp := []) hzd hkey
  have e9 : v' = v := by
    rw [hv] at hv'
    have h9 := (heldE_inv hv').2
    simp only [Prod.mk.injEq, DataW.held.injEq] at h9
    exact h9.1.symm
  subst e9
  unfold Oper.wp
  simp [execOp, hop, hm, hx, hrun, Result.andThen]
  exact hK' _ _ hK
end

/-- A slice value. -/
def sl (q : Option Addr × Nat × Nat) : Value := .slice q.1 q.2.1 q.2.2

/-- The map of the first of several entries with one number. -/
def FirstD (ps : List (Int × (Option Addr × Nat × Nat))) (D : DataW Value) : Prop :=
  Tidy D ∧ ∀ x : Int, Maps.has D (.int .i64 x) = decide (placeIn (ps.map Prod.fst) x < ps.length) ∧ ∀ (h : placeIn (ps.map Prod.fst) x < ps.length) z, D.atKey (.int .i64 x) z = .held (sl ps[placeIn (ps.map Prod.fst) x].2)

theorem FirstD.start : FirstD [] (.map []) := ⟨tidy_empty, fun _ => ⟨rfl, fun h => by simp at h⟩⟩

theorem placeIn_cons (y : Int) (l : List Int) (x : Int) : placeIn (y :: l) x = if y = x then 0 else placeIn l x + 1 := by
  unfold placeIn
  rw [List.findIdx_cons]
  by_cases h : y = x
  · simp [h]
  · have : (y == x) = false := by simpa using h
    rw [this]; simp [h]

theorem FirstD.put {ps : List (Int × (Option Addr × Nat × Nat))} {D : DataW Value} (h : FirstD ps D) (p : Int × (Option Addr × Nat × Nat)) : FirstD (p :: ps) (D.put (.int .i64 p.1) (.held (sl p.2))) := by
  obtain ⟨h1, h2⟩ := h
  have hkl : ∀ z : Int, WideAt.IsKeyLit (.int .i64 z) := fun _ => trivial
  refine ⟨h1.put (hkl _) _, ?_⟩
  intro x
  by_cases hx : p.1 = x
  · subst hx
    have e : placeIn ((p :: ps).map Prod.fst) p.1 = 0 := by rw [List.map_cons, placeIn_cons, if_pos rfl]
    refine ⟨?_, ?_⟩
    · rw [has_put_same h1.isMap (hkl _), e]
      simp
    · intro h z
      rw [atKey_put_same h1.isMap (hkl _)]
      simp only [e, List.getElem_cons_zero]
  · have hne : (Lit.int .i64 x) ≠ (Lit.int .i64 p.1) := fun h => hx (by simpa using h.symm)
    have e : placeIn ((p :: ps).map Prod.fst) x = placeIn (ps.map Prod.fst) x + 1 := by rw [List.map_cons, placeIn_cons, if_neg hx]
    refine ⟨?_, ?_⟩
    · rw [has_put_other hne, (h2 x).1, e]
      simp
    · intro h z
      rw [atKey_put_other hne]
      simp only [e, List.getElem_cons_succ]
      exact (h2 x).2 (by simp only [e, List.length_cons] at h; omega) z

/-- Cells in pairs: a number, a slice. -/
def Prs (w : World) (ao : Option Addr) (ps : List (Int × (Option Addr × Nat × Nat))) : Prop :=
  ∀ i (h : i < ps.length), ∃ b o, ao = some ⟨b, o, none⟩ ∧ w.cell? ⟨b, o + i * 2, none⟩ = some (.int .i64 ps[i].1) ∧ w.cell? ⟨b, o + i * 2 + 1, none⟩ = some (.slice ps[i].2.1 ps[i].2.2.1 ps[i].2.2.2)

theorem Prs.but {S : Nat → Prop} {w w' : World} {ao : Option Addr} {ps : List (Int × (Option Addr × Nat × Nat))} (h : Prs w ao ps) (hb : But S w w') (hs : ∀ b o, ao = some ⟨b, o, none⟩ → 0 < ps.length → ¬ S b) : Prs w' ao ps := by
  intro i hi
  obtain ⟨b, o, e, h0, h1⟩ := h i hi
  exact ⟨b, o, e, (hb.cell (lt_of_cell h0) (hs b o e (by omega))).trans h0, (hb.cell (lt_of_cell h1) (hs b o e (by omega))).trans h1⟩

theorem Prs.below {w w' : World} {ao : Option Addr} {ps : List (Int × (Option Addr × Nat × Nat))} (h : Prs w ao ps) (hb : Below w.heap.size w w') : Prs w' ao ps := h.but (S := fun _ => False) (But.ofBelow hb) (fun _ _ _ _ h => h)

/-- What lies in a slice of Binds. -/
theorem Binds.prs {w : World} {ao : Option Addr} {bs : List (Int × List Nd)} (h : Binds w ao bs) : ∃ ps : List (Int × (Option Addr × Nat × Nat)), ps.length = bs.length ∧ ps.map Prod.fst = bs.map Prod.fst ∧ Prs w ao ps ∧
    ∀ i (hp : i < ps.length) (hb : i < bs.length), ps[i].2.2.1 = bs[i].2.length ∧ Nodes w ps[i].2.1 bs[i].2 := by
  have inh : Inhabited (Option Addr × Nat) := ⟨none, 0⟩
  obtain ⟨F, hF⟩ := Go.Deep.choose_lt (α := Option Addr × Nat) (n := bs.length) (p := fun i q => ∀ hb : i < bs.length, ∃ b o, ao = some ⟨b, o, none⟩ ∧ w.cell? ⟨b, o + i * 2, none⟩ = some (.int .i64 bs[i].1) ∧ w.cell? ⟨b, o + i * 2 + 1, none⟩ = some (.slice q.1 bs[i].2.length q.2) ∧ Nodes w q.1 bs[i].2) (fun i hi => by
    obtain ⟨b, o, ai, ci, e, h0, hc, hn⟩ := h i hi
    exact ⟨(ai, ci), fun _ => ⟨b, o, e, h0, hc, hn⟩⟩)
  have hget : ∀ i (hp : i < (bs.mapIdx fun i x => (x.1, ((F i).1, x.2.length, (F i).2))).length) (hb : i < bs.length), (bs.mapIdx fun i x => (x.1, ((F i).1, x.2.length, (F i).2)))[i] = (bs[i].1, ((F i).1, bs[i].2.length, (F i).2)) := by
    intro i hp hb
    simp
  refine ⟨bs.mapIdx fun i x => (x.1, ((F i).1, x.2.length, (F i).2)), by simp, ?_, ?_, ?_⟩
  · apply List.ext_getElem
    · simp
    · intro i h1 h2
      simp
  · intro i hi
    have hb : i < bs.length := by simpa using hi
    obtain ⟨b, o, e, h0, h1, _⟩ := hF i hb hb
    refine ⟨b, o, e, ?_, ?_⟩
    · rw [hget i hi hb]; exact h0
    · rw [hget i hi hb]; exact h1
  · intro i hp hb
    obtain ⟨b, o, e, h0, h1, hn⟩ := hF i hb hb
    rw [hget i hp hb]
    exact ⟨rfl, hn⟩

end Go.Proofs.Ytljdcaoibnikjaa

namespace Go.Proofs.Ytljdcaoibnikjaa
open Go.RowKit Go.Shelf Go.Maps
attribute [local go_sem] Oper.semAt_some

theorem owns_same {P : Program} {k : TypeId} {H : Type} {R : Value → Option (DataW H × List MemPlace)} {w w' : World} {b n : Nat} {D : DataW H} (h : w.ownsMap P k R b n D) (e : w'.heap[b]? = w.heap[b]?) : w'.ownsMap P k R b n D := by
  obtain ⟨es, clock, hb, F, hs, hD⟩ := h
  exact ⟨es, clock, e.trans hb, F, hs, hD⟩

/-- What the loop of typesOf keeps: z the place of its map. -/
structure TRnd (w : World) (z : Nat) (ao : Option Addr) (q cap : Nat) (ps : List (Int × (Option Addr × Nat × Nat))) (pre : List (Nat × (Int × (Option Addr × Nat × Nat)))) (W : World) : Prop where
  len : pre.length ≤ q
  own : ∃ D, W.ownsMap Try.prog 2 heldE z pre.length D ∧ FirstD (ps.drop (q - pre.length)) D
  box : Box1 W (z + 1) 63 (.map (some z))
  back : Box1 W (z + 1 + 1) 24 (.slice ao q cap)
  prs : Prs W ao ps
  below : Below w.heap.size w W

theorem TRnd.but {S : Nat → Prop} {w W W' : World} {z : Nat} {ao : Option Addr} {q cap : Nat} {ps : List (Int × (Option Addr × Nat × Nat))} {pre : List (Nat × (Int × (Option Addr × Nat × Nat)))} (h : TRnd w z ao q cap ps pre W) (hb : But S W W') (hz : w.heap.size ≤ z) (hs : ∀ k, S k → z + 3 ≤ k) (ha : ∀ b o, ao = some ⟨b, o, none⟩ → 0 < ps.length → b < w.heap.size) : TRnd w z ao q cap ps pre W' := by
  obtain ⟨D, hD, hF⟩ := h.own
  refine ⟨h.len, ⟨D, owns_same hD (hb.block z hD.lt (fun h9 => by have := hs _ h9; omega)), hF⟩, h.box.but hb (fun h9 => by have := hs _ h9; omega), h.back.but hb (fun h9 => by have := hs _ h9; omega), h.prs.but hb (fun b o e h0 h9 => by have := hs _ h9; have := ha b o e h0; omega), ?_⟩
  exact h.below.trans (hb.below h.below.size (fun k hk => by have := hs _ hk; omega))

end Go.Proofs.Ytljdcaoibnikjaa
