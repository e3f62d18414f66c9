import Derived.Test.YtekogjmmfhbinaaRoots
import Derived.Test.YtekogjmmfhbinaaFMath
import Derived.Test.YtekogjmmfhbinaaIDeep
import Derived.Test.YtekogjmmfhbinaaWAA
namespace Go.Proofs.Ytekogjmmfhbinaa

/-- The node at a place. -/
def ndAt (t : List Nd) (i : Nat) : Nd := t[i]?.getD Nd.zero

theorem ndAt_get {t : List Nd} {i : Nat} (h : i < t.length) : ndAt t i = t[i] := by simp [ndAt, List.getElem?_eq_getElem h]

/-- The roots that are nobody's kids, behind k nodes. -/
def fam (t : List Nd) : Nat → List Nd
  | 0 => []
  | k + 1 => (fam t k).take ((fam t k).length - (ndAt t k).kids.toNat) ++ [ndAt t k]

/-- The roots of the kids of node k. -/
def kidsN (t : List Nd) (k : Nat) : List Nd := (fam t k).drop ((fam t k).length - (ndAt t k).kids.toNat)

theorem fam_after {t : List Nd} : ∀ {k : Nat} {S ys : List Sp}, after t k = some (S, ys) → fam t k = S.map (fun s => ndAt t s.rt) := by
  intro k
  induction k with
  | zero =>
    intro S ys h
    simp only [after, Option.some.injEq, Prod.mk.injEq] at h
    obtain ⟨rfl, rfl⟩ := h
    rfl
  | succ k ih =>
    intro S' ys' h
    obtain ⟨S, ys, s, hk, ha, hs, rfl⟩ := after_inv h
    obtain ⟨h0, h1, rfl, hov⟩ := step_some hs
    have hr : s.rt = k := by rw [hov]; rfl
    have h9 := ih ha
    show (fam t k).take _ ++ [_] = _
    rw [h9, List.length_map, ← List.map_take, List.map_append, ndAt_get hk]
    simp [hr, ndAt_get hk]

theorem kidsN_eq {t : List Nd} {k : Nat} {S ys : List Sp} (h : after t k = some (S, ys)) (hk : k < t.length) : kidsN t k = (S.drop (S.length - t[k].kids.toNat)).map (fun s => ndAt t s.rt) := by
  unfold kidsN
  rw [fam_after h, ndAt_get hk, List.length_map, ← List.map_drop]

theorem fam_len {t : List Nd} {k : Nat} {S ys : List Sp} (h : after t k = some (S, ys)) : (fam t k).length = S.length := by
  rw [fam_after h]
  simp

/-- How many TAlls stand one behind the other, up to here. -/
def alls (t : List Nd) : Nat → Nat
  | 0 => 0
  | k + 1 => if (ndAt t k).kind = 62 then alls t k + 1 else 0

theorem alls_le (t : List Nd) (k : Nat) : alls t k ≤ k := by
  induction k with
  | zero => exact Nat.le_refl _
  | succ k ih => unfold alls; split <;> omega

/-- What is asked of a node and of its kids. -/
def nodeOk (own : Nat → Option (Nd → Bool)) (kids : Nat → Nd → List Nd → Bool) (x : Nd) (ks : List Nd) : Bool :=
  decide (0 ≤ x.kind) && decide (x.kind < 92) && x.place == 0 && (match own x.kind.toNat with
    | none => false
    | some p => p x) && kids x.kind.toNat x ks

def okAt (own : Nat → Option (Nd → Bool)) (kids : Nat → Nd → List Nd → Bool) (t : List Nd) (k : Nat) : Bool :=
  nodeOk own kids (ndAt t k) (kidsN t k) && decide (alls t (k + 1) ≤ 1000)

/-- All nodes ahead of k are in order. -/
def okTo (own : Nat → Option (Nd → Bool)) (kids : Nat → Nd → List Nd → Bool) (t : List Nd) (k : Nat) : Prop := ∀ i, i < k → okAt own kids t i = true

/-- A list in form. -/
def InForm (own : Nat → Option (Nd → Bool)) (kids : Nat → Nd → List Nd → Bool) (root : Nd → Bool) (t : List Nd) : Prop :=
  t.length ≤ 60000 ∧ rawDeep t ≠ 0 ∧ okTo own kids t t.length ∧ root (ndAt t (t.length - 1)) = true

theorem raw_after {t : List Nd} (h : rawDeep t ≠ 0) : 0 < t.length ∧ ∃ S ys, after t t.length = some (S, ys) := by
  unfold rawDeep at h
  cases ha : after t t.length with
  | none => rw [ha] at h; exact absurd rfl h
  | some p =>
    obtain ⟨S, ys⟩ := p
    refine ⟨?_, S, ys, rfl⟩
    rw [ha] at h
    by_cases h0 : 0 < t.length
    · exact h0
    · exfalso
      have h1 : t = [] := List.eq_nil_of_length_eq_zero (by omega)
      subst h1
      simp only [List.length_nil, after, Option.some.injEq, Prod.mk.injEq] at ha
      obtain ⟨rfl, rfl⟩ := ha
      exact h rfl

/-- The places of the kids of node i. -/
def kidsRt (t : List Nd) (i : Nat) : List Nat := match after t i with
  | none => []
  | some (S, _) => (S.drop (S.length - (ndAt t i).kids.toNat)).map fun s => s.rt

/-- Is the code at node i known? (Kids lie ahead of it: f is any number above i.) -/
def kn (t : List Nd) : Nat → Nat → Bool
  | 0, _ => false
  | f + 1, i =>
    if (ndAt t i).kind = 72 ∨ (ndAt t i).kind = 73 ∨ (ndAt t i).kind = 74 then true
    else if (ndAt t i).kind = 75 then (kidsRt t i).all (kn t f)
    else (ndAt t i).kind == 77 && ((ndAt t ((kidsRt t i).getD 0 0)).kind == 74 && kn t f ((kidsRt t i).getD 1 0))

theorem kidsRt_eq {t : List Nd} {i : Nat} {S ys : List Sp} (h : after t i = some (S, ys)) (hi : i < t.length) : kidsRt t i = (S.drop (S.length - t[i].kids.toNat)).map fun s => s.rt := by
  unfold kidsRt
  rw [h, ndAt_get hi]

theorem kidsRt_lt {t : List Nd} {S ys : List Sp} {m : Nat} (h : after t m = some (S, ys)) {i : Nat} (hi : i < m) : ∀ r ∈ kidsRt t i, r < i := by
  obtain ⟨Si, hSi, hk, hK⟩ := kids_atS h i hi
  rw [kidsRt_eq hSi hk]
  intro r hr
  obtain ⟨s, hs, rfl⟩ := List.mem_map.1 hr
  obtain ⟨j, hj, rfl⟩ := List.getElem_of_mem hs
  exact (hK.mem j hj).2.2

theorem kidsRt_len {t : List Nd} {S ys : List Sp} {m : Nat} (h : after t m = some (S, ys)) {i : Nat} (hi : i < m) : (kidsRt t i).length = (kidsN t i).length := by
  obtain ⟨Si, hSi, hk, hK⟩ := kids_atS h i hi
  rw [kidsRt_eq hSi hk, kidsN_eq hSi hk]
  simp

/-- The least predicate that F makes. -/
def Lfp {α : Type} (F : (α → Prop) → α → Prop) (x : α) : Prop := ∀ R : α → Prop, (∀ y, F R y → R y) → R x

/-- F keeps what it is told when it is told more. -/
def Grows {α : Type} (F : (α → Prop) → α → Prop) : Prop := ∀ (R R' : α → Prop) (x : α), (∀ y, R y → R' y) → F R x → F R' x

theorem Lfp.fold {α : Type} {F : (α → Prop) → α → Prop} (hm : Grows F) {x : α} (h : F (Lfp F) x) : Lfp F x :=
  fun R hR => hR x (hm _ R x (fun _ hy => hy R hR) h)

theorem Lfp.ind {α : Type} {F : (α → Prop) → α → Prop} (hm : Grows F) {p : α → Prop} (hp : ∀ y, F (fun z => Lfp F z ∧ p z) y → p y) {x : α} (h : Lfp F x) : p x :=
  (h (fun y => Lfp F y ∧ p y) (fun y hy => ⟨Lfp.fold hm (hm _ _ y (fun _ hz => hz.1) hy), hp y hy⟩)).2

end Go.Proofs.Ytekogjmmfhbinaa
