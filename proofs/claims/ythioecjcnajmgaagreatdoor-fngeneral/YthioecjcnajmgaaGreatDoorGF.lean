import Derived.Test.YthioecjcnajmgaaGreatDoorGE
namespace Go.Proofs.YthioecjcnajmgaaGreatDoor

/-- What is asked of things with smaller numbers can be answered for all. -/
theorem wf_val {α : Type} (d : α) (r : Nat → Nat) (G : Nat → (Nat → α) → α) (hG : ∀ i v v', (∀ j, r j < r i → v j = v' j) → G i v = G i v') : ∃ v : Nat → α, ∀ i, v i = G i v := by
  let val : Nat → Nat → α := fun f => Nat.rec (motive := fun _ => Nat → α) (fun _ => d) (fun _ p i => G i p) f
  have hs : ∀ f i, val (f + 1) i = G i (val f) := fun f i => rfl
  have key : ∀ n i, r i = n → ∀ f, r i < f → val f i = val (r i + 1) i := by
    intro n
    induction n using Nat.strongRecOn with
    | ind n ih =>
      intro i hi f hf
      cases f with
      | zero => omega
      | succ f =>
        rw [hs, hs]
        apply hG
        intro j hj
        rw [ih (r j) (by omega) j rfl f (by omega), ih (r j) (by omega) j rfl (r i) (by omega)]
  refine ⟨fun i => val (r i + 1) i, fun i => ?_⟩
  show val (r i + 1) i = _
  rw [hs]
  apply hG
  intro j hj
  exact key (r j) j rfl (r i) hj

/-- A type in a store, without links. -/
structure SK where
  kind : Int
  num : Int
  text : ByteArray
  kids : List Nat

def SK.none : SK := ⟨0, 0, ByteArray.empty, []⟩

def sk (st : List SK) (i : Nat) : SK := st[i]?.getD SK.none

def SK.node (x : SK) : Nd := ⟨x.kind, x.num, x.text, (x.kids.length : Int), 0⟩

/-- Kids stand ahead; unknowns have none. -/
structure Sts (st : List SK) : Prop where
  kids : ∀ i, ∀ k ∈ (sk st i).kids, k < i
  leaf : ∀ i, (sk st i).kind = 61 → (sk st i).kids = []
  one : ∀ i j, i < st.length → j < st.length → (sk st i).kind = 61 → (sk st j).kind = 61 → (sk st i).num = (sk st j).num → i = j
  plain : ∀ i, i < st.length → (sk st i).node.plainb = true
  few : ∀ i, (sk st i).kids.length ≤ 6000

/-- The tree of a node, unknowns filled. -/
def IsT (θ : Int → List Nd) (st : List SK) (v : Nat → List Nd) : Prop := ∀ i, v i = if (sk st i).kind = 61 then θ (sk st i).num else (sk st i).kids.flatMap v ++ [(sk st i).node]

theorem flatMap_congr {α β : Type} {l : List α} {f g : α → List β} (h : ∀ x ∈ l, f x = g x) : l.flatMap f = l.flatMap g := by
  induction l with
  | nil => rfl
  | cons a l ih => simp only [List.flatMap_cons]; rw [h a (by simp), ih (fun x hx => h x (by simp [hx]))]

theorem exists_T (θ : Int → List Nd) {st : List SK} (hk : ∀ i, ∀ k ∈ (sk st i).kids, k < i) : ∃ v, IsT θ st v := by
  refine wf_val [] id _ ?_
  intro i v v' h
  by_cases h61 : (sk st i).kind = 61
  · rw [if_pos h61, if_pos h61]
  · rw [if_neg h61, if_neg h61]
    rw [flatMap_congr (fun k hk2 => h k (hk i k hk2))]

open Classical in
noncomputable def T (θ : Int → List Nd) (st : List SK) : Nat → List Nd := if h : ∃ v, IsT θ st v then Classical.choose h else fun _ => []

theorem T_is (θ : Int → List Nd) {st : List SK} (hs : Sts st) : IsT θ st (T θ st) := by
  have h := exists_T θ hs.kids
  unfold T
  rw [dif_pos h]
  exact Classical.choose_spec h

theorem T_meta (θ : Int → List Nd) {st : List SK} (hs : Sts st) {i : Nat} (h : (sk st i).kind = 61) : T θ st i = θ (sk st i).num := by
  rw [T_is θ hs i, if_pos h]

theorem T_node (θ : Int → List Nd) {st : List SK} (hs : Sts st) {i : Nat} (h : (sk st i).kind ≠ 61) : T θ st i = (sk st i).kids.flatMap (T θ st) ++ [(sk st i).node] := by
  have := T_is θ hs i
  rw [if_neg h] at this
  exact this

theorem T_one {θ : Int → List Nd} (hθ : ∀ x, One (θ x)) {st : List SK} (hs : Sts st) : ∀ i, One (T θ st i) := by
  intro i
  induction i using Nat.strongRecOn with
  | ind i ih =>
    by_cases h : (sk st i).kind = 61
    · rw [T_meta θ hs h]; exact hθ _
    · rw [T_node θ hs h, List.flatMap_def]
      refine One.join ?_ ?_
      · intro x hx
        obtain ⟨k, hk, rfl⟩ := List.mem_map.1 hx
        exact ih k (hs.kids i k hk)
      · simp [SK.node]

/-- A filling for which links say what is so. -/
def Sat (θ : Int → List Nd) (st : List SK) (lk : Nat → Option Nat) : Prop := ∀ i j, lk i = some j → T θ st i = T θ st j

/-- Where the links from a node end. -/
inductive Rt (lk : Nat → Option Nat) : Nat → Nat → Prop
  | root {i : Nat} : lk i = none → Rt lk i i
  | step {i j r : Nat} : lk i = some j → Rt lk j r → Rt lk i r

theorem Rt.is_root {lk : Nat → Option Nat} {i r : Nat} (h : Rt lk i r) : lk r = none := by
  induction h with
  | root h => exact h
  | step _ _ ih => exact ih

theorem Rt.fun {lk : Nat → Option Nat} {i r r' : Nat} (h : Rt lk i r) (h' : Rt lk i r') : r = r' := by
  induction h with
  | root h =>
    cases h' with
    | root _ => rfl
    | step h2 _ => rw [h] at h2; cases h2
  | step h1 _ ih =>
    cases h' with
    | root h2 => rw [h2] at h1; cases h1
    | step h2 h3 =>
      rw [h1] at h2
      cases h2
      exact ih h3

theorem Rt.sat {θ : Int → List Nd} {st : List SK} {lk : Nat → Option Nat} {i r : Nat} (h : Rt lk i r) (hs : Sat θ st lk) : T θ st i = T θ st r := by
  induction h with
  | root _ => rfl
  | step h1 _ ih => rw [hs _ _ h1, ih]

/-- Links and kids go down. -/
structure Ranked (st : List SK) (lk : Nat → Option Nat) (r : Nat → Nat) : Prop where
  link : ∀ i j, lk i = some j → r j < r i
  kid : ∀ i, lk i = none → ∀ k ∈ (sk st i).kids, r k < r i

theorem Ranked.rt {st : List SK} {lk : Nat → Option Nat} {r : Nat → Nat} (h : Ranked st lk r) : ∀ i, ∃ q, Rt lk i q := by
  intro i
  induction hn : r i using Nat.strongRecOn generalizing i with
  | ind n ih =>
    cases hl : lk i with
    | none => exact ⟨i, .root hl⟩
    | some j =>
      obtain ⟨q, hq⟩ := ih (r j) (by have := h.link i j hl; omega) j rfl
      exact ⟨q, .step hl hq⟩

/-- The type that a store says of a node. -/
def IsD (st : List SK) (lk : Nat → Option Nat) (D : Nat → List Nd) : Prop := ∀ i, D i = match lk i with
  | some j => D j
  | none => (sk st i).kids.flatMap D ++ [(sk st i).node]

theorem IsD.link {st : List SK} {lk : Nat → Option Nat} {D : Nat → List Nd} (h : IsD st lk D) {i j : Nat} (hl : lk i = some j) : D i = D j := by
  have := h i
  rw [hl] at this
  exact this

theorem IsD.node {st : List SK} {lk : Nat → Option Nat} {D : Nat → List Nd} (h : IsD st lk D) {i : Nat} (hl : lk i = none) : D i = (sk st i).kids.flatMap D ++ [(sk st i).node] := by
  have := h i
  rw [hl] at this
  exact this

theorem IsD.rt {st : List SK} {lk : Nat → Option Nat} {D : Nat → List Nd} (h : IsD st lk D) {i r : Nat} (hr : Rt lk i r) : D i = D r := by
  induction hr with
  | root _ => rfl
  | step h1 _ ih => rw [h.link h1, ih]

/-- All that is held of a store's links. -/
structure Inv (st : List SK) (lk : Nat → Option Nat) : Prop where
  rank : ∃ r, Ranked st lk r
  rng : ∀ i j, lk i = some j → i < st.length ∧ j < st.length
  cong : ∀ i j, lk i = some j → (sk st i).kind ≠ 61 → (sk st j).kind ≠ 61 ∧ (sk st i).node = (sk st j).node ∧ ∀ k (h : k < (sk st i).kids.length) (h' : k < (sk st j).kids.length), ∃ r, Rt lk (sk st i).kids[k] r ∧ Rt lk (sk st j).kids[k] r
  low : ∀ i j, lk i = some j → (sk st i).kind = 61 → (sk st j).kind = 61 → (sk st j).num < (sk st i).num

theorem node_kids {x y : SK} (h : x.node = y.node) : x.kids.length = y.kids.length := by
  have := congrArg Nd.kids h
  simp only [SK.node] at this
  omega

theorem flatMap_pair {l l' : List Nat} {v : Nat → List Nd} (hl : l.length = l'.length) (h : ∀ k (h : k < l.length) (h' : k < l'.length), v l[k] = v l'[k]) : l.flatMap v = l'.flatMap v := by
  rw [List.flatMap_def, List.flatMap_def]
  congr 1
  apply List.ext_getElem
  · simpa using hl
  · intro i h1 h2
    simp only [List.getElem_map]
    exact h i (by simpa using h1) (by simpa using h2)

theorem leaf_one (n : Nd) (h : n.kids = 0) : One [n] := One.join (A := []) (by simp) (by simp [h])

end Go.Proofs.YthioecjcnajmgaaGreatDoor

namespace Go.Proofs.YthioecjcnajmgaaGreatDoor

/-- A way down from a node to another. -/
inductive Rch (st : List SK) (lk : Nat → Option Nat) : Nat → Nat → Prop
  | refl (i : Nat) : Rch st lk i i
  | link {i j z : Nat} : lk i = some j → Rch st lk j z → Rch st lk i z
  | kid {i k z : Nat} : lk i = none → k ∈ (sk st i).kids → Rch st lk k z → Rch st lk i z

theorem Rch.trans {st : List SK} {lk : Nat → Option Nat} {i j z : Nat} (h : Rch st lk i j) (h' : Rch st lk j z) : Rch st lk i z := by
  induction h with
  | refl _ => exact h'
  | link h1 _ ih => exact .link h1 (ih h')
  | kid h1 h2 _ ih => exact .kid h1 h2 (ih h')

/-- One link more. -/
def upd (lk : Nat → Option Nat) (a b : Nat) : Nat → Option Nat := fun i => if i = a then some b else lk i

theorem upd_same (lk : Nat → Option Nat) (a b : Nat) : upd lk a b a = some b := by simp [upd]

theorem upd_other {lk : Nat → Option Nat} {a b i : Nat} (h : i ≠ a) : upd lk a b i = lk i := by simp [upd, h]

open Classical in
theorem Ranked.upd {st : List SK} {lk : Nat → Option Nat} {r : Nat → Nat} (hr : Ranked st lk r) {a b : Nat} (hn : ¬ Rch st lk b a) : ∃ r', Ranked st (upd lk a b) r' := by
  refine ⟨fun i => r i + if Rch st lk i a then r b + 1 else 0, ?_, ?_⟩
  · intro i j h
    by_cases e : i = a
    · subst e
      rw [upd_same] at h
      cases h
      rw [if_neg hn, if_pos (Rch.refl i)]
      omega
    · rw [upd_other e] at h
      have h1 := hr.link i j h
      by_cases hj : Rch st lk j a
      · rw [if_pos hj, if_pos (Rch.link h hj)]; omega
      · rw [if_neg hj]; omega
  · intro i h k hk
    by_cases e : i = a
    · subst e
      rw [upd_same] at h
      cases h
    · rw [upd_other e] at h
      have h1 := hr.kid i h k hk
      by_cases hj : Rch st lk k a
      · rw [if_pos hj, if_pos (Rch.kid h hk hj)]; omega
      · rw [if_neg hj]; omega

theorem Rt.upd {lk : Nat → Option Nat} {a b i r : Nat} (hb : lk b = none) (hab : a ≠ b) (ha : lk a = none) (h : Rt lk i r) : Rt (upd lk a b) i (if r = a then b else r) := by
  induction h with
  | root h1 =>
    rename_i i
    by_cases e : i = a
    · rw [if_pos e, e]
      exact .step (upd_same lk a b) (.root (by rw [upd_other (Ne.symm hab)]; exact hb))
    · rw [if_neg e]
      exact .root (by rw [upd_other e]; exact h1)
  | @step i j r h1 _ ih =>
    have e : i ≠ a := by intro e; rw [e, ha] at h1; cases h1
    exact .step (by rw [upd_other e]; exact h1) ih

theorem Sat.upd {θ : Int → List Nd} {st : List SK} {lk : Nat → Option Nat} {a b : Nat} (ha : lk a = none) : Sat θ st (upd lk a b) ↔ Sat θ st lk ∧ T θ st a = T θ st b := by
  constructor
  · intro h
    refine ⟨?_, h a b (upd_same lk a b)⟩
    intro i j hl
    have e : i ≠ a := by intro e; rw [e, ha] at hl; cases hl
    exact h i j (by rw [upd_other e]; exact hl)
  · rintro ⟨h1, h2⟩ i j hl
    by_cases e : i = a
    · subst e
      rw [upd_same] at hl
      cases hl
      exact h2
    · rw [upd_other e] at hl
      exact h1 i j hl

/-- Links are added alone. -/
def Ext2 (lk lk' : Nat → Option Nat) : Prop := ∀ i j, lk i = some j → lk' i = some j

theorem Ext2.upd {lk : Nat → Option Nat} {a b : Nat} (ha : lk a = none) : Ext2 lk (upd lk a b) := by
  intro i j h
  have e : i ≠ a := by intro e; rw [e, ha] at h; cases h
  rw [upd_other e]; exact h

theorem Ext2.rt {lk lk' : Nat → Option Nat} (h : Ext2 lk lk') {i r q : Nat} (h1 : Rt lk i r) (h2 : Rt lk' r q) : Rt lk' i q := by
  induction h1 with
  | root _ => exact h2
  | step h3 _ ih => exact .step (h _ _ h3) (ih h2)

/-- How many unknowns are not linked. -/
def unl (st : List SK) (lk : Nat → Option Nat) : Nat := ((List.range st.length).filter (fun i => (sk st i).kind == 61 && (lk i).isNone)).length

theorem filter_le {α : Type} {l : List α} {p q : α → Bool} (h : ∀ x ∈ l, p x = true → q x = true) : (l.filter p).length ≤ (l.filter q).length := by
  induction l with
  | nil => simp
  | cons a l ih =>
    have h1 := ih (fun x hx => h x (by simp [hx]))
    have h2 := h a (by simp)
    simp only [List.filter_cons]
    cases hp : p a
    · cases q a <;> simp <;> omega
    · rw [h2 hp]; simp; omega

theorem unl_le {st : List SK} {lk lk' : Nat → Option Nat} (h : Ext2 lk lk') : unl st lk' ≤ unl st lk := by
  refine filter_le ?_
  intro i _ hi
  simp only [Bool.and_eq_true, beq_iff_eq, Option.isNone_iff_eq_none] at hi ⊢
  refine ⟨hi.1, ?_⟩
  cases hl : lk i with
  | none => rfl
  | some j => have := h i j hl; rw [hi.2] at this; cases this

/-- What a unification that goes through leaves. -/
structure UOk (st : List SK) (lk : Nat → Option Nat) (a b : Nat) (lk' : Nat → Option Nat) : Prop where
  inv : Inv st lk'
  ext : Ext2 lk lk'
  sat : ∀ θ, (∀ x, One (θ x)) → (Sat θ st lk' ↔ Sat θ st lk ∧ T θ st a = T θ st b)
  root : ∃ r, Rt lk' a r ∧ Rt lk' b r
  same : unl st lk' = unl st lk → ∀ D, IsD st lk D → IsD st lk' D
  rts : ∀ i j r, Rt lk i r → Rt lk j r → ∃ q, Rt lk' i q ∧ Rt lk' j q
  chg : ∀ i, lk' i ≠ lk i → ∀ θ, Sat θ st lk' → (T θ st i).length ≤ (T θ st a).length

def UNo (st : List SK) (lk : Nat → Option Nat) (a b : Nat) : Prop := ∀ θ, (∀ x, One (θ x)) → Sat θ st lk → T θ st a ≠ T θ st b

/-- From the ends of the links to the nodes themselves. -/
theorem UOk.up {st : List SK} {lk lk' : Nat → Option Nat} {a b ra rb : Nat} (h : UOk st lk ra rb lk') (ha : Rt lk a ra) (hb : Rt lk b rb) : UOk st lk a b lk' := by
  refine ⟨h.inv, h.ext, ?_, ?_, h.same, h.rts, ?_⟩
  · intro θ hθ
    rw [h.sat θ hθ]
    refine and_congr_right fun hs => ?_
    rw [ha.sat hs, hb.sat hs]
  · obtain ⟨r, h1, h2⟩ := h.root
    exact ⟨r, h.ext.rt ha h1, h.ext.rt hb h2⟩
  · intro i hi θ hs
    obtain ⟨r, h1, _⟩ := h.root
    have e : T θ st a = T θ st ra := by rw [(h.ext.rt ha h1).sat hs, h1.sat hs]
    rw [e]
    exact h.chg i hi θ hs

theorem UNo.up {st : List SK} {lk : Nat → Option Nat} {a b ra rb : Nat} (h : UNo st lk ra rb) (ha : Rt lk a ra) (hb : Rt lk b rb) : UNo st lk a b := by
  intro θ hθ hs e
  rw [ha.sat hs, hb.sat hs] at e
  exact h θ hθ hs e

/-- Kids up to k have been made one. -/
structure UKs (st : List SK) (lk : Nat → Option Nat) (a b k : Nat) (lk' : Nat → Option Nat) : Prop where
  inv : Inv st lk'
  ext : Ext2 lk lk'
  sat : ∀ θ, (∀ x, One (θ x)) → (Sat θ st lk' ↔ Sat θ st lk ∧ ∀ m (h : m < (sk st a).kids.length) (h' : m < (sk st b).kids.length), m < k → T θ st (sk st a).kids[m] = T θ st (sk st b).kids[m])
  root : ∀ m (h : m < (sk st a).kids.length) (h' : m < (sk st b).kids.length), m < k → ∃ r, Rt lk' (sk st a).kids[m] r ∧ Rt lk' (sk st b).kids[m] r
  same : unl st lk' = unl st lk → ∀ D, IsD st lk D → IsD st lk' D
  rts : ∀ i j r, Rt lk i r → Rt lk j r → ∃ q, Rt lk' i q ∧ Rt lk' j q
  chg : ∀ i, lk' i ≠ lk i → ∀ θ, Sat θ st lk' → ∃ m, ∃ h : m < (sk st a).kids.length, (T θ st i).length ≤ (T θ st (sk st a).kids[m]).length

theorem UKs.step {st : List SK} {lk lk1 lk2 : Nat → Option Nat} {a b k : Nat} (h : UKs st lk a b k lk1) (hka : k < (sk st a).kids.length) (hkb : k < (sk st b).kids.length) (h2 : UOk st lk1 (sk st a).kids[k] (sk st b).kids[k] lk2) : UKs st lk a b (k + 1) lk2 := by
  refine ⟨h2.inv, fun i j hl => h2.ext i j (h.ext i j hl), ?_, ?_, ?_, ?_, ?_⟩
  · intro θ hθ
    rw [h2.sat θ hθ, h.sat θ hθ, and_assoc]
    refine and_congr_right fun _ => ?_
    constructor
    · rintro ⟨h3, h4⟩ m hm hm' hmk
      by_cases e : m = k
      · subst e; exact h4
      · exact h3 m hm hm' (by omega)
    · intro h3
      exact ⟨fun m hm hm' hmk => h3 m hm hm' (by omega), h3 k hka hkb (by omega)⟩
  · intro m hm hm' hmk
    by_cases e : m = k
    · subst e; exact h2.root
    · obtain ⟨r, h3, h4⟩ := h.root m hm hm' (by omega)
      exact h2.rts _ _ r h3 h4
  · intro hu D hD
    have h3 := unl_le (st := st) h2.ext
    have h4 := unl_le (st := st) h.ext
    exact h2.same (by omega) D (h.same (by omega) D hD)
  · intro i j r h3 h4
    obtain ⟨q, h5, h6⟩ := h.rts i j r h3 h4
    exact h2.rts i j q h5 h6
  · intro i hi θ hsat
    by_cases e : lk2 i = lk1 i
    · rw [e] at hi
      have hs1 : Sat θ st lk1 := fun x y hl => hsat x y (h2.ext x y hl)
      exact h.chg i hi θ hs1
    · exact ⟨k, hka, h2.chg i e θ hsat⟩

theorem T_kids_same {θ : Int → List Nd} (hθ : ∀ x, One (θ x)) {st : List SK} (hs : Sts st) {a b : Nat} (hka : (sk st a).kind ≠ 61) (hkb : (sk st b).kind ≠ 61) (hn : (sk st a).node = (sk st b).node) :
    T θ st a = T θ st b ↔ ∀ m (h : m < (sk st a).kids.length) (h' : m < (sk st b).kids.length), T θ st (sk st a).kids[m] = T θ st (sk st b).kids[m] := by
  rw [T_node θ hs hka, T_node θ hs hkb, hn]
  have hl := node_kids hn
  constructor
  · intro e
    have e1 := (List.append_inj' e rfl).1
    rw [List.flatMap_def, List.flatMap_def] at e1
    have e2 := ones_same (A := (sk st a).kids.map (T θ st)) (B := (sk st b).kids.map (T θ st)) (by
      intro x hx
      obtain ⟨k, _, rfl⟩ := List.mem_map.1 hx
      exact T_one hθ hs k) (by
      intro x hx
      obtain ⟨k, _, rfl⟩ := List.mem_map.1 hx
      exact T_one hθ hs k) e1
    intro m h h'
    have e3 : ((sk st a).kids.map (T θ st))[m]'(by simpa using h) = ((sk st b).kids.map (T θ st))[m]'(by simpa using h') := by simp only [e2]
    simpa using e3
  · intro h
    rw [flatMap_pair hl h]

theorem UNo.kid {st : List SK} (hs : Sts st) {lk lk1 : Nat → Option Nat} {a b k : Nat} (hka : (sk st a).kind ≠ 61) (hkb : (sk st b).kind ≠ 61) (hn : (sk st a).node = (sk st b).node) (h : UKs st lk a b k lk1) (h1 : k < (sk st a).kids.length) (h2 : k < (sk st b).kids.length) (h3 : UNo st lk1 (sk st a).kids[k] (sk st b).kids[k]) : UNo st lk a b := by
  intro θ hθ hsat e
  rw [T_kids_same hθ hs hka hkb hn] at e
  exact h3 θ hθ ((h.sat θ hθ).2 ⟨hsat, fun m hm hm' _ => e m hm hm'⟩) (e k h1 h2)

end Go.Proofs.YthioecjcnajmgaaGreatDoor

namespace Go.Proofs.YthioecjcnajmgaaGreatDoor

/-- An unknown as a type. -/
def metaN (x : Int) : Nd := ⟨61, x, ByteArray.empty, 0, 0⟩

theorem fill_inj_one {θ θ' : Int → List Nd} (hθ : ∀ x, One (θ x)) (hθ' : ∀ x, One (θ' x)) {t : List Nd} (hl : Leafy t) (h : One t) (e : fill θ t = fill θ' t) : ∀ x ∈ metas t, θ x = θ' x := by
  have hne := List.length_pos_iff.2 h.ne
  obtain ⟨s, ys, hA⟩ := h
  have hf := after_fine hA
  have hc := hf.chain.2.2.1 (by simp)
  simp only [List.getElem_cons_zero, List.length_cons, List.length_nil, Nat.zero_add, Nat.sub_self] at hc
  have hm := hf.mem 0 (by simp)
  simp only [List.getElem_cons_zero] at hm
  have hrt : s.rt = t.length - 1 := by omega
  rw [hrt] at hm
  have hsp : span t s.fr (t.length - 1) = t := by
    unfold span
    rw [hc.1, List.drop_zero, List.take_of_length_le (by omega)]
  have h9 := fill_inj hθ hθ' hl hA (t.length - 1) (by omega) s hm (by rw [hsp]; exact e)
  rw [hsp] at h9
  exact h9

theorem plain_meta {n : Nd} (h : n.plainb = true) (hk : n.kind = 61) : n = metaN n.num := by
  obtain ⟨a, b, c, d, e⟩ := n
  simp only at hk
  subst hk
  unfold Nd.plainb at h
  simp at h
  obtain ⟨h1, h2⟩ := h
  obtain ⟨⟨h3, _⟩, h4⟩ := h2
  simp only [metaN]
  subst h4
  subst h1
  subst h3
  rfl

theorem fill_id {t : List Nd} (h : t.all Nd.plainb = true) : fill (fun x => [metaN x]) t = t := by
  induction t with
  | nil => rfl
  | cons n t ih =>
    simp only [List.all_cons, Bool.and_eq_true] at h
    have e : fill (fun x => [metaN x]) (n :: t) = fillN (fun x => [metaN x]) n ++ fill (fun x => [metaN x]) t := by simp [fill]
    rw [e, ih h.2]
    unfold fillN
    by_cases hk : n.kind = 61
    · rw [if_pos hk]
      show [metaN n.num] ++ t = n :: t
      rw [← plain_meta h.1 hk]; rfl
    · rw [if_neg hk]; rfl

def Solves (θ : Int → List Nd) (ps : List (List Nd × List Nd)) : Prop := ∀ p ∈ ps, fill θ p.1 = fill θ p.2

/-- The solution that is as general as can be; of unknowns that are the same the lowest stands for all. -/
structure SolveOk (ps : List (List Nd × List Nd)) (σ : Int → List Nd) : Prop where
  one : ∀ x, One (σ x)
  plain : ∀ x, 1 ≤ x → (σ x).all Nd.plainb = true
  sol : Solves σ ps
  gen : ∀ θ, (∀ x, One (θ x)) → Solves θ ps → ∀ x, fill θ (σ x) = θ x
  low : ∀ x y, σ x = [metaN y] → y ≤ x

theorem metaN_one (x : Int) : One [metaN x] := leaf_one _ rfl

theorem metaN_inj {x y : Int} (h : [metaN x] = [metaN y]) : x = y := by
  simp only [List.cons.injEq, and_true, metaN, Nd.mk.injEq, true_and] at h
  exact h

theorem plain_num {n : Nd} (h : n.plainb = true) (hk : n.kind = 61) : 1 ≤ n.num := by
  unfold Nd.plainb at h
  simp only [Bool.and_eq_true, Bool.or_eq_true, beq_iff_eq, decide_eq_true_eq] at h
  obtain ⟨_, h2⟩ := h
  rcases h2 with (h2 | h2) | h2
  · exact h2.1.2
  · omega
  · omega

theorem metas_num {t : List Nd} (h : t.all Nd.plainb = true) {x : Int} (hx : x ∈ metas t) : 1 ≤ x := by
  obtain ⟨n, hn, rfl⟩ := List.mem_map.1 hx
  obtain ⟨h1, h2⟩ := List.mem_filter.1 hn
  exact plain_num (List.all_eq_true.1 h n h1) (by simpa using h2)

def Occ (ps : List (List Nd × List Nd)) (x : Int) : Prop := ∃ p ∈ ps, x ∈ metas p.1 ∨ x ∈ metas p.2

/-- Pairs that Solve looks at. -/
def Valid (ps : List (List Nd × List Nd)) : Prop := (ps.map fun p => p.1.length + p.2.length).sum ≤ 20000 ∧ ∀ p ∈ ps, typeb p.1 = true ∧ typeb p.2 = true

/-- What Solve answers. -/
inductive SolveRes (ps : List (List Nd × List Nd)) : Bool → Int → List (Int × List Nd) → Prop
  | bad : ¬ Valid ps → SolveRes ps false (-1) []
  | no (i : Nat) : Valid ps → i < ps.length → (∃ θ, (∀ x, One (θ x)) ∧ Solves θ (ps.take i)) → (∀ θ, (∀ x, One (θ x)) → ¬ Solves θ (ps.take (i + 1))) → SolveRes ps false i []
  | large (σ : Int → List Nd) (x : Int) : Valid ps → SolveOk ps σ → Occ ps x → 300 < (σ x).length → SolveRes ps false (-1) []
  | ok (σ : Int → List Nd) (bs : List (Int × List Nd)) : Valid ps → SolveOk ps σ → Up (nums bs) → (∀ x, x ∈ nums bs ↔ Occ ps x) → (∀ p ∈ bs, p.2 = σ p.1 ∧ p.2.length ≤ 300) → SolveRes ps true 0 bs

theorem typeb_plain {t : List Nd} (h : typeb t = true) : t.all Nd.plainb = true := by
  simp only [typeb, Bool.and_eq_true, decide_eq_true_eq] at h
  exact h.2

theorem occ_num {ps : List (List Nd × List Nd)} (hv : Valid ps) {x : Int} (h : Occ ps x) : 1 ≤ x := by
  obtain ⟨p, hp, h⟩ := h
  obtain ⟨h1, h2⟩ := hv.2 p hp
  rcases h with h | h
  · exact metas_num (typeb_plain h1) h
  · exact metas_num (typeb_plain h2) h

theorem Solves.take {θ : Int → List Nd} {ps : List (List Nd × List Nd)} (h : Solves θ ps) (i : Nat) : Solves θ (ps.take i) := fun p hp => h p (List.mem_of_mem_take hp)

theorem Solves.le {θ : Int → List Nd} {ps : List (List Nd × List Nd)} {i j : Nat} (h : Solves θ (ps.take j)) (hij : i ≤ j) : Solves θ (ps.take i) := by
  have := h.take i
  rw [List.take_take, Nat.min_eq_left hij] at this
  exact this

end Go.Proofs.YthioecjcnajmgaaGreatDoor
