import Derived.Test.YtahdmflbdmlfhaaGreatDoorWAA
import Derived.Test.YtahdmflbdmlfhaaGreatDoorWAM
namespace Go.Proofs.YtahdmflbdmlfhaaGreatDoor

/-- What is asked of things with smaller numbers can be answered for all. -/
theorem wf_val {α : Type} (d : α) (r : Nat → Nat) (G : Nat → (Nat → α) → α) (hG : ∀ i v v', (∀ j, r j < r i → v j = v' j) → G i v = G i v') : ∃ v : Nat → α, ∀ i, v i = G i v := by
  let val : Nat → Nat → α := fun f => Nat.rec (motive := fun _ => Nat → α) (fun _ => d) (fun _ p i => G i p) f
  have hs : ∀ f i, val (f + 1) i = G i (val f) := fun f i => rfl
  have key : ∀ n i, r i = n → ∀ f, r i < f → val f i = val (r i + 1) i := by
    intro n
    induction n using Nat.strongRecOn with
    | ind n ih =>
      intro i hi f hf
      cases f with
      | zero => omega
      | succ f =>
        rw [hs, hs]
        apply hG
        intro j hj
        rw [ih (r j) (by omega) j rfl f (by omega), ih (r j) (by omega) j rfl (r i) (by omega)]
  refine ⟨fun i => val (r i + 1) i, fun i => ?_⟩
  show val (r i + 1) i = _
  rw [hs]
  apply hG
  intro j hj
  exact key (r j) j rfl (r i) hj

/-- A type in a store, without links. -/
structure SK where
  kind : Int
  num : Int
  text : ByteArray
  kids : List Nat

def SK.none : SK := ⟨0, 0, ByteArray.empty, []⟩

def sk (st : List SK) (i : Nat) : SK := st[i]?.getD SK.none

def SK.node (x : SK) : Nd := ⟨x.kind, x.num, x.text, (x.kids.length : Int), 0⟩

/-- Kids stand ahead; unknowns have none. -/
structure Sts (st : List SK) : Prop where
  kids : ∀ i, ∀ k ∈ (sk st i).kids, k < i
  leaf : ∀ i, (sk st i).kind = 61 → (sk st i).kids = []
  one : ∀ i j, i < st.length → j < st.length → (sk st i).kind = 61 → (sk st j).kind = 61 → (sk st i).num = (sk st j).num → i = j
  plain : ∀ i, i < st.length → (sk st i).node.plainb = true
  few : ∀ i, (sk st i).kids.length ≤ 6000

theorem sk_out {st : List SK} {i : Nat} (h : st.length ≤ i) : sk st i = SK.none := by
  unfold sk
  rw [List.getElem?_eq_none h]
  rfl

/-- The tree of a node, unknowns filled. -/
def IsT (θ : Int → List Nd) (st : List SK) (v : Nat → List Nd) : Prop := ∀ i, v i = if (sk st i).kind = 61 then θ (sk st i).num else (sk st i).kids.flatMap v ++ [(sk st i).node]

theorem flatMap_congr {α β : Type} {l : List α} {f g : α → List β} (h : ∀ x ∈ l, f x = g x) : l.flatMap f = l.flatMap g := by
  induction l with
  | nil => rfl
  | cons a l ih => simp only [List.flatMap_cons]; rw [h a (by simp), ih (fun x hx => h x (by simp [hx]))]

theorem exists_T (θ : Int → List Nd) {st : List SK} (hk : ∀ i, ∀ k ∈ (sk st i).kids, k < i) : ∃ v, IsT θ st v := by
  refine wf_val [] id _ ?_
  intro i v v' h
  by_cases h61 : (sk st i).kind = 61
  · rw [if_pos h61, if_pos h61]
  · rw [if_neg h61, if_neg h61]
    rw [flatMap_congr (fun k hk2 => h k (hk i k hk2))]

def T (ep : ((Nat → List Nd) → Prop) → Nat → List Nd) (th : Int → List Nd) (st : List SK) : Nat → List Nd := ep (IsT th st)

theorem T_is (θ : Int → List Nd) {st : List SK} (hs : Sts st) : IsT θ st (T Classical.epsilon θ st) := by
  have h := exists_T θ hs.kids
  unfold T
  exact Classical.epsilon_spec h

theorem T_meta (θ : Int → List Nd) {st : List SK} (hs : Sts st) {i : Nat} (h : (sk st i).kind = 61) : T Classical.epsilon θ st i = θ (sk st i).num := by
  rw [T_is θ hs i, if_pos h]

theorem T_node (θ : Int → List Nd) {st : List SK} (hs : Sts st) {i : Nat} (h : (sk st i).kind ≠ 61) : T Classical.epsilon θ st i = (sk st i).kids.flatMap (T Classical.epsilon θ st) ++ [(sk st i).node] := by
  have := T_is θ hs i
  rw [if_neg h] at this
  exact this

theorem T_one {θ : Int → List Nd} (hθ : ∀ x, One (θ x)) {st : List SK} (hs : Sts st) : ∀ i, One (T Classical.epsilon θ st i) := by
  intro i
  induction i using Nat.strongRecOn with
  | ind i ih =>
    by_cases h : (sk st i).kind = 61
    · rw [T_meta θ hs h]; exact hθ _
    · rw [T_node θ hs h, List.flatMap_def]
      refine One.join ?_ ?_
      · intro x hx
        obtain ⟨k, hk, rfl⟩ := List.mem_map.1 hx
        exact ih k (hs.kids i k hk)
      · simp [SK.node]

/-- A filling for which links say what is so. -/
def Sat (θ : Int → List Nd) (st : List SK) (lk : Nat → Option Nat) : Prop := ∀ i j, lk i = some j → T Classical.epsilon θ st i = T Classical.epsilon θ st j

/-- Where the links from a node end. -/
def RtF (lk : Nat → Option Nat) (R : Nat × Nat → Prop) (x : Nat × Nat) : Prop :=
  (∃ (i : Nat), x = (i, i) ∧ (lk i = none)) ∨
  (∃ (i j r : Nat), x = (i, r) ∧ (lk i = some j) ∧ (R (j, r)))

structure Rt (lk : Nat → Option Nat) (i : Nat) (r : Nat) : Prop where
  of ::
  lfp : Lfp (RtF lk) (i, r)

theorem Rt.grows (lk : Nat → Option Nat) : Grows (RtF lk) := by
  rintro R R' x h0 (⟨i, e0, h⟩ | ⟨i, j, r, e0, h, k⟩)
  · exact .inl ⟨i, e0, h⟩
  · exact .inr (⟨i, j, r, e0, h, h0 _ k⟩)

theorem Rt.root {lk : Nat → Option Nat} {i : Nat} (h : lk i = none) : Rt lk i i :=
  ⟨Lfp.fold (Rt.grows lk) (.inl ⟨i, rfl, h⟩)⟩

theorem Rt.step {lk : Nat → Option Nat} {i j r : Nat} (h : lk i = some j) (k : Rt lk j r) : Rt lk i r :=
  ⟨Lfp.fold (Rt.grows lk) (.inr (⟨i, j, r, rfl, h, k.lfp⟩))⟩

theorem Rt.elim {lk : Nat → Option Nat} {motive : ∀ i r, Rt lk i r → Prop}
    (root : ∀ {i : Nat} (h : lk i = none), motive i i (Rt.root (i := i) h))
    (step : ∀ {i j r : Nat} (h : lk i = some j) (k : Rt lk j r), motive j r (k) → motive i r (Rt.step (i := i) (j := j) (r := r) h k))
    {i : Nat} {r : Nat} (h : Rt lk i r) : motive i r h := by
  have key : ∀ h, motive (i, r).1 (i, r).2 h := Lfp.ind (Rt.grows lk) (p := fun x => ∀ h, motive x.1 x.2 h) (by
    rintro x (⟨i, e0, h⟩ | ⟨i, j, r, e0, h, k⟩) h9
    · subst e0; exact root (i := i) h
    · subst e0; exact step (i := i) (j := j) (r := r) h ⟨k.1⟩ (k.2 _)) h.lfp
  exact key h

theorem Rt.inv {lk : Nat → Option Nat} {motive : ∀ i r, Rt lk i r → Prop}
    (root : ∀ {i : Nat} (h : lk i = none), motive i i (Rt.root (i := i) h))
    (step : ∀ {i j r : Nat} (h : lk i = some j) (k : Rt lk j r), motive i r (Rt.step (i := i) (j := j) (r := r) h k))
    {i : Nat} {r : Nat} (h : Rt lk i r) : motive i r h := by
  induction h using Rt.elim with
  | root h => exact root h
  | step h k _ => exact step h k

theorem Rt.is_root {lk : Nat → Option Nat} {i r : Nat} (h : Rt lk i r) : lk r = none := by
  induction h using Rt.elim with
  | root h => exact h
  | step _ _ ih => exact ih

theorem Rt.fun {lk : Nat → Option Nat} {i r r' : Nat} (h : Rt lk i r) (h' : Rt lk i r') : r = r' := by
  induction h using Rt.elim with
  | root h =>
    cases h' using Rt.inv with
    | root _ => rfl
    | step h2 _ => rw [h] at h2; cases h2
  | step h1 _ ih =>
    cases h' using Rt.inv with
    | root h2 => rw [h2] at h1; cases h1
    | step h2 h3 =>
      rw [h1] at h2
      cases h2
      exact ih h3

theorem Rt.sat {θ : Int → List Nd} {st : List SK} {lk : Nat → Option Nat} {i r : Nat} (h : Rt lk i r) (hs : Sat θ st lk) : T Classical.epsilon θ st i = T Classical.epsilon θ st r := by
  induction h using Rt.elim with
  | root _ => rfl
  | step h1 _ ih => rw [hs _ _ h1, ih]

/-- Links and kids go down. -/
structure Ranked (st : List SK) (lk : Nat → Option Nat) (r : Nat → Nat) : Prop where
  link : ∀ i j, lk i = some j → r j < r i
  kid : ∀ i, lk i = none → ∀ k ∈ (sk st i).kids, r k < r i

theorem Ranked.rt {st : List SK} {lk : Nat → Option Nat} {r : Nat → Nat} (h : Ranked st lk r) : ∀ i, ∃ q, Rt lk i q := by
  intro i
  induction hn : r i using Nat.strongRecOn generalizing i with
  | ind n ih =>
    cases hl : lk i with
    | none => exact ⟨i, .root hl⟩
    | some j =>
      obtain ⟨q, hq⟩ := ih (r j) (by have := h.link i j hl; omega) j rfl
      exact ⟨q, .step hl hq⟩

/-- The type that a store says of a node. -/
def IsD (st : List SK) (lk : Nat → Option Nat) (D : Nat → List Nd) : Prop := ∀ i, D i = match lk i with
  | some j => D j
  | none => (sk st i).kids.flatMap D ++ [(sk st i).node]

theorem Ranked.exists_D {st : List SK} {lk : Nat → Option Nat} {r : Nat → Nat} (h : Ranked st lk r) : ∃ D, IsD st lk D := by
  refine wf_val [] r (fun i D => match lk i with
    | some j => D j
    | none => (sk st i).kids.flatMap D ++ [(sk st i).node]) ?_
  intro i v v' hv
  cases hl : lk i with
  | some j => exact hv j (h.link i j hl)
  | none =>
    simp only
    rw [flatMap_congr (fun k hk => hv k (h.kid i hl k hk))]

theorem IsD.link {st : List SK} {lk : Nat → Option Nat} {D : Nat → List Nd} (h : IsD st lk D) {i j : Nat} (hl : lk i = some j) : D i = D j := by
  have := h i
  rw [hl] at this
  exact this

theorem IsD.node {st : List SK} {lk : Nat → Option Nat} {D : Nat → List Nd} (h : IsD st lk D) {i : Nat} (hl : lk i = none) : D i = (sk st i).kids.flatMap D ++ [(sk st i).node] := by
  have := h i
  rw [hl] at this
  exact this

theorem IsD.rt {st : List SK} {lk : Nat → Option Nat} {D : Nat → List Nd} (h : IsD st lk D) {i r : Nat} (hr : Rt lk i r) : D i = D r := by
  induction hr using Rt.elim with
  | root _ => rfl
  | step h1 _ ih => rw [h.link h1, ih]

theorem fill_node_meta (θ : Int → List Nd) (x : SK) (h : x.kind = 61) : fill θ [x.node] = θ x.num := by simp [fill, fillN, SK.node, h]

theorem fill_node (θ : Int → List Nd) (x : SK) (h : x.kind ≠ 61) : fill θ [x.node] = [x.node] := by simp [fill, fillN, SK.node, h]

theorem fill_flatMap (θ : Int → List Nd) (l : List Nat) (v : Nat → List Nd) : fill θ (l.flatMap v) = l.flatMap (fun k => fill θ (v k)) := by
  induction l with
  | nil => rfl
  | cons a l ih => simp only [List.flatMap_cons]; rw [fill_append, ih]

/-- Whatever fits the links comes of what the store says. -/
theorem D_general {θ : Int → List Nd} {st : List SK} (hs : Sts st) {lk : Nat → Option Nat} {r : Nat → Nat} (hr : Ranked st lk r) {D : Nat → List Nd} (hD : IsD st lk D) (hsat : Sat θ st lk) : ∀ i, T Classical.epsilon θ st i = fill θ (D i) := by
  intro i
  induction hn : r i using Nat.strongRecOn generalizing i with
  | ind n ih =>
    cases hl : lk i with
    | some j => rw [hsat i j hl, hD.link hl]; exact ih (r j) (by have := hr.link i j hl; omega) j rfl
    | none =>
      rw [hD.node hl, fill_append, fill_flatMap]
      by_cases h : (sk st i).kind = 61
      · rw [T_meta θ hs h, hs.leaf i h, fill_node_meta θ _ h]; rfl
      · rw [T_node θ hs h, fill_node θ _ h]
        rw [flatMap_congr (fun k hk => ih (r k) (by have := hr.kid i hl k hk; omega) k rfl)]

/-- All that is held of a store's links. -/
structure Inv (st : List SK) (lk : Nat → Option Nat) : Prop where
  rank : ∃ r, Ranked st lk r
  rng : ∀ i j, lk i = some j → i < st.length ∧ j < st.length
  cong : ∀ i j, lk i = some j → (sk st i).kind ≠ 61 → (sk st j).kind ≠ 61 ∧ (sk st i).node = (sk st j).node ∧ ∀ k (h : k < (sk st i).kids.length) (h' : k < (sk st j).kids.length), ∃ r, Rt lk (sk st i).kids[k] r ∧ Rt lk (sk st j).kids[k] r
  low : ∀ i j, lk i = some j → (sk st i).kind = 61 → (sk st j).kind = 61 → (sk st j).num < (sk st i).num

theorem node_kids {x y : SK} (h : x.node = y.node) : x.kids.length = y.kids.length := by
  have := congrArg Nd.kids h
  simp only [SK.node] at this
  omega

theorem flatMap_pair {l l' : List Nat} {v : Nat → List Nd} (hl : l.length = l'.length) (h : ∀ k (h : k < l.length) (h' : k < l'.length), v l[k] = v l'[k]) : l.flatMap v = l'.flatMap v := by
  rw [List.flatMap_def, List.flatMap_def]
  congr 1
  apply List.ext_getElem
  · simpa using hl
  · intro i h1 h2
    simp only [List.getElem_map]
    exact h i (by simpa using h1) (by simpa using h2)

/-- A node's type is made of its kids' types, whether it is linked or not. -/
theorem Inv.cong_D {st : List SK} {lk : Nat → Option Nat} (hI : Inv st lk) {D : Nat → List Nd} (hD : IsD st lk D) : ∀ i, (sk st i).kind ≠ 61 → D i = (sk st i).kids.flatMap D ++ [(sk st i).node] := by
  obtain ⟨r, hr⟩ := hI.rank
  intro i
  induction hn : r i using Nat.strongRecOn generalizing i with
  | ind n ih =>
    intro hk
    cases hl : lk i with
    | none => exact hD.node hl
    | some j =>
      obtain ⟨h1, h2, h3⟩ := hI.cong i j hl hk
      rw [hD.link hl, ih (r j) (by have := hr.link i j hl; omega) j rfl h1, h2]
      congr 1
      refine (flatMap_pair (node_kids h2) ?_).symm
      intro k hk1 hk2
      obtain ⟨q, h4, h5⟩ := h3 k hk1 hk2
      rw [hD.rt h4, hD.rt h5]

/-- The filling that a store says. -/
def fillD (dec : ∀ p : Prop, Decidable p) (ep : (Nat → Prop) → Nat) (st : List SK) (D : Nat → List Nd) (x : Int) : List Nd :=
  @ite _ (∃ i, i < st.length ∧ (sk st i).kind = 61 ∧ (sk st i).num = x) (dec _) (D (ep fun i => i < st.length ∧ (sk st i).kind = 61 ∧ (sk st i).num = x)) [⟨61, x, ByteArray.empty, 0, 0⟩]

theorem fillD_at {st : List SK} (hs : Sts st) (D : Nat → List Nd) {i : Nat} (hi : i < st.length) (h : (sk st i).kind = 61) : fillD Classical.propDecidable Classical.epsilon st D (sk st i).num = D i := by
  have hx : ∃ j, j < st.length ∧ (sk st j).kind = 61 ∧ (sk st j).num = (sk st i).num := ⟨i, hi, h, rfl⟩
  unfold fillD
  rw [if_pos hx]
  obtain ⟨h1, h2, h3⟩ := Classical.epsilon_spec hx
  rw [hs.one _ i h1 hi h2 h h3]

theorem sk_meta_lt {st : List SK} {i : Nat} (h : (sk st i).kind = 61) : i < st.length := by
  rcases Nat.lt_or_ge i st.length with h1 | h1
  · exact h1
  · rw [sk_out h1] at h
    cases h

/-- What the store says is so. -/
theorem D_model {st : List SK} (hs : Sts st) {lk : Nat → Option Nat} (hI : Inv st lk) {D : Nat → List Nd} (hD : IsD st lk D) : ∀ i, T Classical.epsilon (fillD Classical.propDecidable Classical.epsilon st D) st i = D i := by
  intro i
  induction i using Nat.strongRecOn with
  | ind i ih =>
    by_cases h : (sk st i).kind = 61
    · rw [T_meta _ hs h, fillD_at hs D (sk_meta_lt h) h]
    · rw [T_node _ hs h, hI.cong_D hD i h]
      rw [flatMap_congr (fun k hk => ih k (hs.kids i k hk))]

theorem D_sat {st : List SK} (hs : Sts st) {lk : Nat → Option Nat} (hI : Inv st lk) {D : Nat → List Nd} (hD : IsD st lk D) : Sat (fillD Classical.propDecidable Classical.epsilon st D) st lk := by
  intro i j hl
  rw [D_model hs hI hD, D_model hs hI hD, hD.link hl]

theorem D_one {st : List SK} {lk : Nat → Option Nat} {r : Nat → Nat} (hr : Ranked st lk r) {D : Nat → List Nd} (hD : IsD st lk D) : ∀ i, One (D i) := by
  intro i
  induction hn : r i using Nat.strongRecOn generalizing i with
  | ind n ih =>
    cases hl : lk i with
    | some j => rw [hD.link hl]; exact ih (r j) (by have := hr.link i j hl; omega) j rfl
    | none =>
      rw [hD.node hl, List.flatMap_def]
      refine One.join ?_ (by simp [SK.node])
      intro x hx
      obtain ⟨k, hk, rfl⟩ := List.mem_map.1 hx
      exact ih (r k) (by have := hr.kid i hl k hk; omega) k rfl

theorem leaf_one (n : Nd) (h : n.kids = 0) : One [n] := One.join (A := []) (by simp) (by simp [h])

theorem fillD_one {st : List SK} {lk : Nat → Option Nat} {r : Nat → Nat} (hr : Ranked st lk r) {D : Nat → List Nd} (hD : IsD st lk D) (x : Int) : One (fillD Classical.propDecidable Classical.epsilon st D x) := by
  unfold fillD
  split
  · exact D_one hr hD _
  · exact leaf_one _ rfl

end Go.Proofs.YtahdmflbdmlfhaaGreatDoor
