import Derived.Test.YthioecjcnajmgaaGreatDoorWAA
import Derived.Test.YthioecjcnajmgaaGreatDoorWAR
import Derived.Test.YthioecjcnajmgaaGreatDoorWAM
namespace Go.Proofs.YthioecjcnajmgaaGreatDoor

/-- A way down from a node to another. -/
def RchF (st : List SK) (lk : Nat → Option Nat) (R : Nat × Nat → Prop) (x : Nat × Nat) : Prop :=
  (∃ (i : Nat), x = (i, i)) ∨
  (∃ (i j z : Nat), x = (i, z) ∧ (lk i = some j) ∧ (R (j, z))) ∨
  (∃ (i k z : Nat), x = (i, z) ∧ (lk i = none) ∧ (k ∈ (sk st i).kids) ∧ (R (k, z)))

structure Rch (st : List SK) (lk : Nat → Option Nat) (i : Nat) (z : Nat) : Prop where
  of ::
  lfp : Lfp (RchF st lk) (i, z)

theorem Rch.grows (st : List SK) (lk : Nat → Option Nat) : Grows (RchF st lk) := by
  rintro R R' x h0 (⟨i, e0⟩ | ⟨i, j, z, e0, h, k⟩ | ⟨i, k, z, e0, h, hk, hr⟩)
  · exact .inl ⟨i, e0⟩
  · exact .inr (.inl ⟨i, j, z, e0, h, h0 _ k⟩)
  · exact .inr (.inr (⟨i, k, z, e0, h, hk, h0 _ hr⟩))

theorem Rch.refl {st : List SK} {lk : Nat → Option Nat} (i : Nat) : Rch st lk i i :=
  ⟨Lfp.fold (Rch.grows st lk) (.inl ⟨i, rfl⟩)⟩

theorem Rch.link {st : List SK} {lk : Nat → Option Nat} {i j z : Nat} (h : lk i = some j) (k : Rch st lk j z) : Rch st lk i z :=
  ⟨Lfp.fold (Rch.grows st lk) (.inr (.inl ⟨i, j, z, rfl, h, k.lfp⟩))⟩

theorem Rch.kid {st : List SK} {lk : Nat → Option Nat} {i k z : Nat} (h : lk i = none) (hk : k ∈ (sk st i).kids) (hr : Rch st lk k z) : Rch st lk i z :=
  ⟨Lfp.fold (Rch.grows st lk) (.inr (.inr (⟨i, k, z, rfl, h, hk, hr.lfp⟩)))⟩

theorem Rch.elim {st : List SK} {lk : Nat → Option Nat} {motive : ∀ i z, Rch st lk i z → Prop}
    (refl : ∀ (i : Nat), motive i i (Rch.refl i))
    (link : ∀ {i j z : Nat} (h : lk i = some j) (k : Rch st lk j z), motive j z (k) → motive i z (Rch.link (i := i) (j := j) (z := z) h k))
    (kid : ∀ {i k z : Nat} (h : lk i = none) (hk : k ∈ (sk st i).kids) (hr : Rch st lk k z), motive k z (hr) → motive i z (Rch.kid (i := i) (k := k) (z := z) h hk hr))
    {i : Nat} {z : Nat} (h : Rch st lk i z) : motive i z h := by
  have key : ∀ h, motive (i, z).1 (i, z).2 h := Lfp.ind (Rch.grows st lk) (p := fun x => ∀ h, motive x.1 x.2 h) (by
    rintro x (⟨i, e0⟩ | ⟨i, j, z, e0, h, k⟩ | ⟨i, k, z, e0, h, hk, hr⟩) h9
    · subst e0; exact refl i
    · subst e0; exact link (i := i) (j := j) (z := z) h ⟨k.1⟩ (k.2 _)
    · subst e0; exact kid (i := i) (k := k) (z := z) h hk ⟨hr.1⟩ (hr.2 _)) h.lfp
  exact key h

theorem Rch.inv {st : List SK} {lk : Nat → Option Nat} {motive : ∀ i z, Rch st lk i z → Prop}
    (refl : ∀ (i : Nat), motive i i (Rch.refl i))
    (link : ∀ {i j z : Nat} (h : lk i = some j) (k : Rch st lk j z), motive i z (Rch.link (i := i) (j := j) (z := z) h k))
    (kid : ∀ {i k z : Nat} (h : lk i = none) (hk : k ∈ (sk st i).kids) (hr : Rch st lk k z), motive i z (Rch.kid (i := i) (k := k) (z := z) h hk hr))
    {i : Nat} {z : Nat} (h : Rch st lk i z) : motive i z h := by
  induction h using Rch.elim with
  | refl i => exact refl i
  | link h k _ => exact link h k
  | kid h hk hr _ => exact kid h hk hr

theorem Rch.trans {st : List SK} {lk : Nat → Option Nat} {i j z : Nat} (h : Rch st lk i j) (h' : Rch st lk j z) : Rch st lk i z := by
  induction h using Rch.elim with
  | refl _ => exact h'
  | link h1 _ ih => exact .link h1 (ih h')
  | kid h1 h2 _ ih => exact .kid h1 h2 (ih h')

/-- One link more. -/
def upd (lk : Nat → Option Nat) (a b : Nat) : Nat → Option Nat := fun i => if i = a then some b else lk i

theorem upd_same (lk : Nat → Option Nat) (a b : Nat) : upd lk a b a = some b := by simp [upd]

theorem upd_other {lk : Nat → Option Nat} {a b i : Nat} (h : i ≠ a) : upd lk a b i = lk i := by simp [upd, h]

open Classical in
theorem Ranked.upd {st : List SK} {lk : Nat → Option Nat} {r : Nat → Nat} (hr : Ranked st lk r) {a b : Nat} (hn : ¬ Rch st lk b a) : ∃ r', Ranked st (upd lk a b) r' := by
  refine ⟨fun i => r i + if Rch st lk i a then r b + 1 else 0, ?_, ?_⟩
  · intro i j h
    by_cases e : i = a
    · subst e
      rw [upd_same] at h
      cases h
      rw [if_neg hn, if_pos (Rch.refl i)]
      omega
    · rw [upd_other e] at h
      have h1 := hr.link i j h
      by_cases hj : Rch st lk j a
      · rw [if_pos hj, if_pos (Rch.link h hj)]; omega
      · rw [if_neg hj]; omega
  · intro i h k hk
    by_cases e : i = a
    · subst e
      rw [upd_same] at h
      cases h
    · rw [upd_other e] at h
      have h1 := hr.kid i h k hk
      by_cases hj : Rch st lk k a
      · rw [if_pos hj, if_pos (Rch.kid h hk hj)]; omega
      · rw [if_neg hj]; omega

theorem Rt.upd {lk : Nat → Option Nat} {a b i r : Nat} (hb : lk b = none) (hab : a ≠ b) (ha : lk a = none) (h : Rt lk i r) : Rt (upd lk a b) i (if r = a then b else r) := by
  induction h using Rt.elim with
  | root h1 =>
    rename_i i
    by_cases e : i = a
    · rw [if_pos e, e]
      exact .step (upd_same lk a b) (.root (by rw [upd_other (Ne.symm hab)]; exact hb))
    · rw [if_neg e]
      exact .root (by rw [upd_other e]; exact h1)
  | @step i j r h1 _ ih =>
    have e : i ≠ a := by intro e; rw [e, ha] at h1; cases h1
    exact .step (by rw [upd_other e]; exact h1) ih

theorem Sat.upd {θ : Int → List Nd} {st : List SK} {lk : Nat → Option Nat} {a b : Nat} (ha : lk a = none) : Sat θ st (upd lk a b) ↔ Sat θ st lk ∧ T Classical.epsilon θ st a = T Classical.epsilon θ st b := by
  constructor
  · intro h
    refine ⟨?_, h a b (upd_same lk a b)⟩
    intro i j hl
    have e : i ≠ a := by intro e; rw [e, ha] at hl; cases hl
    exact h i j (by rw [upd_other e]; exact hl)
  · rintro ⟨h1, h2⟩ i j hl
    by_cases e : i = a
    · subst e
      rw [upd_same] at hl
      cases hl
      exact h2
    · rw [upd_other e] at hl
      exact h1 i j hl

/-- Links are added alone. -/
def Ext2 (lk lk' : Nat → Option Nat) : Prop := ∀ i j, lk i = some j → lk' i = some j

theorem Ext2.upd {lk : Nat → Option Nat} {a b : Nat} (ha : lk a = none) : Ext2 lk (upd lk a b) := by
  intro i j h
  have e : i ≠ a := by intro e; rw [e, ha] at h; cases h
  rw [upd_other e]; exact h

theorem Ext2.rt {lk lk' : Nat → Option Nat} (h : Ext2 lk lk') {i r q : Nat} (h1 : Rt lk i r) (h2 : Rt lk' r q) : Rt lk' i q := by
  induction h1 using Rt.elim with
  | root _ => exact h2
  | step h3 _ ih => exact .step (h _ _ h3) (ih h2)

/-- How many unknowns are not linked. -/
def unl (st : List SK) (lk : Nat → Option Nat) : Nat := ((List.range st.length).filter (fun i => (sk st i).kind == 61 && (lk i).isNone)).length

theorem filter_le {α : Type} {l : List α} {p q : α → Bool} (h : ∀ x ∈ l, p x = true → q x = true) : (l.filter p).length ≤ (l.filter q).length := by
  induction l with
  | nil => simp
  | cons a l ih =>
    have h1 := ih (fun x hx => h x (by simp [hx]))
    have h2 := h a (by simp)
    simp only [List.filter_cons]
    cases hp : p a
    · cases q a <;> simp <;> omega
    · rw [h2 hp]; simp; omega

theorem unl_le {st : List SK} {lk lk' : Nat → Option Nat} (h : Ext2 lk lk') : unl st lk' ≤ unl st lk := by
  refine filter_le ?_
  intro i _ hi
  simp only [Bool.and_eq_true, beq_iff_eq, Option.isNone_iff_eq_none] at hi ⊢
  refine ⟨hi.1, ?_⟩
  cases hl : lk i with
  | none => rfl
  | some j => have := h i j hl; rw [hi.2] at this; cases this

/-- What a unification that goes through leaves. -/
structure UOk (st : List SK) (lk : Nat → Option Nat) (a b : Nat) (lk' : Nat → Option Nat) : Prop where
  inv : Inv st lk'
  ext : Ext2 lk lk'
  sat : ∀ θ, (∀ x, One (θ x)) → (Sat θ st lk' ↔ Sat θ st lk ∧ T Classical.epsilon θ st a = T Classical.epsilon θ st b)
  root : ∃ r, Rt lk' a r ∧ Rt lk' b r
  same : unl st lk' = unl st lk → ∀ D, IsD st lk D → IsD st lk' D
  rts : ∀ i j r, Rt lk i r → Rt lk j r → ∃ q, Rt lk' i q ∧ Rt lk' j q
  chg : ∀ i, lk' i ≠ lk i → ∀ θ, Sat θ st lk' → (T Classical.epsilon θ st i).length ≤ (T Classical.epsilon θ st a).length

def UNo (st : List SK) (lk : Nat → Option Nat) (a b : Nat) : Prop := ∀ θ, (∀ x, One (θ x)) → Sat θ st lk → T Classical.epsilon θ st a ≠ T Classical.epsilon θ st b

/-- From the ends of the links to the nodes themselves. -/
theorem UOk.up {st : List SK} {lk lk' : Nat → Option Nat} {a b ra rb : Nat} (h : UOk st lk ra rb lk') (ha : Rt lk a ra) (hb : Rt lk b rb) : UOk st lk a b lk' := by
  refine ⟨h.inv, h.ext, ?_, ?_, h.same, h.rts, ?_⟩
  · intro θ hθ
    rw [h.sat θ hθ]
    refine and_congr_right fun hs => ?_
    rw [ha.sat hs, hb.sat hs]
  · obtain ⟨r, h1, h2⟩ := h.root
    exact ⟨r, h.ext.rt ha h1, h.ext.rt hb h2⟩
  · intro i hi θ hs
    obtain ⟨r, h1, _⟩ := h.root
    have e : T Classical.epsilon θ st a = T Classical.epsilon θ st ra := by rw [(h.ext.rt ha h1).sat hs, h1.sat hs]
    rw [e]
    exact h.chg i hi θ hs

theorem UNo.up {st : List SK} {lk : Nat → Option Nat} {a b ra rb : Nat} (h : UNo st lk ra rb) (ha : Rt lk a ra) (hb : Rt lk b rb) : UNo st lk a b := by
  intro θ hθ hs e
  rw [ha.sat hs, hb.sat hs] at e
  exact h θ hθ hs e

/-- Kids up to k have been made one. -/
structure UKs (st : List SK) (lk : Nat → Option Nat) (a b k : Nat) (lk' : Nat → Option Nat) : Prop where
  inv : Inv st lk'
  ext : Ext2 lk lk'
  sat : ∀ θ, (∀ x, One (θ x)) → (Sat θ st lk' ↔ Sat θ st lk ∧ ∀ m (h : m < (sk st a).kids.length) (h' : m < (sk st b).kids.length), m < k → T Classical.epsilon θ st (sk st a).kids[m] = T Classical.epsilon θ st (sk st b).kids[m])
  root : ∀ m (h : m < (sk st a).kids.length) (h' : m < (sk st b).kids.length), m < k → ∃ r, Rt lk' (sk st a).kids[m] r ∧ Rt lk' (sk st b).kids[m] r
  same : unl st lk' = unl st lk → ∀ D, IsD st lk D → IsD st lk' D
  rts : ∀ i j r, Rt lk i r → Rt lk j r → ∃ q, Rt lk' i q ∧ Rt lk' j q
  chg : ∀ i, lk' i ≠ lk i → ∀ θ, Sat θ st lk' → ∃ m, ∃ h : m < (sk st a).kids.length, (T Classical.epsilon θ st i).length ≤ (T Classical.epsilon θ st (sk st a).kids[m]).length

theorem UKs.step {st : List SK} {lk lk1 lk2 : Nat → Option Nat} {a b k : Nat} (h : UKs st lk a b k lk1) (hka : k < (sk st a).kids.length) (hkb : k < (sk st b).kids.length) (h2 : UOk st lk1 (sk st a).kids[k] (sk st b).kids[k] lk2) : UKs st lk a b (k + 1) lk2 := by
  refine ⟨h2.inv, fun i j hl => h2.ext i j (h.ext i j hl), ?_, ?_, ?_, ?_, ?_⟩
  · intro θ hθ
    rw [h2.sat θ hθ, h.sat θ hθ, and_assoc]
    refine and_congr_right fun _ => ?_
    constructor
    · rintro ⟨h3, h4⟩ m hm hm' hmk
      by_cases e : m = k
      · subst e; exact h4
      · exact h3 m hm hm' (by omega)
    · intro h3
      exact ⟨fun m hm hm' hmk => h3 m hm hm' (by omega), h3 k hka hkb (by omega)⟩
  · intro m hm hm' hmk
    by_cases e : m = k
    · subst e; exact h2.root
    · obtain ⟨r, h3, h4⟩ := h.root m hm hm' (by omega)
      exact h2.rts _ _ r h3 h4
  · intro hu D hD
    have h3 := unl_le (st := st) h2.ext
    have h4 := unl_le (st := st) h.ext
    exact h2.same (by omega) D (h.same (by omega) D hD)
  · intro i j r h3 h4
    obtain ⟨q, h5, h6⟩ := h.rts i j r h3 h4
    exact h2.rts i j q h5 h6
  · intro i hi θ hsat
    by_cases e : lk2 i = lk1 i
    · rw [e] at hi
      have hs1 : Sat θ st lk1 := fun x y hl => hsat x y (h2.ext x y hl)
      exact h.chg i hi θ hs1
    · exact ⟨k, hka, h2.chg i e θ hsat⟩

theorem T_kids_same {θ : Int → List Nd} (hθ : ∀ x, One (θ x)) {st : List SK} (hs : Sts st) {a b : Nat} (hka : (sk st a).kind ≠ 61) (hkb : (sk st b).kind ≠ 61) (hn : (sk st a).node = (sk st b).node) :
    T Classical.epsilon θ st a = T Classical.epsilon θ st b ↔ ∀ m (h : m < (sk st a).kids.length) (h' : m < (sk st b).kids.length), T Classical.epsilon θ st (sk st a).kids[m] = T Classical.epsilon θ st (sk st b).kids[m] := by
  rw [T_node θ hs hka, T_node θ hs hkb, hn]
  have hl := node_kids hn
  constructor
  · intro e
    have e1 := (List.append_inj' e rfl).1
    rw [List.flatMap_def, List.flatMap_def] at e1
    have e2 := ones_same (A := (sk st a).kids.map (T Classical.epsilon θ st)) (B := (sk st b).kids.map (T Classical.epsilon θ st)) (by
      intro x hx
      obtain ⟨k, _, rfl⟩ := List.mem_map.1 hx
      exact T_one hθ hs k) (by
      intro x hx
      obtain ⟨k, _, rfl⟩ := List.mem_map.1 hx
      exact T_one hθ hs k) e1
    intro m h h'
    have e3 : ((sk st a).kids.map (T Classical.epsilon θ st))[m]'(by simpa using h) = ((sk st b).kids.map (T Classical.epsilon θ st))[m]'(by simpa using h') := by simp only [e2]
    simpa using e3
  · intro h
    rw [flatMap_pair hl h]

theorem UNo.kid {st : List SK} (hs : Sts st) {lk lk1 : Nat → Option Nat} {a b k : Nat} (hka : (sk st a).kind ≠ 61) (hkb : (sk st b).kind ≠ 61) (hn : (sk st a).node = (sk st b).node) (h : UKs st lk a b k lk1) (h1 : k < (sk st a).kids.length) (h2 : k < (sk st b).kids.length) (h3 : UNo st lk1 (sk st a).kids[k] (sk st b).kids[k]) : UNo st lk a b := by
  intro θ hθ hsat e
  rw [T_kids_same hθ hs hka hkb hn] at e
  exact h3 θ hθ ((h.sat θ hθ).2 ⟨hsat, fun m hm hm' _ => e m hm hm'⟩) (e k h1 h2)

/-- An unknown as a type. -/
def metaN (x : Int) : Nd := ⟨61, x, ByteArray.empty, 0, 0⟩

theorem fill_inj_one {θ θ' : Int → List Nd} (hθ : ∀ x, One (θ x)) (hθ' : ∀ x, One (θ' x)) {t : List Nd} (hl : Leafy t) (h : One t) (e : fill θ t = fill θ' t) : ∀ x ∈ metas t, θ x = θ' x := by
  have hne := List.length_pos_iff.2 h.ne
  obtain ⟨s, ys, hA⟩ := h
  have hf := after_fine hA
  have hc := hf.chain.2.2.1 (by simp)
  simp only [List.getElem_cons_zero, List.length_cons, List.length_nil, Nat.zero_add, Nat.sub_self] at hc
  have hm := hf.mem 0 (by simp)
  simp only [List.getElem_cons_zero] at hm
  have hrt : s.rt = t.length - 1 := by omega
  rw [hrt] at hm
  have hsp : span t s.fr (t.length - 1) = t := by
    unfold span
    rw [hc.1, List.drop_zero, List.take_of_length_le (by omega)]
  have h9 := fill_inj hθ hθ' hl hA (t.length - 1) (by omega) s hm (by rw [hsp]; exact e)
  rw [hsp] at h9
  exact h9

theorem plain_meta {n : Nd} (h : n.plainb = true) (hk : n.kind = 61) : n = metaN n.num := by
  obtain ⟨a, b, c, d, e⟩ := n
  simp only at hk
  subst hk
  unfold Nd.plainb at h
  simp at h
  obtain ⟨h1, h2⟩ := h
  obtain ⟨⟨h3, _⟩, h4⟩ := h2
  simp only [metaN]
  subst h4
  subst h1
  subst h3
  rfl

theorem fill_id {t : List Nd} (h : t.all Nd.plainb = true) : fill (fun x => [metaN x]) t = t := by
  induction t with
  | nil => rfl
  | cons n t ih =>
    simp only [List.all_cons, Bool.and_eq_true] at h
    have e : fill (fun x => [metaN x]) (n :: t) = fillN (fun x => [metaN x]) n ++ fill (fun x => [metaN x]) t := by simp [fill]
    rw [e, ih h.2]
    unfold fillN
    by_cases hk : n.kind = 61
    · rw [if_pos hk]
      show [metaN n.num] ++ t = n :: t
      rw [← plain_meta h.1 hk]; rfl
    · rw [if_neg hk]; rfl

def Solves (θ : Int → List Nd) (ps : List (List Nd × List Nd)) : Prop := ∀ p ∈ ps, fill θ p.1 = fill θ p.2

/-- The solution that is as general as can be; of unknowns that are the same the lowest stands for all. -/
structure SolveOk (ps : List (List Nd × List Nd)) (σ : Int → List Nd) : Prop where
  one : ∀ x, One (σ x)
  plain : ∀ x, 1 ≤ x → (σ x).all Nd.plainb = true
  sol : Solves σ ps
  gen : ∀ θ, (∀ x, One (θ x)) → Solves θ ps → ∀ x, fill θ (σ x) = θ x
  low : ∀ x y, σ x = [metaN y] → y ≤ x

theorem metaN_one (x : Int) : One [metaN x] := leaf_one _ rfl

theorem metaN_inj {x y : Int} (h : [metaN x] = [metaN y]) : x = y := by
  simp only [List.cons.injEq, and_true, metaN, Nd.mk.injEq, true_and] at h
  exact h

theorem plain_num {n : Nd} (h : n.plainb = true) (hk : n.kind = 61) : 1 ≤ n.num := by
  unfold Nd.plainb at h
  simp only [Bool.and_eq_true, Bool.or_eq_true, beq_iff_eq, decide_eq_true_eq] at h
  obtain ⟨_, h2⟩ := h
  rcases h2 with (h2 | h2) | h2
  · exact h2.1.2
  · omega
  · omega

theorem metas_num {t : List Nd} (h : t.all Nd.plainb = true) {x : Int} (hx : x ∈ metas t) : 1 ≤ x := by
  obtain ⟨n, hn, rfl⟩ := List.mem_map.1 hx
  obtain ⟨h1, h2⟩ := List.mem_filter.1 hn
  exact plain_num (List.all_eq_true.1 h n h1) (by simpa using h2)

def Occ (ps : List (List Nd × List Nd)) (x : Int) : Prop := ∃ p ∈ ps, x ∈ metas p.1 ∨ x ∈ metas p.2

/-- Pairs that Solve looks at. -/
def Valid (ps : List (List Nd × List Nd)) : Prop := (ps.map fun p => p.1.length + p.2.length).sum ≤ 20000 ∧ ∀ p ∈ ps, typeb p.1 = true ∧ typeb p.2 = true

/-- What Solve answers. -/
def SolveResF (ps : List (List Nd × List Nd)) (_R : Bool × Int × List (Int × List Nd) → Prop) (x : Bool × Int × List (Int × List Nd)) : Prop :=
  (x = (false, (-1), []) ∧ (¬ Valid ps)) ∨
  (∃ (i : Nat), x = (false, (i : Int), []) ∧ (Valid ps) ∧ (i < ps.length) ∧ (∃ θ, (∀ x, One (θ x)) ∧ Solves θ (ps.take i)) ∧ (∀ θ, (∀ x, One (θ x)) → ¬ Solves θ (ps.take (i + 1)))) ∨
  (∃ (σ : Int → List Nd) (x0 : Int), x = (false, (-1), []) ∧ (Valid ps) ∧ (SolveOk ps σ) ∧ (Occ ps x0) ∧ (300 < (σ x0).length)) ∨
  (∃ (σ : Int → List Nd) (bs : List (Int × List Nd)), x = (true, 0, bs) ∧ (Valid ps) ∧ (SolveOk ps σ) ∧ (Up (nums bs)) ∧ (∀ x, x ∈ nums bs ↔ Occ ps x) ∧ (∀ p ∈ bs, p.2 = σ p.1 ∧ p.2.length ≤ 300))

structure SolveRes (ps : List (List Nd × List Nd)) (ok0 : Bool) (at0 : Int) (bs0 : List (Int × List Nd)) : Prop where
  of ::
  lfp : Lfp (SolveResF ps) (ok0, at0, bs0)

theorem SolveRes.grows (ps : List (List Nd × List Nd)) : Grows (SolveResF ps) := by
  rintro R R' x h0 (⟨e0, h⟩ | ⟨i, e0, h1, h2, h3, h4⟩ | ⟨σ, x0, e0, h1, h2, h3, h4⟩ | ⟨σ, bs, e0, h1, h2, h3, h4, h5⟩)
  · exact .inl ⟨e0, h⟩
  · exact .inr (.inl ⟨i, e0, h1, h2, h3, h4⟩)
  · exact .inr (.inr (.inl ⟨σ, x0, e0, h1, h2, h3, h4⟩))
  · exact .inr (.inr (.inr (⟨σ, bs, e0, h1, h2, h3, h4, h5⟩)))

theorem SolveRes.bad {ps : List (List Nd × List Nd)} (h : ¬ Valid ps) : SolveRes ps false ((-1)) ([]) :=
  ⟨Lfp.fold (SolveRes.grows ps) (.inl ⟨rfl, h⟩)⟩

theorem SolveRes.no {ps : List (List Nd × List Nd)} (i : Nat) (h1 : Valid ps) (h2 : i < ps.length) (h3 : ∃ θ, (∀ x, One (θ x)) ∧ Solves θ (ps.take i)) (h4 : ∀ θ, (∀ x, One (θ x)) → ¬ Solves θ (ps.take (i + 1))) : SolveRes ps false ((i : Int)) ([]) :=
  ⟨Lfp.fold (SolveRes.grows ps) (.inr (.inl ⟨i, rfl, h1, h2, h3, h4⟩))⟩

theorem SolveRes.large {ps : List (List Nd × List Nd)} (σ : Int → List Nd) (x0 : Int) (h1 : Valid ps) (h2 : SolveOk ps σ) (h3 : Occ ps x0) (h4 : 300 < (σ x0).length) : SolveRes ps false ((-1)) ([]) :=
  ⟨Lfp.fold (SolveRes.grows ps) (.inr (.inr (.inl ⟨σ, x0, rfl, h1, h2, h3, h4⟩)))⟩

theorem SolveRes.ok {ps : List (List Nd × List Nd)} (σ : Int → List Nd) (bs : List (Int × List Nd)) (h1 : Valid ps) (h2 : SolveOk ps σ) (h3 : Up (nums bs)) (h4 : ∀ x, x ∈ nums bs ↔ Occ ps x) (h5 : ∀ p ∈ bs, p.2 = σ p.1 ∧ p.2.length ≤ 300) : SolveRes ps true 0 bs :=
  ⟨Lfp.fold (SolveRes.grows ps) (.inr (.inr (.inr (⟨σ, bs, rfl, h1, h2, h3, h4, h5⟩))))⟩

theorem SolveRes.elim {ps : List (List Nd × List Nd)} {motive : ∀ ok0 at0 bs0, SolveRes ps ok0 at0 bs0 → Prop}
    (bad : ∀ (h : ¬ Valid ps), motive false ((-1)) ([]) (SolveRes.bad h))
    (no : ∀ (i : Nat) (h1 : Valid ps) (h2 : i < ps.length) (h3 : ∃ θ, (∀ x, One (θ x)) ∧ Solves θ (ps.take i)) (h4 : ∀ θ, (∀ x, One (θ x)) → ¬ Solves θ (ps.take (i + 1))), motive false ((i : Int)) ([]) (SolveRes.no i h1 h2 h3 h4))
    (large : ∀ (σ : Int → List Nd) (x0 : Int) (h1 : Valid ps) (h2 : SolveOk ps σ) (h3 : Occ ps x0) (h4 : 300 < (σ x0).length), motive false ((-1)) ([]) (SolveRes.large σ x0 h1 h2 h3 h4))
    (ok : ∀ (σ : Int → List Nd) (bs : List (Int × List Nd)) (h1 : Valid ps) (h2 : SolveOk ps σ) (h3 : Up (nums bs)) (h4 : ∀ x, x ∈ nums bs ↔ Occ ps x) (h5 : ∀ p ∈ bs, p.2 = σ p.1 ∧ p.2.length ≤ 300), motive true 0 bs (SolveRes.ok σ bs h1 h2 h3 h4 h5))
    {ok0 : Bool} {at0 : Int} {bs0 : List (Int × List Nd)} (h : SolveRes ps ok0 at0 bs0) : motive ok0 at0 bs0 h := by
  have key : ∀ h, motive (ok0, at0, bs0).1 (ok0, at0, bs0).2.1 (ok0, at0, bs0).2.2 h := Lfp.ind (SolveRes.grows ps) (p := fun x => ∀ h, motive x.1 x.2.1 x.2.2 h) (by
    rintro x (⟨e0, h⟩ | ⟨i, e0, h1, h2, h3, h4⟩ | ⟨σ, x0, e0, h1, h2, h3, h4⟩ | ⟨σ, bs, e0, h1, h2, h3, h4, h5⟩) h9
    · subst e0; exact bad h
    · subst e0; exact no i h1 h2 h3 h4
    · subst e0; exact large σ x0 h1 h2 h3 h4
    · subst e0; exact ok σ bs h1 h2 h3 h4 h5) h.lfp
  exact key h

theorem SolveRes.inv {ps : List (List Nd × List Nd)} {motive : ∀ ok0 at0 bs0, SolveRes ps ok0 at0 bs0 → Prop}
    (bad : ∀ (h : ¬ Valid ps), motive false ((-1)) ([]) (SolveRes.bad h))
    (no : ∀ (i : Nat) (h1 : Valid ps) (h2 : i < ps.length) (h3 : ∃ θ, (∀ x, One (θ x)) ∧ Solves θ (ps.take i)) (h4 : ∀ θ, (∀ x, One (θ x)) → ¬ Solves θ (ps.take (i + 1))), motive false ((i : Int)) ([]) (SolveRes.no i h1 h2 h3 h4))
    (large : ∀ (σ : Int → List Nd) (x0 : Int) (h1 : Valid ps) (h2 : SolveOk ps σ) (h3 : Occ ps x0) (h4 : 300 < (σ x0).length), motive false ((-1)) ([]) (SolveRes.large σ x0 h1 h2 h3 h4))
    (ok : ∀ (σ : Int → List Nd) (bs : List (Int × List Nd)) (h1 : Valid ps) (h2 : SolveOk ps σ) (h3 : Up (nums bs)) (h4 : ∀ x, x ∈ nums bs ↔ Occ ps x) (h5 : ∀ p ∈ bs, p.2 = σ p.1 ∧ p.2.length ≤ 300), motive true 0 bs (SolveRes.ok σ bs h1 h2 h3 h4 h5))
    {ok0 : Bool} {at0 : Int} {bs0 : List (Int × List Nd)} (h : SolveRes ps ok0 at0 bs0) : motive ok0 at0 bs0 h := by
  induction h using SolveRes.elim with
  | bad h => exact bad h
  | no i h1 h2 h3 h4 => exact no i h1 h2 h3 h4
  | large σ x0 h1 h2 h3 h4 => exact large σ x0 h1 h2 h3 h4
  | ok σ bs h1 h2 h3 h4 h5 => exact ok σ bs h1 h2 h3 h4 h5

theorem typeb_plain {t : List Nd} (h : typeb t = true) : t.all Nd.plainb = true := by
  simp only [typeb, Bool.and_eq_true, decide_eq_true_eq] at h
  exact h.2

theorem occ_num {ps : List (List Nd × List Nd)} (hv : Valid ps) {x : Int} (h : Occ ps x) : 1 ≤ x := by
  obtain ⟨p, hp, h⟩ := h
  obtain ⟨h1, h2⟩ := hv.2 p hp
  rcases h with h | h
  · exact metas_num (typeb_plain h1) h
  · exact metas_num (typeb_plain h2) h

theorem Solves.take {θ : Int → List Nd} {ps : List (List Nd × List Nd)} (h : Solves θ ps) (i : Nat) : Solves θ (ps.take i) := fun p hp => h p (List.mem_of_mem_take hp)

theorem Solves.le {θ : Int → List Nd} {ps : List (List Nd × List Nd)} {i j : Nat} (h : Solves θ (ps.take j)) (hij : i ≤ j) : Solves θ (ps.take i) := by
  have := h.take i
  rw [List.take_take, Nat.min_eq_left hij] at this
  exact this

end Go.Proofs.YthioecjcnajmgaaGreatDoor

namespace Go.Proofs.YthioecjcnajmgaaGreatDoor

open Go.RowKit

/-- append to a slice of the call's own, nil or not, in a row of operations. -/
theorem wpList_append3 {P : Program} {w : World} {ops : Array Oper} {rest : List Oper} {o : Oper} {a : Act} {Q : Exit → Act → World → Prop} (hgd : o.guard = none) (s x : Operand) (t : TypeId)
    (ho : o.op = .call { callee := .builtin .append, args := #[s, x], argTypes := #[t, t] })
    (base : Nat) (e : TypeId) (i : TypeInfo) (z : Value) (size bytes : Nat) (ht : P.underlying t = some (.slice e)) (hi : P.info? e = some i) (hz : i.zero = some z)
    (hsize : i.size = size) (hby : i.bytes = bytes) (hzs : z.cells.size = size) (hsz : 0 < size) (v : Value) (n : Nat) (xs : List Value) (hs : a.eval s = v) (hown : w.ownsRow base e size v n xs)
    (ad : Addr) (m c : Nat) (news : List Value) (hx : a.eval x = .slice (some ad) m c) (hl : news.length = m * size) (hnews : ∀ j u, news[j]? = some u → w.cell? (ad.add j) = some u) (h1 : ∀ u ∈ news, u.oneCell' = true)
    (hm : 0 < m) (h63 : n + m ≤ maxLen) (hbytes : (n + m) * bytes ≤ 140737488355328) (hbase : base ≤ w.heap.size)
    (h : ∀ g' cap' w', w'.ownsRow base e size (.slice (some ⟨g', 0, none⟩) (n + m) cap') (n + m) (xs ++ news) → w.grownBy w' v.ownBlock → (v.ownBlock = some g' ∨ w.heap.size ≤ g') → wpList P ops Q rest (a.put o.dst (.slice (some ⟨g', 0, none⟩) (n + m) cap')) w') : wpList P ops Q (o :: rest) a w := by
  refine wpList_plain hgd fun K hK => ?_
  obtain ⟨g', cap', w', hrun, r1, r2, r3⟩ := run_append3 (P := P) w base t o.type e i z size bytes ht hi hz hsize hby hzs hsz v n xs hown ad m c news hl hnews h1 hm h63 hbytes hbase
  unfold Oper.wp execOp
  simp only [ho, resolve, invoke, builtin, Sem.run_bind, Sem.run_pure, Result.andThen_ok, List.map_toArray, List.map_cons, List.map_nil, hs, hx, hrun]
  exact hK _ _ (h g' cap' w' r1 r2 r3)

end Go.Proofs.YthioecjcnajmgaaGreatDoor
