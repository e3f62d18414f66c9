import Derived.Test.YtoiiibplkhedcaaGreatDoorWAN
namespace Go.Proofs.YtoiiibplkhedcaaGreatDoor
def RchF (st : List SK) (lk : Nat → Option Nat) (R : Nat × Nat → Prop) (x : Nat × Nat) : Prop :=
  (∃ (i : Nat), x = (i, i)) ∨
  (∃ (i j z : Nat), x = (i, z) ∧ (lk i = some j) ∧ (R (j, z))) ∨
  (∃ (i k z : Nat), x = (i, z) ∧ (lk i = none) ∧ (k ∈ (sk st i).kids) ∧ (R (k, z)))
structure Rch (st : List SK) (lk : Nat → Option Nat) (i : Nat) (z : Nat) : Prop where
  of ::
  lfp : Lfp (RchF st lk) (i, z)
theorem Rch.grows (st : List SK) (lk : Nat → Option Nat) : Qkq (RchF st lk) := by
  rintro R R' x h0 (⟨i, e0⟩ | ⟨i, j, z, e0, h, k⟩ | ⟨i, k, z, e0, h, hk, hr⟩)
  · exact .inl ⟨i, e0⟩
  · exact .inr (.inl ⟨i, j, z, e0, h, h0 _ k⟩)
  · exact .inr (.inr (⟨i, k, z, e0, h, hk, h0 _ hr⟩))
theorem Rch.refl {st : List SK} {lk : Nat → Option Nat} (i : Nat) : Rch st lk i i :=
  ⟨Lfp.fold (Rch.grows st lk) (.inl ⟨i, rfl⟩)⟩
theorem Rch.link {st : List SK} {lk : Nat → Option Nat} {i j z : Nat} (h : lk i = some j) (k : Rch st lk j z) : Rch st lk i z :=
  ⟨Lfp.fold (Rch.grows st lk) (.inr (.inl ⟨i, j, z, rfl, h, k.lfp⟩))⟩
theorem Rch.kid {st : List SK} {lk : Nat → Option Nat} {i k z : Nat} (h : lk i = none) (hk : k ∈ (sk st i).kids) (hr : Rch st lk k z) : Rch st lk i z :=
  ⟨Lfp.fold (Rch.grows st lk) (.inr (.inr (⟨i, k, z, rfl, h, hk, hr.lfp⟩)))⟩
theorem Rch.elim {st : List SK} {lk : Nat → Option Nat} {motive : ∀ i z, Rch st lk i z → Prop}
    (refl : ∀ (i : Nat), motive i i (Rch.refl i))
    (link : ∀ {i j z : Nat} (h : lk i = some j) (k : Rch st lk j z), motive j z (k) → motive i z (Rch.link (i := i) (j := j) (z := z) h k))
    (kid : ∀ {i k z : Nat} (h : lk i = none) (hk : k ∈ (sk st i).kids) (hr : Rch st lk k z), motive k z (hr) → motive i z (Rch.kid (i := i) (k := k) (z := z) h hk hr))
    {i : Nat} {z : Nat} (h : Rch st lk i z) : motive i z h := by
  have key : ∀ h, motive (i, z).1 (i, z).2 h := Lfp.ind (Rch.grows st lk) (p := fun x => ∀ h, motive x.1 x.2 h) (by
    rintro x (⟨i, e0⟩ | ⟨i, j, z, e0, h, k⟩ | ⟨i, k, z, e0, h, hk, hr⟩) h9
    · subst e0; exact refl i
    · subst e0; exact link (i := i) (j := j) (z := z) h ⟨k.1⟩ (k.2 _)
    · subst e0; exact kid (i := i) (k := k) (z := z) h hk ⟨hr.1⟩ (hr.2 _)) h.lfp
  exact key h
theorem Rt.rch {st : List SK} {lk : Nat → Option Nat} {i r : Nat} (h : Rt lk i r) : Rch st lk i r := by
  induction h using Rt.elim with
  | root _ => exact .refl _
  | step h1 _ ih => exact .link h1 ih
theorem Rch.trans {st : List SK} {lk : Nat → Option Nat} {i j z : Nat} (h : Rch st lk i j) (h' : Rch st lk j z) : Rch st lk i z := by
  induction h using Rch.elim with
  | refl _ => exact h'
  | link h1 _ ih => exact .link h1 (ih h')
  | kid h1 h2 _ ih => exact .kid h1 h2 (ih h')
theorem Qgs {l : List Nat} {v : Nat → List Nd} {k : Nat} (h : k ∈ l) : (v k).length ≤ (l.flatMap v).length := by
  induction l with
  | nil => simp at h
  | cons a l ih =>
    simp only [List.flatMap_cons, List.length_append]
    rcases List.mem_cons.1 h with rfl | h
    · omega
    · have := ih h; omega
theorem Rch.sizeD {st : List SK} {lk : Nat → Option Nat} {D : Nat → List Nd} (hD : IsD st lk D) {i z : Nat} (h : Rch st lk i z) : (D z).length ≤ (D i).length ∧ (lk i = none → i ≠ z → (D z).length < (D i).length) := by
  induction h using Rch.elim with
  | refl _ => exact ⟨Nat.le_refl _, fun _ h => absurd rfl h⟩
  | link h1 _ ih => rw [hD.link h1]; exact ⟨ih.1, fun h => by rw [h1] at h; cases h⟩
  | kid h1 h2 _ ih =>
    rw [hD.node h1]
    have := Qgs (v := D) h2
    simp only [List.length_append, List.length_cons, List.length_nil]
    exact ⟨by omega, fun _ _ => by omega⟩
theorem Qos {st : List SK} (hs : Sts st) {i k : Nat} (h : k ∈ (sk st i).kids) : (sk st i).kind ≠ 61 := by
  intro e
  rw [hs.leaf i e] at h
  simp at h
theorem Qyj {θ : Int → List Nd} {st : List SK} (hs : Sts st) {i k : Nat} (h : k ∈ (sk st i).kids) : (T Classical.epsilon θ st k).length < (T Classical.epsilon θ st i).length := by
  rw [Qgc θ hs (Qos hs h) (i := i)]
  have := Qgs (v := T Classical.epsilon θ st) h
  simp only [List.length_append, List.length_cons, List.length_nil]
  omega
theorem Rch.sizeT {θ : Int → List Nd} {st : List SK} (hs : Sts st) {lk : Nat → Option Nat} (hsat : Sat θ st lk) {i z : Nat} (h : Rch st lk i z) : (T Classical.epsilon θ st z).length ≤ (T Classical.epsilon θ st i).length ∧ (lk i = none → i ≠ z → (T Classical.epsilon θ st z).length < (T Classical.epsilon θ st i).length) := by
  induction h using Rch.elim with
  | refl _ => exact ⟨Nat.le_refl _, fun _ h => absurd rfl h⟩
  | link h1 _ ih => rw [hsat _ _ h1]; exact ⟨ih.1, fun h => by rw [h1] at h; cases h⟩
  | kid h1 h2 _ ih =>
    have := Qyj (θ := θ) hs h2
    exact ⟨by omega, fun _ _ => by omega⟩
def upd (lk : Nat → Option Nat) (a b : Nat) : Nat → Option Nat := fun i => if i = a then some b else lk i
theorem Qbw (lk : Nat → Option Nat) (a b : Nat) : upd lk a b a = some b := by simp [upd]
theorem Qap {lk : Nat → Option Nat} {a b i : Nat} (h : i ≠ a) : upd lk a b i = lk i := by simp [upd, h]
open Classical in
theorem Ranked.upd {st : List SK} {lk : Nat → Option Nat} {r : Nat → Nat} (hr : Ranked st lk r) {a b : Nat} (hn : ¬ Rch st lk b a) : ∃ r', Ranked st (upd lk a b) r' := by
  refine ⟨fun i => r i + if Rch st lk i a then r b + 1 else 0, ?_, ?_⟩
  · intro i j h
    by_cases e : i = a
    · subst e
      rw [Qbw] at h
      cases h
      rw [if_neg hn, if_pos (Rch.refl i)]
      omega
    · rw [Qap e] at h
      have h1 := hr.link i j h
      by_cases hj : Rch st lk j a
      · rw [if_pos hj, if_pos (Rch.link h hj)]; omega
      · rw [if_neg hj]; omega
  · intro i h k hk
    by_cases e : i = a
    · subst e
      rw [Qbw] at h
      cases h
    · rw [Qap e] at h
      have h1 := hr.kid i h k hk
      by_cases hj : Rch st lk k a
      · rw [if_pos hj, if_pos (Rch.kid h hk hj)]; omega
      · rw [if_neg hj]; omega
theorem Rt.upd {lk : Nat → Option Nat} {a b i r : Nat} (hb : lk b = none) (hab : a ≠ b) (ha : lk a = none) (h : Rt lk i r) : Rt (upd lk a b) i (if r = a then b else r) := by
  induction h using Rt.elim with
  | root h1 =>
    rename_i i
    by_cases e : i = a
    · rw [if_pos e, e]
      exact .step (Qbw lk a b) (.root (by rw [Qap (Ne.symm hab)]; exact hb))
    · rw [if_neg e]
      exact .root (by rw [Qap e]; exact h1)
  | @step i j r h1 _ ih =>
    have e : i ≠ a := by intro e; rw [e, ha] at h1; cases h1
    exact .step (by rw [Qap e]; exact h1) ih
theorem Sat.upd {θ : Int → List Nd} {st : List SK} {lk : Nat → Option Nat} {a b : Nat} (ha : lk a = none) : Sat θ st (upd lk a b) ↔ Sat θ st lk ∧ T Classical.epsilon θ st a = T Classical.epsilon θ st b := by
  constructor
  · intro h
    refine ⟨?_, h a b (Qbw lk a b)⟩
    intro i j hl
    have e : i ≠ a := by intro e; rw [e, ha] at hl; cases hl
    exact h i j (by rw [Qap e]; exact hl)
  · rintro ⟨h1, h2⟩ i j hl
    by_cases e : i = a
    · subst e
      rw [Qbw] at hl
      cases hl
      exact h2
    · rw [Qap e] at hl
      exact h1 i j hl
def Ext2 (lk lk' : Nat → Option Nat) : Prop := ∀ i j, lk i = some j → lk' i = some j
theorem Ext2.upd {lk : Nat → Option Nat} {a b : Nat} (ha : lk a = none) : Ext2 lk (upd lk a b) := by
  intro i j h
  have e : i ≠ a := by intro e; rw [e, ha] at h; cases h
  rw [Qap e]; exact h
theorem Ext2.rt {lk lk' : Nat → Option Nat} (h : Ext2 lk lk') {i r q : Nat} (h1 : Rt lk i r) (h2 : Rt lk' r q) : Rt lk' i q := by
  induction h1 using Rt.elim with
  | root _ => exact h2
  | step h3 _ ih => exact .step (h _ _ h3) (ih h2)
def unl (st : List SK) (lk : Nat → Option Nat) : Nat := ((List.range st.length).filter (fun i => (sk st i).kind == 61 && (lk i).isNone)).length
theorem Qpi {α : Type} {l : List α} {p q : α → Bool} (h : ∀ x ∈ l, p x = true → q x = true) : (l.filter p).length ≤ (l.filter q).length := by
  induction l with
  | nil => simp
  | cons a l ih =>
    have h1 := ih (fun x hx => h x (by simp [hx]))
    have h2 := h a (by simp)
    simp only [List.filter_cons]
    cases hp : p a
    · cases q a <;> simp <;> omega
    · rw [h2 hp]; simp; omega
theorem Qxo {α : Type} {l : List α} {p q : α → Bool} (h : ∀ x ∈ l, p x = true → q x = true) {a : α} (ha : a ∈ l) (hp : p a = false) (hq : q a = true) : (l.filter p).length < (l.filter q).length := by
  induction l with
  | nil => simp at ha
  | cons b l ih =>
    simp only [List.filter_cons]
    rcases List.mem_cons.1 ha with rfl | ha
    · rw [hp, hq]
      have := Qpi (l := l) (p := p) (q := q) (fun x hx => h x (by simp [hx]))
      simp
      omega
    · have h1 := ih (fun x hx => h x (by simp [hx])) ha
      have h2 := h b (by simp)
      cases hp : p b
      · cases q b <;> simp <;> omega
      · rw [h2 hp]; simp; omega
theorem Qlf {st : List SK} {lk lk' : Nat → Option Nat} (h : Ext2 lk lk') : unl st lk' ≤ unl st lk := by
  refine Qpi ?_
  intro i _ hi
  simp only [Bool.and_eq_true, beq_iff_eq, Option.isNone_iff_eq_none] at hi ⊢
  refine ⟨hi.1, ?_⟩
  cases hl : lk i with
  | none => rfl
  | some j => have := h i j hl; rw [hi.2] at this; cases this
theorem Jbb {st : List SK} {lk : Nat → Option Nat} {a b : Nat} (ha : lk a = none) (hk : (sk st a).kind = 61) : unl st (upd lk a b) < unl st lk := by
  refine Qxo (a := a) ?_ (List.mem_range.2 (Qhu hk)) ?_ ?_
  · intro i _ hi
    simp only [Bool.and_eq_true, beq_iff_eq, Option.isNone_iff_eq_none] at hi ⊢
    refine ⟨hi.1, ?_⟩
    by_cases e : i = a
    · rw [e]; exact ha
    · have := hi.2; rw [Qap e] at this; exact this
  · simp [Qbw]
  · simp [hk, ha]
structure UOk (st : List SK) (lk : Nat → Option Nat) (a b : Nat) (lk' : Nat → Option Nat) : Prop where
  inv : Inv st lk'
  ext : Ext2 lk lk'
  sat : ∀ θ, (∀ x, One (θ x)) → (Sat θ st lk' ↔ Sat θ st lk ∧ T Classical.epsilon θ st a = T Classical.epsilon θ st b)
  root : ∃ r, Rt lk' a r ∧ Rt lk' b r
  same : unl st lk' = unl st lk → ∀ D, IsD st lk D → IsD st lk' D
  rts : ∀ i j r, Rt lk i r → Rt lk j r → ∃ q, Rt lk' i q ∧ Rt lk' j q
  chg : ∀ i, lk' i ≠ lk i → ∀ θ, Sat θ st lk' → (T Classical.epsilon θ st i).length ≤ (T Classical.epsilon θ st a).length
def UNo (st : List SK) (lk : Nat → Option Nat) (a b : Nat) : Prop := ∀ θ, (∀ x, One (θ x)) → Sat θ st lk → T Classical.epsilon θ st a ≠ T Classical.epsilon θ st b
theorem UOk.swap {st : List SK} {lk lk' : Nat → Option Nat} {a b : Nat} (h : UOk st lk a b lk') : UOk st lk b a lk' := by
  refine ⟨h.inv, h.ext, fun θ hθ => (h.sat θ hθ).trans (and_congr_right fun _ => eq_comm), ?_, h.same, h.rts, ?_⟩
  · obtain ⟨r, h1, h2⟩ := h.root
    exact ⟨r, h2, h1⟩
  · intro i hi θ hs
    obtain ⟨r, h1, h2⟩ := h.root
    rw [h2.sat hs, ← h1.sat hs]
    exact h.chg i hi θ hs
theorem UNo.swap {st : List SK} {lk : Nat → Option Nat} {a b : Nat} (h : UNo st lk a b) : UNo st lk b a := fun θ hθ hs e => h θ hθ hs e.symm
theorem UOk.up {st : List SK} {lk lk' : Nat → Option Nat} {a b ra rb : Nat} (h : UOk st lk ra rb lk') (ha : Rt lk a ra) (hb : Rt lk b rb) : UOk st lk a b lk' := by
  refine ⟨h.inv, h.ext, ?_, ?_, h.same, h.rts, ?_⟩
  · intro θ hθ
    rw [h.sat θ hθ]
    refine and_congr_right fun hs => ?_
    rw [ha.sat hs, hb.sat hs]
  · obtain ⟨r, h1, h2⟩ := h.root
    exact ⟨r, h.ext.rt ha h1, h.ext.rt hb h2⟩
  · intro i hi θ hs
    obtain ⟨r, h1, _⟩ := h.root
    have e : T Classical.epsilon θ st a = T Classical.epsilon θ st ra := by rw [(h.ext.rt ha h1).sat hs, h1.sat hs]
    rw [e]
    exact h.chg i hi θ hs
theorem UNo.up {st : List SK} {lk : Nat → Option Nat} {a b ra rb : Nat} (h : UNo st lk ra rb) (ha : Rt lk a ra) (hb : Rt lk b rb) : UNo st lk a b := by
  intro θ hθ hs e
  rw [ha.sat hs, hb.sat hs] at e
  exact h θ hθ hs e
theorem Jcs {st : List SK} {lk : Nat → Option Nat} (hI : Inv st lk) {a b r : Nat} (ha : Rt lk a r) (hb : Rt lk b r) : UOk st lk a b lk :=
  ⟨hI, fun _ _ h => h, fun θ _ => ⟨fun h => ⟨h, by rw [ha.sat h, hb.sat h]⟩, fun h => h.1⟩, ⟨r, ha, hb⟩, fun _ _ h => h, fun i j q h1 h2 => ⟨q, h1, h2⟩, fun i h => absurd rfl h⟩
theorem Jct {st : List SK} {lk : Nat → Option Nat} (hI : Inv st lk) {a b : Nat} (ha : lk a = none) (hb : lk b = none) (hab : a ≠ b) (hbl : b < st.length) (hk : (sk st a).kind = 61) (hn : ¬ Rch st lk b a) (hlow : (sk st b).kind = 61 → (sk st b).num < (sk st a).num) : UOk st lk a b (upd lk a b) := by
  obtain ⟨r, hr⟩ := hI.rank
  have hrt : ∀ i j q, Rt lk i q → Rt lk j q → ∃ q, Rt (upd lk a b) i q ∧ Rt (upd lk a b) j q := fun i j q h1 h2 => ⟨_, h1.upd hb hab ha, h2.upd hb hab ha⟩
  refine ⟨⟨hr.upd hn, ?_, ?_, ?_⟩, Ext2.upd ha, fun θ _ => Sat.upd ha, ?_, ?_, hrt, ?_⟩
  · intro i j h
    by_cases e : i = a
    · subst e
      rw [Qbw] at h
      cases h
      exact ⟨Qhu hk, hbl⟩
    · rw [Qap e] at h
      exact hI.rng i j h
  · intro i j h hki
    by_cases e : i = a
    · subst e
      exact absurd hk hki
    · rw [Qap e] at h
      obtain ⟨h1, h2, h3⟩ := hI.cong i j h hki
      refine ⟨h1, h2, ?_⟩
      intro k hk1 hk2
      obtain ⟨q, h4, h5⟩ := h3 k hk1 hk2
      exact hrt _ _ q h4 h5
  · intro i j h hki hkj
    by_cases e : i = a
    · subst e
      rw [Qbw] at h
      cases h
      exact hlow hkj
    · rw [Qap e] at h
      exact hI.low i j h hki hkj
  · refine ⟨b, .step (Qbw lk a b) (.root ?_), .root ?_⟩
    · rw [Qap (Ne.symm hab)]; exact hb
    · rw [Qap (Ne.symm hab)]; exact hb
  · intro h
    have := Jbb (b := b) ha hk
    omega
  · intro i hi θ _
    by_cases e : i = a
    · rw [e]; exact Nat.le_refl _
    · exact absurd (Qap e) hi
theorem Qyw {st : List SK} (hs : Sts st) {lk : Nat → Option Nat} {a b : Nat} (hb : lk b = none) (hab : a ≠ b) (hn : Rch st lk b a) : UNo st lk a b := by
  intro θ _ hsat e
  have := (hn.sizeT hs hsat).2 hb (Ne.symm hab)
  rw [e] at this
  omega
theorem Jbp {st : List SK} (hs : Sts st) {lk : Nat → Option Nat} {a b : Nat} (hka : (sk st a).kind ≠ 61) (hkb : (sk st b).kind ≠ 61) (hne : (sk st a).node ≠ (sk st b).node) : UNo st lk a b := by
  intro θ _ _ e
  rw [Qgc θ hs hka, Qgc θ hs hkb] at e
  have := (List.append_inj' e rfl).2
  simp at this
  exact hne this
structure UKs (st : List SK) (lk : Nat → Option Nat) (a b k : Nat) (lk' : Nat → Option Nat) : Prop where
  inv : Inv st lk'
  ext : Ext2 lk lk'
  sat : ∀ θ, (∀ x, One (θ x)) → (Sat θ st lk' ↔ Sat θ st lk ∧ ∀ m (h : m < (sk st a).kids.length) (h' : m < (sk st b).kids.length), m < k → T Classical.epsilon θ st (sk st a).kids[m] = T Classical.epsilon θ st (sk st b).kids[m])
  root : ∀ m (h : m < (sk st a).kids.length) (h' : m < (sk st b).kids.length), m < k → ∃ r, Rt lk' (sk st a).kids[m] r ∧ Rt lk' (sk st b).kids[m] r
  same : unl st lk' = unl st lk → ∀ D, IsD st lk D → IsD st lk' D
  rts : ∀ i j r, Rt lk i r → Rt lk j r → ∃ q, Rt lk' i q ∧ Rt lk' j q
  chg : ∀ i, lk' i ≠ lk i → ∀ θ, Sat θ st lk' → ∃ m, ∃ h : m < (sk st a).kids.length, (T Classical.epsilon θ st i).length ≤ (T Classical.epsilon θ st (sk st a).kids[m]).length
theorem Jbo {st : List SK} {lk : Nat → Option Nat} (hI : Inv st lk) (a b : Nat) : UKs st lk a b 0 lk :=
  ⟨hI, fun _ _ h => h, fun θ _ => ⟨fun h => ⟨h, fun m _ _ h0 => absurd h0 (by omega)⟩, fun h => h.1⟩, fun m _ _ h0 => absurd h0 (by omega), fun _ _ h => h, fun i j q h1 h2 => ⟨q, h1, h2⟩, fun i h => absurd rfl h⟩
theorem UKs.step {st : List SK} {lk lk1 lk2 : Nat → Option Nat} {a b k : Nat} (h : UKs st lk a b k lk1) (hka : k < (sk st a).kids.length) (hkb : k < (sk st b).kids.length) (h2 : UOk st lk1 (sk st a).kids[k] (sk st b).kids[k] lk2) : UKs st lk a b (k + 1) lk2 := by
  refine ⟨h2.inv, fun i j hl => h2.ext i j (h.ext i j hl), ?_, ?_, ?_, ?_, ?_⟩
  · intro θ hθ
    rw [h2.sat θ hθ, h.sat θ hθ, and_assoc]
    refine and_congr_right fun _ => ?_
    constructor
    · rintro ⟨h3, h4⟩ m hm hm' hmk
      by_cases e : m = k
      · subst e; exact h4
      · exact h3 m hm hm' (by omega)
    · intro h3
      exact ⟨fun m hm hm' hmk => h3 m hm hm' (by omega), h3 k hka hkb (by omega)⟩
  · intro m hm hm' hmk
    by_cases e : m = k
    · subst e; exact h2.root
    · obtain ⟨r, h3, h4⟩ := h.root m hm hm' (by omega)
      exact h2.rts _ _ r h3 h4
  · intro hu D hD
    have h3 := Qlf (st := st) h2.ext
    have h4 := Qlf (st := st) h.ext
    exact h2.same (by omega) D (h.same (by omega) D hD)
  · intro i j r h3 h4
    obtain ⟨q, h5, h6⟩ := h.rts i j r h3 h4
    exact h2.rts i j q h5 h6
  · intro i hi θ hsat
    by_cases e : lk2 i = lk1 i
    · rw [e] at hi
      have hs1 : Sat θ st lk1 := fun x y hl => hsat x y (h2.ext x y hl)
      exact h.chg i hi θ hs1
    · exact ⟨k, hka, h2.chg i e θ hsat⟩
theorem Qgw {θ : Int → List Nd} (hθ : ∀ x, One (θ x)) {st : List SK} (hs : Sts st) {a b : Nat} (hka : (sk st a).kind ≠ 61) (hkb : (sk st b).kind ≠ 61) (hn : (sk st a).node = (sk st b).node) :
    T Classical.epsilon θ st a = T Classical.epsilon θ st b ↔ ∀ m (h : m < (sk st a).kids.length) (h' : m < (sk st b).kids.length), T Classical.epsilon θ st (sk st a).kids[m] = T Classical.epsilon θ st (sk st b).kids[m] := by
  rw [Qgc θ hs hka, Qgc θ hs hkb, hn]
  have hl := Qju hn
  constructor
  · intro e
    have e1 := (List.append_inj' e rfl).1
    rw [List.flatMap_def, List.flatMap_def] at e1
    have e2 := Qen (A := (sk st a).kids.map (T Classical.epsilon θ st)) (B := (sk st b).kids.map (T Classical.epsilon θ st)) (by
      intro x hx
      obtain ⟨k, _, rfl⟩ := List.mem_map.1 hx
      exact Jdn hθ hs k) (by
      intro x hx
      obtain ⟨k, _, rfl⟩ := List.mem_map.1 hx
      exact Jdn hθ hs k) e1
    intro m h h'
    have e3 : ((sk st a).kids.map (T Classical.epsilon θ st))[m]'(by simpa using h) = ((sk st b).kids.map (T Classical.epsilon θ st))[m]'(by simpa using h') := by simp only [e2]
    simpa using e3
  · intro h
    rw [Qfy hl h]
theorem UNo.kid {st : List SK} (hs : Sts st) {lk lk1 : Nat → Option Nat} {a b k : Nat} (hka : (sk st a).kind ≠ 61) (hkb : (sk st b).kind ≠ 61) (hn : (sk st a).node = (sk st b).node) (h : UKs st lk a b k lk1) (h1 : k < (sk st a).kids.length) (h2 : k < (sk st b).kids.length) (h3 : UNo st lk1 (sk st a).kids[k] (sk st b).kids[k]) : UNo st lk a b := by
  intro θ hθ hsat e
  rw [Qgw hθ hs hka hkb hn] at e
  exact h3 θ hθ ((h.sat θ hθ).2 ⟨hsat, fun m hm hm' _ => e m hm hm'⟩) (e k h1 h2)
theorem Qyx {st : List SK} (hs : Sts st) {lk lk1 : Nat → Option Nat} {a b : Nat} (hab : a ≠ b) (ha : lk a = none) (hb : lk b = none) (hal : a < st.length) (hbl : b < st.length) (hka : (sk st a).kind ≠ 61) (hkb : (sk st b).kind ≠ 61) (hn : (sk st a).node = (sk st b).node) {k : Nat} (hk : (sk st a).kids.length ≤ k) (h : UKs st lk a b k lk1) : UOk st lk a b (upd lk1 a b) := by
  have hl := Qju hn
  obtain ⟨r, hr⟩ := h.inv.rank
  obtain ⟨D, hD⟩ := hr.exists_D
  have hsatD := Jaz hs h.inv hD
  have h1θ := Qfz hr hD
  have hTab : T Classical.epsilon (Qeq Classical.propDecidable Classical.epsilon st D) st a = T Classical.epsilon (Qeq Classical.propDecidable Classical.epsilon st D) st b := (Qgw h1θ hs hka hkb hn).2 (fun m hm hm' => ((h.sat _ h1θ).1 hsatD).2 m hm hm' (by omega))
  have ha1 : lk1 a = none := by
    by_cases e : lk1 a = lk a
    · rw [e]; exact ha
    · exfalso
      obtain ⟨m, hm, h9⟩ := h.chg a e _ hsatD
      have := Qyj (θ := Qeq Classical.propDecidable Classical.epsilon st D) hs (List.getElem_mem hm)
      omega
  have hb1 : lk1 b = none := by
    by_cases e : lk1 b = lk b
    · rw [e]; exact hb
    · exfalso
      obtain ⟨m, hm, h9⟩ := h.chg b e _ hsatD
      have h8 := Qyj (θ := Qeq Classical.propDecidable Classical.epsilon st D) hs (List.getElem_mem hm)
      rw [← hTab] at h9
      omega
  have hDab : ∀ D, IsD st lk1 D → D a = D b := by
    intro D hD
    rw [h.inv.cong_D hD a hka, h.inv.cong_D hD b hkb, hn]
    congr 1
    refine Qfy hl ?_
    intro m hm hm'
    obtain ⟨q, h4, h5⟩ := h.root m hm hm' (by omega)
    rw [hD.rt h4, hD.rt h5]
  have hnr : ¬ Rch st lk1 b a := by
    intro hR
    have h4 := (hR.sizeD hD).2 hb1 (Ne.symm hab)
    rw [hDab D hD] at h4
    omega
  have hrt : ∀ i j q, Rt lk1 i q → Rt lk1 j q → ∃ q, Rt (upd lk1 a b) i q ∧ Rt (upd lk1 a b) j q := fun i j q h1 h2 => ⟨_, h1.upd hb1 hab ha1, h2.upd hb1 hab ha1⟩
  have hext := Ext2.upd (b := b) ha1
  refine ⟨⟨hr.upd hnr, ?_, ?_, ?_⟩, fun i j hl => hext i j (h.ext i j hl), ?_, ?_, ?_, ?_, ?_⟩
  · intro i j hl
    by_cases e : i = a
    · subst e
      rw [Qbw] at hl
      cases hl
      exact ⟨hal, hbl⟩
    · rw [Qap e] at hl
      exact h.inv.rng i j hl
  · intro i j hl9 hki
    by_cases e : i = a
    · subst e
      rw [Qbw] at hl9
      cases hl9
      refine ⟨hkb, hn, ?_⟩
      intro m hm hm'
      obtain ⟨q, h4, h5⟩ := h.root m hm hm' (by omega)
      exact hrt _ _ q h4 h5
    · rw [Qap e] at hl9
      obtain ⟨h1, h2, h3⟩ := h.inv.cong i j hl9 hki
      refine ⟨h1, h2, ?_⟩
      intro m hk1 hk2
      obtain ⟨q, h4, h5⟩ := h3 m hk1 hk2
      exact hrt _ _ q h4 h5
  · intro i j hl9 hki hkj
    by_cases e : i = a
    · subst e
      exact absurd hki hka
    · rw [Qap e] at hl9
      exact h.inv.low i j hl9 hki hkj
  · intro θ hθ
    rw [Sat.upd ha1, h.sat θ hθ, Qgw hθ hs hka hkb hn]
    constructor
    · rintro ⟨⟨h1, _⟩, h2⟩
      exact ⟨h1, h2⟩
    · rintro ⟨h1, h2⟩
      exact ⟨⟨h1, fun m hm hm' _ => h2 m hm hm'⟩, h2⟩
  · refine ⟨b, .step (Qbw lk1 a b) (.root ?_), .root ?_⟩
    · rw [Qap (Ne.symm hab)]; exact hb1
    · rw [Qap (Ne.symm hab)]; exact hb1
  · intro hu D hD9
    have h5 := Qlf (st := st) h.ext
    have h6 := Qlf (st := st) hext
    have hD1 := h.same (by omega) D hD9
    intro i
    by_cases e : i = a
    · subst e
      rw [Qbw]
      exact hDab D hD1
    · rw [Qap e]
      exact hD1 i
  · intro i j q h3 h4
    obtain ⟨p, h5, h6⟩ := h.rts i j q h3 h4
    exact hrt i j p h5 h6
  · intro i hi θ hsat
    by_cases e : i = a
    · rw [e]; exact Nat.le_refl _
    · rw [Qap e] at hi
      have hs1 : Sat θ st lk1 := ((Sat.upd ha1).1 hsat).1
      obtain ⟨m, hm, h9⟩ := h.chg i hi θ hs1
      have h8 := Qyj (θ := θ) hs (List.getElem_mem hm)
      omega
def Qpy (st : List SK) (lk : Nat → Option Nat) (M G : Nat → Prop) : Prop := ∀ m, M m → ¬ G m → ∀ k ∈ (sk st m).kids, ∀ q, Rt lk k q → M q
theorem Que {st : List SK} {lk : Nat → Option Nat} {M : Nat → Prop} (hc : Qpy st lk M (fun _ => False)) {i z : Nat} (h : Rch st lk i z) : ∀ q, Rt lk i q → M q → ∀ p, Rt lk z p → M p := by
  induction h using Rch.elim with
  | refl _ => intro q hq hm p hp; rw [← hq.fun hp]; exact hm
  | link h1 _ ih =>
    intro q hq hm
    cases hq using Rt.inv with
    | root h2 => rw [h1] at h2; cases h2
    | step h2 h3 => rw [h1] at h2; cases h2; exact ih q h3 hm
  | @kid i k z h1 h2 h3 ih =>
    intro q hq hm p hp
    cases hq using Rt.inv with
    | step h4 _ => rw [h1] at h4; cases h4
    | root _ =>
      by_cases hex : ∃ q, Rt lk k q
      · obtain ⟨q, hkq⟩ := hex
        exact ih q hkq (hc _ hm (fun h => h) k h2 q hkq) p hp
      · exfalso
        have key : ∀ {i z p : Nat}, Rch st lk i z → Rt lk z p → ∃ q, Rt lk i q := by
          intro i z p h
          induction h using Rch.elim with
          | refl _ => intro h; exact ⟨_, h⟩
          | link h5 _ ih2 => intro h; obtain ⟨q, hq⟩ := ih2 h; exact ⟨q, .step h5 hq⟩
          | kid h5 _ _ _ => intro _; exact ⟨_, .root h5⟩
        exact hex (key h3 hp)
def Qav (x : Int) : Nd := ⟨61, x, ByteArray.empty, 0, 0⟩
theorem Qda {θ θ' : Int → List Nd} (hθ : ∀ x, One (θ x)) (hθ' : ∀ x, One (θ' x)) {t : List Nd} (hl : Leafy t) (h : One t) (e : fill θ t = fill θ' t) : ∀ x ∈ metas t, θ x = θ' x := by
  have hne := List.length_pos_iff.2 h.ne
  obtain ⟨s, ys, hA⟩ := h
  have hf := Qaf hA
  have hc := hf.chain.2.2.1 (by simp)
  simp only [List.getElem_cons_zero, List.length_cons, List.length_nil, Nat.zero_add, Nat.sub_self] at hc
  have hm := hf.mem 0 (by simp)
  simp only [List.getElem_cons_zero] at hm
  have hrt : s.rt = t.length - 1 := by omega
  rw [hrt] at hm
  have hsp : span t s.fr (t.length - 1) = t := by
    unfold span
    rw [hc.1, List.drop_zero, List.take_of_length_le (by omega)]
  have h9 := Jar hθ hθ' hl hA (t.length - 1) (by omega) s hm (by rw [hsp]; exact e)
  rw [hsp] at h9
  exact h9
theorem Qdk {n : Nd} (h : n.plainb = true) (hk : n.kind = 61) : n = Qav n.num := by
  obtain ⟨a, b, c, d, e⟩ := n
  simp only at hk
  subst hk
  unfold Nd.plainb at h
  simp at h
  obtain ⟨h1, h2⟩ := h
  obtain ⟨⟨h3, _⟩, h4⟩ := h2
  simp only [Qav]
  subst h4
  subst h1
  subst h3
  rfl
theorem Qih {t : List Nd} (h : t.all Nd.plainb = true) : fill (fun x => [Qav x]) t = t := by
  induction t with
  | nil => rfl
  | cons n t ih =>
    simp only [List.all_cons, Bool.and_eq_true] at h
    have e : fill (fun x => [Qav x]) (n :: t) = Qas (fun x => [Qav x]) n ++ fill (fun x => [Qav x]) t := by simp [fill]
    rw [e, ih h.2]
    unfold Qas
    by_cases hk : n.kind = 61
    · rw [if_pos hk]
      show [Qav n.num] ++ t = n :: t
      rw [← Qdk h.1 hk]; rfl
    · rw [if_neg hk]; rfl
theorem Qhi {θ : Int → List Nd} (hθ : ∀ x, One (θ x)) (t : List Nd) : t.length ≤ (fill θ t).length := by
  induction t with
  | nil => simp
  | cons n t ih =>
    have e : fill θ (n :: t) = Qas θ n ++ fill θ t := by simp [fill]
    rw [e, List.length_append, List.length_cons]
    have : 0 < (Qas θ n).length := by
      unfold Qas
      split
      · exact List.length_pos_iff.2 (hθ _).ne
      · simp
    omega
def Solves (θ : Int → List Nd) (ps : List (List Nd × List Nd)) : Prop := ∀ p ∈ ps, fill θ p.1 = fill θ p.2
structure SolveOk (ps : List (List Nd × List Nd)) (σ : Int → List Nd) : Prop where
  one : ∀ x, One (σ x)
  plain : ∀ x, 1 ≤ x → (σ x).all Nd.plainb = true
  sol : Solves σ ps
  gen : ∀ θ, (∀ x, One (θ x)) → Solves θ ps → ∀ x, fill θ (σ x) = θ x
  low : ∀ x y, σ x = [Qav y] → y ≤ x
theorem Qbu (x : Int) : One [Qav x] := Qmp _ rfl
theorem Qfu {x y : Int} (h : [Qav x] = [Qav y]) : x = y := by
  simp only [List.cons.injEq, and_true, Qav, Nd.mk.injEq, true_and] at h
  exact h
theorem Qwa {n : Nd} (h : n.plainb = true) (hk : n.kind = 61) : 1 ≤ n.num := by
  unfold Nd.plainb at h
  simp only [Bool.and_eq_true, Bool.or_eq_true, beq_iff_eq, decide_eq_true_eq] at h
  obtain ⟨_, h2⟩ := h
  rcases h2 with (h2 | h2) | h2
  · exact h2.1.2
  · omega
  · omega
theorem Qhe {t : List Nd} (h : t.all Nd.plainb = true) {x : Int} (hx : x ∈ metas t) : 1 ≤ x := by
  obtain ⟨n, hn, rfl⟩ := List.mem_map.1 hx
  obtain ⟨h1, h2⟩ := List.mem_filter.1 hn
  exact Qwa (List.all_eq_true.1 h n h1) (by simpa using h2)
theorem Qht {ps : List (List Nd × List Nd)} {σ σ' : Int → List Nd} (h : SolveOk ps σ) (h' : SolveOk ps σ') : ∀ x, 1 ≤ x → σ x = σ' x := by
  intro x hx1
  have h1 : ∀ y ∈ metas (σ x), σ y = [Qav y] := by
    have e : fill σ (σ x) = fill (fun x => [Qav x]) (σ x) := by rw [h.gen σ h.one h.sol x, Qih (h.plain x hx1)]
    exact Qda h.one Qbu (Qaq (h.plain x hx1)) (h.one x) e
  have h2 : ∀ y ∈ metas (σ x), σ' y = [Qav y] := by
    intro y hy
    have e : fill σ (σ' y) = [Qav y] := by rw [h'.gen σ h.one h.sol y, h1 y hy]
    have hl := Qhi h.one (σ' y)
    rw [e] at hl
    have hp := List.length_pos_iff.2 (h'.one y).ne
    simp only [List.length_cons, List.length_nil] at hl
    obtain ⟨n, hn⟩ : ∃ n, σ' y = [n] := List.length_eq_one_iff.1 (by omega)
    have hpl := h'.plain y (Qhe (h.plain x hx1) hy)
    rw [hn] at e hpl
    simp only [List.all_cons, List.all_nil, Bool.and_true] at hpl
    by_cases hk : n.kind = 61
    · have hm := Qdk hpl hk
      obtain ⟨z, hz⟩ : ∃ z, n.num = z := ⟨_, rfl⟩
      rw [hz] at hm
      have ef : fill σ [n] = σ z := by rw [hm]; simp [fill, Qas, Qav]
      rw [ef] at e
      have l1 := h.low z y e
      have l2 := h'.low y z (by rw [hn, hm])
      have e3 : z = y := by omega
      rw [hn, hm, e3]
    · exfalso
      have ef : fill σ [n] = [n] := by simp [fill, Qas, hk]
      rw [ef] at e
      simp only [List.cons.injEq, and_true] at e
      rw [e] at hk
      exact hk rfl
  rw [← h.gen σ' h'.one h'.sol x, Qbi h2, Qih (h.plain x hx1)]
def Occ (ps : List (List Nd × List Nd)) (x : Int) : Prop := ∃ p ∈ ps, x ∈ metas p.1 ∨ x ∈ metas p.2
def Qbf (ps : List (List Nd × List Nd)) : Prop := (ps.map fun p => p.1.length + p.2.length).sum ≤ 20000 ∧ ∀ p ∈ ps, typeb p.1 = true ∧ typeb p.2 = true
def Qpx (ps : List (List Nd × List Nd)) (_R : Bool × Int × List (Int × List Nd) → Prop) (x : Bool × Int × List (Int × List Nd)) : Prop :=
  (x = (false, (-1), []) ∧ (¬ Qbf ps)) ∨
  (∃ (i : Nat), x = (false, (i : Int), []) ∧ (Qbf ps) ∧ (i < ps.length) ∧ (∃ θ, (∀ x, One (θ x)) ∧ Solves θ (ps.take i)) ∧ (∀ θ, (∀ x, One (θ x)) → ¬ Solves θ (ps.take (i + 1)))) ∨
  (∃ (σ : Int → List Nd) (x0 : Int), x = (false, (-1), []) ∧ (Qbf ps) ∧ (SolveOk ps σ) ∧ (Occ ps x0) ∧ (300 < (σ x0).length)) ∨
  (∃ (σ : Int → List Nd) (bs : List (Int × List Nd)), x = (true, 0, bs) ∧ (Qbf ps) ∧ (SolveOk ps σ) ∧ (Up (nums bs)) ∧ (∀ x, x ∈ nums bs ↔ Occ ps x) ∧ (∀ p ∈ bs, p.2 = σ p.1 ∧ p.2.length ≤ 300))
structure SolveRes (ps : List (List Nd × List Nd)) (ok0 : Bool) (at0 : Int) (bs0 : List (Int × List Nd)) : Prop where
  of ::
  lfp : Lfp (Qpx ps) (ok0, at0, bs0)
theorem SolveRes.grows (ps : List (List Nd × List Nd)) : Qkq (Qpx ps) := by
  rintro R R' x h0 (⟨e0, h⟩ | ⟨i, e0, h1, h2, h3, h4⟩ | ⟨σ, x0, e0, h1, h2, h3, h4⟩ | ⟨σ, bs, e0, h1, h2, h3, h4, h5⟩)
  · exact .inl ⟨e0, h⟩
  · exact .inr (.inl ⟨i, e0, h1, h2, h3, h4⟩)
  · exact .inr (.inr (.inl ⟨σ, x0, e0, h1, h2, h3, h4⟩))
  · exact .inr (.inr (.inr (⟨σ, bs, e0, h1, h2, h3, h4, h5⟩)))
theorem SolveRes.bad {ps : List (List Nd × List Nd)} (h : ¬ Qbf ps) : SolveRes ps false ((-1)) ([]) :=
  ⟨Lfp.fold (SolveRes.grows ps) (.inl ⟨rfl, h⟩)⟩
theorem SolveRes.no {ps : List (List Nd × List Nd)} (i : Nat) (h1 : Qbf ps) (h2 : i < ps.length) (h3 : ∃ θ, (∀ x, One (θ x)) ∧ Solves θ (ps.take i)) (h4 : ∀ θ, (∀ x, One (θ x)) → ¬ Solves θ (ps.take (i + 1))) : SolveRes ps false ((i : Int)) ([]) :=
  ⟨Lfp.fold (SolveRes.grows ps) (.inr (.inl ⟨i, rfl, h1, h2, h3, h4⟩))⟩
theorem SolveRes.large {ps : List (List Nd × List Nd)} (σ : Int → List Nd) (x0 : Int) (h1 : Qbf ps) (h2 : SolveOk ps σ) (h3 : Occ ps x0) (h4 : 300 < (σ x0).length) : SolveRes ps false ((-1)) ([]) :=
  ⟨Lfp.fold (SolveRes.grows ps) (.inr (.inr (.inl ⟨σ, x0, rfl, h1, h2, h3, h4⟩)))⟩
theorem SolveRes.ok {ps : List (List Nd × List Nd)} (σ : Int → List Nd) (bs : List (Int × List Nd)) (h1 : Qbf ps) (h2 : SolveOk ps σ) (h3 : Up (nums bs)) (h4 : ∀ x, x ∈ nums bs ↔ Occ ps x) (h5 : ∀ p ∈ bs, p.2 = σ p.1 ∧ p.2.length ≤ 300) : SolveRes ps true 0 bs :=
  ⟨Lfp.fold (SolveRes.grows ps) (.inr (.inr (.inr (⟨σ, bs, rfl, h1, h2, h3, h4, h5⟩))))⟩
theorem SolveRes.elim {ps : List (List Nd × List Nd)} {motive : ∀ ok0 at0 bs0, SolveRes ps ok0 at0 bs0 → Prop}
    (bad : ∀ (h : ¬ Qbf ps), motive false ((-1)) ([]) (SolveRes.bad h))
    (no : ∀ (i : Nat) (h1 : Qbf ps) (h2 : i < ps.length) (h3 : ∃ θ, (∀ x, One (θ x)) ∧ Solves θ (ps.take i)) (h4 : ∀ θ, (∀ x, One (θ x)) → ¬ Solves θ (ps.take (i + 1))), motive false ((i : Int)) ([]) (SolveRes.no i h1 h2 h3 h4))
    (large : ∀ (σ : Int → List Nd) (x0 : Int) (h1 : Qbf ps) (h2 : SolveOk ps σ) (h3 : Occ ps x0) (h4 : 300 < (σ x0).length), motive false ((-1)) ([]) (SolveRes.large σ x0 h1 h2 h3 h4))
    (ok : ∀ (σ : Int → List Nd) (bs : List (Int × List Nd)) (h1 : Qbf ps) (h2 : SolveOk ps σ) (h3 : Up (nums bs)) (h4 : ∀ x, x ∈ nums bs ↔ Occ ps x) (h5 : ∀ p ∈ bs, p.2 = σ p.1 ∧ p.2.length ≤ 300), motive true 0 bs (SolveRes.ok σ bs h1 h2 h3 h4 h5))
    {ok0 : Bool} {at0 : Int} {bs0 : List (Int × List Nd)} (h : SolveRes ps ok0 at0 bs0) : motive ok0 at0 bs0 h := by
  have key : ∀ h, motive (ok0, at0, bs0).1 (ok0, at0, bs0).2.1 (ok0, at0, bs0).2.2 h := Lfp.ind (SolveRes.grows ps) (p := fun x => ∀ h, motive x.1 x.2.1 x.2.2 h) (by
    rintro x (⟨e0, h⟩ | ⟨i, e0, h1, h2, h3, h4⟩ | ⟨σ, x0, e0, h1, h2, h3, h4⟩ | ⟨σ, bs, e0, h1, h2, h3, h4, h5⟩) h9
    · subst e0; exact bad h
    · subst e0; exact no i h1 h2 h3 h4
    · subst e0; exact large σ x0 h1 h2 h3 h4
    · subst e0; exact ok σ bs h1 h2 h3 h4 h5) h.lfp
  exact key h
theorem SolveRes.inv {ps : List (List Nd × List Nd)} {motive : ∀ ok0 at0 bs0, SolveRes ps ok0 at0 bs0 → Prop}
    (bad : ∀ (h : ¬ Qbf ps), motive false ((-1)) ([]) (SolveRes.bad h))
    (no : ∀ (i : Nat) (h1 : Qbf ps) (h2 : i < ps.length) (h3 : ∃ θ, (∀ x, One (θ x)) ∧ Solves θ (ps.take i)) (h4 : ∀ θ, (∀ x, One (θ x)) → ¬ Solves θ (ps.take (i + 1))), motive false ((i : Int)) ([]) (SolveRes.no i h1 h2 h3 h4))
    (large : ∀ (σ : Int → List Nd) (x0 : Int) (h1 : Qbf ps) (h2 : SolveOk ps σ) (h3 : Occ ps x0) (h4 : 300 < (σ x0).length), motive false ((-1)) ([]) (SolveRes.large σ x0 h1 h2 h3 h4))
    (ok : ∀ (σ : Int → List Nd) (bs : List (Int × List Nd)) (h1 : Qbf ps) (h2 : SolveOk ps σ) (h3 : Up (nums bs)) (h4 : ∀ x, x ∈ nums bs ↔ Occ ps x) (h5 : ∀ p ∈ bs, p.2 = σ p.1 ∧ p.2.length ≤ 300), motive true 0 bs (SolveRes.ok σ bs h1 h2 h3 h4 h5))
    {ok0 : Bool} {at0 : Int} {bs0 : List (Int × List Nd)} (h : SolveRes ps ok0 at0 bs0) : motive ok0 at0 bs0 h := by
  induction h using SolveRes.elim with
  | bad h => exact bad h
  | no i h1 h2 h3 h4 => exact no i h1 h2 h3 h4
  | large σ x0 h1 h2 h3 h4 => exact large σ x0 h1 h2 h3 h4
  | ok σ bs h1 h2 h3 h4 h5 => exact ok σ bs h1 h2 h3 h4 h5
theorem Qal {t : List Nd} (h : typeb t = true) : t.all Nd.plainb = true := by
  simp only [typeb, Bool.and_eq_true, decide_eq_true_eq] at h
  exact h.2
theorem Qhz {ps : List (List Nd × List Nd)} (hv : Qbf ps) {x : Int} (h : Occ ps x) : 1 ≤ x := by
  obtain ⟨p, hp, h⟩ := h
  obtain ⟨h1, h2⟩ := hv.2 p hp
  rcases h with h | h
  · exact Qhe (Qal h1) h
  · exact Qhe (Qal h2) h
theorem Solves.take {θ : Int → List Nd} {ps : List (List Nd × List Nd)} (h : Solves θ ps) (i : Nat) : Solves θ (ps.take i) := fun p hp => h p (List.mem_of_mem_take hp)
theorem Solves.le {θ : Int → List Nd} {ps : List (List Nd × List Nd)} {i j : Nat} (h : Solves θ (ps.take j)) (hij : i ≤ j) : Solves θ (ps.take i) := by
  have := h.take i
  rw [List.take_take, Nat.min_eq_left hij] at this
  exact this
theorem Jdu {bs bs' : List (Int × List Nd)} {σ : Int → List Nd} (hn : nums bs = nums bs') (h : ∀ p ∈ bs, p.2 = σ p.1) (h' : ∀ p ∈ bs', p.2 = σ p.1) : bs = bs' := by
  have key : ∀ (cs : List (Int × List Nd)), (∀ p ∈ cs, p.2 = σ p.1) → cs = (nums cs).map (fun x => (x, σ x)) := by
    intro cs
    induction cs with
    | nil => intro _; rfl
    | cons c cs ih =>
      intro hc
      simp only [nums, List.map_cons]
      rw [← hc c (by simp), ← nums, ← ih (fun p hp => hc p (by simp [hp]))]
  rw [key bs h, key bs' h', hn]
theorem Qks {ps : List (List Nd × List Nd)} {a a' : Bool} {i i' : Int} {bs bs' : List (Int × List Nd)} (h : SolveRes ps a i bs) (h' : SolveRes ps a' i' bs') : a = a' ∧ i = i' ∧ bs = bs' := by
  have noNo : ∀ {i j : Nat}, (∃ θ, (∀ x, One (θ x)) ∧ Solves θ (ps.take j)) → (∀ θ, (∀ x, One (θ x)) → ¬ Solves θ (ps.take (i + 1))) → j ≤ i := by
    intro i j ⟨θ, h1, h2⟩ h3
    rcases Nat.lt_or_ge i j with h4 | h4
    · exact absurd (h2.le h4) (h3 θ h1)
    · exact h4
  have noOk : ∀ {i : Nat} {σ : Int → List Nd}, SolveOk ps σ → (∀ θ, (∀ x, One (θ x)) → ¬ Solves θ (ps.take (i + 1))) → False := fun h1 h2 => h2 _ h1.one (h1.sol.take _)
  cases h using SolveRes.inv with
  | bad h1 =>
    cases h' using SolveRes.inv with
    | bad _ => exact ⟨rfl, rfl, rfl⟩
    | no _ h2 => exact absurd h2 h1
    | large _ _ h2 => exact absurd h2 h1
    | ok _ _ h2 => exact absurd h2 h1
  | no i h1 h2 h3 h4 =>
    cases h' using SolveRes.inv with
    | bad h5 => exact absurd h1 h5
    | no j _ _ h6 h7 =>
      have e1 := noNo h3 h7
      have e2 := noNo h6 h4
      exact ⟨rfl, by rw [show i = j by omega], rfl⟩
    | large _ _ _ h6 => exact (noOk h6 h4).elim
    | ok _ _ _ h6 => exact (noOk h6 h4).elim
  | large σ x h1 h2 h3 h4 =>
    cases h' using SolveRes.inv with
    | bad h5 => exact absurd h1 h5
    | no _ _ _ _ h7 => exact (noOk h2 h7).elim
    | large _ _ _ _ => exact ⟨rfl, rfl, rfl⟩
    | ok σ' _ _ h6 _ h8 h9 =>
      exfalso
      obtain ⟨p, hp, e⟩ := List.mem_map.1 ((h8 x).2 h3)
      have := h9 p hp
      rw [this.1, e, ← Qht h2 h6 x (Qhz h1 h3)] at this
      omega
  | ok σ _ h1 h2 h3 h4 h5 =>
    cases h' using SolveRes.inv with
    | bad h6 => exact absurd h1 h6
    | no _ _ _ _ h7 => exact (noOk h2 h7).elim
    | large σ' x _ h6 h7 h8 =>
      exfalso
      obtain ⟨p, hp, e⟩ := List.mem_map.1 ((h4 x).2 h7)
      have := h5 p hp
      rw [this.1, e, Qht h2 h6 x (Qhz h1 h7)] at this
      omega
    | ok σ' _ _ h6 h7 h8 h9 =>
      refine ⟨rfl, rfl, ?_⟩
      refine Jdu (σ := σ) (Jbn h3 h7 (fun x => (h4 x).trans (h8 x).symm)) (fun p hp => (h5 p hp).1) ?_
      intro p hp
      rw [(h9 p hp).1, Qht h2 h6 p.1 (Qhz h1 ((h8 p.1).1 (List.mem_map.2 ⟨p, hp, rfl⟩)))]
end Go.Proofs.YtoiiibplkhedcaaGreatDoor
