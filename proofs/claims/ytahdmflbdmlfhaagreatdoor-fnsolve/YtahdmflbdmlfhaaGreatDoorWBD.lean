import Derived.Test.YtahdmflbdmlfhaaGreatDoorWBC
import Derived.Test.YtahdmflbdmlfhaaGreatDoorWAJ
import Derived.Test.YtahdmflbdmlfhaaGreatDoorWAF
namespace Go.Proofs.YtahdmflbdmlfhaaGreatDoor
open Go.RowKit

/-! What a store was at a time. -/

/-- What a cell was tied to at a time. -/
def tdAt (dec : ∀ p : Prop, Decidable p) (X : Nat → Prop) (f : Nat → CC) (t : Int) (b : Nat) : Option Nat := @ite _ (X b ∧ (f b).si ≤ t) (dec _) (f b).td none

/-- What a cell said at a time. -/
def gcAt (K : (Option Addr × Nat × Nat) → List Nat) (f : Nat → CC) (t : Int) : Nat → GC := fun i => ⟨(f i).nd, K (f i).ks, decide (t < (f i).told) || (f i).open?⟩

theorem tdAt_some {X : Nat → Prop} {f : Nat → CC} {t : Int} {b j : Nat} : tdAt Classical.propDecidable X f t b = some j ↔ X b ∧ (f b).si ≤ t ∧ (f b).td = some j := by
  unfold tdAt
  by_cases h : X b ∧ (f b).si ≤ t
  · rw [if_pos h]
    exact ⟨fun e => ⟨h.1, h.2, e⟩, fun e => e.2.2⟩
  · rw [if_neg h]
    exact ⟨(fun e => by cases e), fun e => absurd ⟨e.1, e.2.1⟩ h⟩

theorem tdAt_none {X : Nat → Prop} {f : Nat → CC} {t : Int} {b : Nat} : tdAt Classical.propDecidable X f t b = none ↔ (X b → (f b).si ≤ t → (f b).td = none) := by
  unfold tdAt
  by_cases h : X b ∧ (f b).si ≤ t
  · rw [if_pos h]
    exact ⟨fun e _ _ => e, fun e => e h.1 h.2⟩
  · rw [if_neg h]
    exact ⟨fun _ h1 h2 => absurd ⟨h1, h2⟩ h, fun _ => rfl⟩

/-- What holds of a store's times; all its unknowns may be told. -/
structure Hist (X : Nat → Prop) (f : Nat → CC) (lk : Nat → Option Nat) (now : Int) : Prop where
  now0 : 0 ≤ now
  hd : SameHd lk (tdAt Classical.propDecidable X f now)
  acyc : ∃ d, Acyc (tdAt Classical.propDecidable X f now) d
  inX : ∀ b j, X b → (f b).td = some j → X j
  si : ∀ b j, X b → (f b).td = some j → (f b).si ≤ now
  told : ∀ b, X b → 0 ≤ (f b).told ∧ (f b).told ≤ now
  open' : ∀ b, X b → (f b).nd.kind = 61 → (f b).lv = 1

theorem Hist.isOpen {X : Nat → Prop} {f : Nat → CC} {lk : Nat → Option Nat} {now : Int} (h : Hist X f lk now) {b : Nat} (hb : X b) : (f b).open? = decide ((f b).nd.kind = 61) := by
  unfold CC.open?
  by_cases hk : (f b).nd.kind = 61
  · simp [hk, h.open' b hb hk]
  · simp [hk]

/-- Where a tie leads to another head. -/
theorem hd_tied {lk : Nat → Option Nat} {h q : Nat} (hh : lk h = none) (hq : lk q = none) (hne : h ≠ q) (i r : Nat) : Hd (tied lk h q) i r ↔ (Hd lk i r ∧ r ≠ q) ∨ (Hd lk i q ∧ r = h) := by
  have hth : tied lk h q h = none := by simp [tied, hne, hh]
  constructor
  · intro H
    induction H using Hd.elim with
    | @root i e =>
      have hiq : i ≠ q := fun e9 => by subst e9; simp [tied] at e
      simp only [tied, hiq, if_false] at e
      exact .inl ⟨.root e, hiq⟩
    | @step i j r e _ ih =>
      by_cases hiq : i = q
      · subst hiq
        simp only [tied, if_true, Option.some.injEq] at e
        subst e
        rcases ih with ⟨h1, h2⟩ | ⟨h1, h2⟩
        · exact .inr ⟨.root hq, h1.fun (.root hh)⟩
        · exact absurd ((Hd.root hh).fun h1) hne
      · simp only [tied, hiq, if_false] at e
        rcases ih with ⟨h1, h2⟩ | ⟨h1, h2⟩
        · exact .inl ⟨.step e h1, h2⟩
        · exact .inr ⟨.step e h1, h2⟩
  · have key : ∀ {i r}, Hd lk i r → r ≠ q → Hd (tied lk h q) i r := by
      intro i r H
      induction H using Hd.elim with
      | @root i e => exact fun hr => .root (by simp [tied, hr, e])
      | @step i j r e _ ih =>
        intro hr
        have hiq : i ≠ q := fun e9 => by subst e9; rw [hq] at e; cases e
        exact .step (by simp [tied, hiq, e]) (ih hr)
    have key2 : ∀ {i r}, Hd lk i r → r = q → Hd (tied lk h q) i h := by
      intro i r H
      induction H using Hd.elim with
      | @root i e => exact fun hr => by subst hr; exact .step (j := h) (by simp [tied]) (.root hth)
      | @step i j r e _ ih =>
        intro hr
        have hiq : i ≠ q := fun e9 => by subst e9; rw [hq] at e; cases e
        exact .step (by simp [tied, hiq, e]) (ih hr)
    rintro (⟨h1, h2⟩ | ⟨h1, rfl⟩)
    · exact key h1 h2
    · exact key2 h1 rfl

theorem SameHd.tied {lk lk' : Nat → Option Nat} (hs : SameHd lk lk') {h q : Nat} (hh : lk h = none) (hq : lk q = none) (hne : h ≠ q) : SameHd (tied lk h q) (tied lk' h q) := by
  have hh' : lk' h = none := (root_iff lk' h).2 ((hs h h).1 ((root_iff lk h).1 hh))
  have hq' : lk' q = none := (root_iff lk' q).2 ((hs q q).1 ((root_iff lk q).1 hq))
  intro i r
  rw [hd_tied hh hq hne, hd_tied hh' hq' hne, hs i r, hs i q]

theorem SameHd.rootN {lk lk' : Nat → Option Nat} (hs : SameHd lk lk') {i : Nat} (h : lk i = none) : lk' i = none := (root_iff lk' i).2 ((hs i i).1 ((root_iff lk i).1 h))

section
variable {X : Nat → Prop} {f : Nat → CC} {lk : Nat → Option Nat} {now : Int}

theorem Hist.tdNone (H : Hist X f lk now) {b : Nat} (hb : X b) (hl : lk b = none) : (f b).td = none := by
  have h9 := H.hd.rootN hl
  cases e : (f b).td with
  | none => rfl
  | some j => rw [tdAt_none] at h9; have := h9 hb (H.si b j hb e); rw [e] at this; cases this

theorem tdAt_tied {a h q : Nat} {r : Int} (hXq : X q) (hhq : h ≠ q) (tdq : (f q).td = none) (t : Int) : (t < now → tdAt Classical.propDecidable X (tiedF f a h q r now) t = tdAt Classical.propDecidable X f t) ∧ (now ≤ t → tdAt Classical.propDecidable X (tiedF f a h q r now) t = tied (tdAt Classical.propDecidable X f t) h q) := by
  have e1 : ∀ i, i ≠ q → ((tiedF f a h q r now i).td = (f i).td ∧ (tiedF f a h q r now i).si = (f i).si) := by
    intro i hi
    unfold tiedF
    rw [if_neg hi]
    split
    · rename_i e
      subst e
      split <;> exact ⟨rfl, rfl⟩
    · exact ⟨rfl, rfl⟩
  have e2 : (tiedF f a h q r now q).td = some h ∧ (tiedF f a h q r now q).si = now := by
    unfold tiedF
    rw [if_pos rfl]
    exact ⟨rfl, rfl⟩
  refine ⟨fun ht => ?_, fun ht => ?_⟩
  · funext i
    by_cases hi : i = q
    · subst hi
      have h1 : tdAt Classical.propDecidable X (tiedF f a h i r now) t i = none := tdAt_none.2 (fun _ h9 => by rw [e2.2] at h9; omega)
      have h2 : tdAt Classical.propDecidable X f t i = none := tdAt_none.2 (fun _ _ => tdq)
      rw [h1, h2]
    · unfold tdAt
      rw [(e1 i hi).1, (e1 i hi).2]
  · funext i
    by_cases hi : i = q
    · subst hi
      have h1 : tdAt Classical.propDecidable X (tiedF f a h i r now) t i = some h := tdAt_some.2 ⟨hXq, by rw [e2.2]; exact ht, e2.1⟩
      rw [h1]
      simp [tied]
    · simp only [tied, hi, if_false]
      unfold tdAt
      rw [(e1 i hi).1, (e1 i hi).2]

theorem Hist.step (H : Hist X f lk now) {lk2 : Nat → Option Nat} {a b h q : Nat} {r : Int} (hXa : X a) (hXb : X b) (hab : a ≠ b) (ha : lk a = none) (hb : lk b = none) (hq : h = a ∧ q = b ∨ h = b ∧ q = a) (hs : SameHd (tied lk h q) lk2) : Hist X (tiedF f a h q r now) lk2 now := by
  have hhq : h ≠ q := by
    rcases hq with ⟨rfl, rfl⟩ | ⟨rfl, rfl⟩
    · exact hab
    · exact fun e => hab e.symm
  have hlq : lk q = none := by rcases hq with ⟨rfl, rfl⟩ | ⟨rfl, rfl⟩ <;> assumption
  have hlh : lk h = none := by rcases hq with ⟨rfl, rfl⟩ | ⟨rfl, rfl⟩ <;> assumption
  have hXq : X q := by rcases hq with ⟨rfl, rfl⟩ | ⟨rfl, rfl⟩ <;> assumption
  have hXh : X h := by rcases hq with ⟨rfl, rfl⟩ | ⟨rfl, rfl⟩ <;> assumption
  have ht := (tdAt_tied (f := f) (now := now) (a := a) (r := r) hXq hhq (H.tdNone hXq hlq) now).2 (Int.le_refl _)
  refine ⟨H.now0, ?_, ?_, fun i j hi e => ?_, fun i j hi e => ?_, fun i hi => ?_, fun i hi e => ?_⟩
  · rw [ht]
    exact hs.symm.trans (H.hd.tied hlh hlq hhq)
  · rw [ht]
    obtain ⟨d, hd⟩ := H.acyc
    exact acyc_tied hd (H.hd.rootN hlh) (H.hd.rootN hlq) hhq
  · by_cases hiq : i = q
    · subst hiq
      simp only [tiedF, if_true, Option.some.injEq] at e
      rw [← e]; exact hXh
    · unfold tiedF at e
      rw [if_neg hiq] at e
      split at e
      · rename_i e9
        subst e9
        split at e <;> exact H.inX i j hi e
      · exact H.inX i j hi e
  · by_cases hiq : i = q
    · subst hiq
      simp [tiedF]
    · unfold tiedF at e ⊢
      rw [if_neg hiq] at e ⊢
      split at e
      · rename_i e9
        subst e9
        simp only [if_true]
        split at e
        · rename_i hk; rw [if_pos hk]; exact H.si i j hi e
        · rename_i hk; rw [if_neg hk]; exact H.si i j hi e
      · rename_i hih
        rw [if_neg hih]
        exact H.si i j hi e
  · unfold tiedF
    split
    · rename_i e9; subst e9; exact H.told i hi
    · split
      · rename_i e9
        subst e9
        split
        · exact ⟨H.now0, Int.le_refl _⟩
        · exact H.told i hi
      · exact H.told i hi
  · unfold tiedF at e ⊢
    by_cases hiq : i = q
    · subst hiq
      rw [if_pos rfl] at e ⊢
      exact H.open' i hi e
    · rw [if_neg hiq] at e ⊢
      by_cases hih : i = h
      · subst hih
        rw [if_pos rfl] at e ⊢
        by_cases hk : (f i).nd.kind = 61
        · rw [if_pos hk] at e ⊢
          exact H.open' a hXa e
        · rw [if_neg hk] at e ⊢
          exact H.open' i hi e
      · rw [if_neg hih] at e ⊢
        exact H.open' i hi e

/-- What was so at an earlier time stays as it was. -/
theorem satAt_step (K : (Option Addr × Nat × Nat) → List Nat) (H : Hist X f lk now) {a b h q : Nat} {r : Int} (hXa : X a) (hXb : X b) (hab : a ≠ b) (ha : lk a = none) (hb : lk b = none) (hq : h = a ∧ q = b ∨ h = b ∧ q = a) (t : Int) (ht : t < now) (θ : Nat → DT) : SatC X (gcAt K (tiedF f a h q r now) t) (tdAt Classical.propDecidable X (tiedF f a h q r now) t) θ ↔ SatC X (gcAt K f t) (tdAt Classical.propDecidable X f t) θ := by
  have hhq : h ≠ q := by
    rcases hq with ⟨rfl, rfl⟩ | ⟨rfl, rfl⟩
    · exact hab
    · exact fun e => hab e.symm
  have hlq : lk q = none := by rcases hq with ⟨rfl, rfl⟩ | ⟨rfl, rfl⟩ <;> assumption
  have hXq : X q := by rcases hq with ⟨rfl, rfl⟩ | ⟨rfl, rfl⟩ <;> assumption
  have hXh : X h := by rcases hq with ⟨rfl, rfl⟩ | ⟨rfl, rfl⟩ <;> assumption
  rw [(tdAt_tied (f := f) (now := now) (a := a) (r := r) hXq hhq (H.tdNone hXq hlq) t).1 ht]
  have key : ∀ i, X i → (gcAt K (tiedF f a h q r now) t i = gcAt K f t i) ∨ ((gcAt K (tiedF f a h q r now) t i).op = true ∧ (gcAt K f t i).op = true) := by
    intro i hi
    unfold gcAt tiedF
    by_cases hiq : i = q
    · subst hiq
      left
      simp [CC.open?]
    · by_cases hih : i = h
      · subst hih
        by_cases hk : (f i).nd.kind = 61
        · right
          have h1 := H.isOpen hi
          simp only [hk, decide_true] at h1
          simp [hiq, hk, h1, ht]
        · left
          simp [hiq, hk, CC.open?]
      · left
        simp [hiq, hih]
  constructor
  · rintro ⟨h1, h2⟩
    refine ⟨h1, fun i hi hl ho => ?_⟩
    rcases key i hi with e | ⟨e1, e2⟩
    · rw [← e] at ho ⊢
      exact h2 i hi hl ho
    · rw [e2] at ho; cases ho
  · rintro ⟨h1, h2⟩
    refine ⟨h1, fun i hi hl ho => ?_⟩
    rcases key i hi with e | ⟨e1, e2⟩
    · rw [e] at ho ⊢
      exact h2 i hi hl ho
    · rw [e1] at ho; cases ho

/-- Now it is as the store says. -/
theorem Hist.satNow (K : (Option Addr × Nat × Nat) → List Nat) (H : Hist X f lk now) {d : Nat → Nat} (ha : Acyc lk d) (θ : Nat → DT) : SatC X (gcAt K f now) (tdAt Classical.propDecidable X f now) θ ↔ SatC X (gc K f) lk θ := by
  obtain ⟨d', hd'⟩ := H.acyc
  rw [H.hd.sat (g := gcAt K f now) ha hd']
  have key : ∀ i, X i → gcAt K f now i = gc K f i := by
    intro i hi
    have := (H.told i hi).2
    unfold gcAt gc
    have h9 : decide (now < (f i).told) = false := decide_eq_false (by omega)
    rw [h9, Bool.false_or]
  constructor
  · rintro ⟨h1, h2⟩
    refine ⟨h1, fun i hi hl ho => ?_⟩
    rw [← key i hi] at ho ⊢
    exact h2 i hi hl ho
  · rintro ⟨h1, h2⟩
    refine ⟨h1, fun i hi hl ho => ?_⟩
    rw [key i hi] at ho ⊢
    exact h2 i hi hl ho

theorem Hist.short (H : Hist X f lk now) {lk2 : Nat → Option Nat} (hs : SameHd lk lk2) : Hist X f lk2 now :=
  { H with hd := hs.symm.trans H.hd }

theorem Ties.hist {f' : Nat → CC} {lk' : Nat → Option Nat} (h : Ties X now f lk f' lk') (H : Hist X f lk now) : Hist X f' lk' now ∧ ∀ K t θ, t < now → (SatC X (gcAt K f' t) (tdAt Classical.propDecidable X f' t) θ ↔ SatC X (gcAt K f t) (tdAt Classical.propDecidable X f t) θ) := by
  induction h using Ties.elim with
  | same hs => exact ⟨H.short hs, fun _ _ _ _ => Iff.rfl⟩
  | step _ hXa hXb hab ha hb hq _ hs ih =>
    obtain ⟨h1, h2⟩ := ih
    exact ⟨h1.step hXa hXb hab ha hb hq hs, fun K t θ ht => (satAt_step K h1 hXa hXb hab ha hb hq t ht θ).trans (h2 K t θ ht)⟩

/-- The numbers of open heads: the lowest of all unknowns that have them. -/
structure NumOk (X : Nat → Prop) (U : Int → Option Nat) (f : Nat → CC) (lk : Nat → Option Nat) : Prop where
  low : ∀ x b r, U x = some b → Hd lk b r → (f r).open? = true → (f r).nd.num ≤ x
  has : ∀ r, X r → lk r = none → (f r).open? = true → ∃ b, U (f r).nd.num = some b ∧ Hd lk b r

theorem NumOk.short {U : Int → Option Nat} (H : NumOk X U f lk) {lk2 : Nat → Option Nat} (hs : SameHd lk lk2) : NumOk X U f lk2 := by
  refine ⟨fun x b r hu hr ho => H.low x b r hu ((hs b r).2 hr) ho, fun r hX hl ho => ?_⟩
  obtain ⟨b, h1, h2⟩ := H.has r hX (hs.symm.rootN hl) ho
  exact ⟨b, h1, (hs b r).1 h2⟩

theorem open_core {c d : CC} (h : c.core = d.core) : c.open? = d.open? ∧ c.nd = d.nd := by
  obtain ⟨n1, n2, n3⟩ := core_parts h
  exact ⟨by simp [CC.open?, n1, n3], n1⟩

theorem NumOk.step {U : Int → Option Nat} (hU : NumOk X U f lk) (H : Hist X f lk now) {lk2 : Nat → Option Nat} {a b h q : Nat} {r : Int} (hXa : X a) (hXb : X b) (hab : a ≠ b) (ha : lk a = none) (hb : lk b = none) (hq : h = a ∧ q = b ∨ h = b ∧ q = a) (hm : MayTie (f a) (f b)) (hs : SameHd (tied lk h q) lk2) : NumOk X U (tiedF f a h q r now) lk2 := by
  have hhq : h ≠ q := by
    rcases hq with ⟨rfl, rfl⟩ | ⟨rfl, rfl⟩
    · exact hab
    · exact fun e => hab e.symm
  have hlq : lk q = none := by rcases hq with ⟨rfl, rfl⟩ | ⟨rfl, rfl⟩ <;> assumption
  have hlh : lk h = none := by rcases hq with ⟨rfl, rfl⟩ | ⟨rfl, rfl⟩ <;> assumption
  have hXh : X h := by rcases hq with ⟨rfl, rfl⟩ | ⟨rfl, rfl⟩ <;> assumption
  have hop : ∀ i, i ≠ h → (tiedF f a h q r now i).open? = (f i).open? ∧ (tiedF f a h q r now i).nd = (f i).nd := fun i hi => open_core (tiedF_rest f r now i hi)
  have hoh : (tiedF f a h q r now h).open? = true → (f a).open? = true ∧ (f b).open? = true ∧ (tiedF f a h q r now h).nd = (f a).nd := by
    intro ho
    have hc := tiedF_head f (a := a) hhq r now
    have ha61 := H.isOpen hXa
    have hb61 := H.isOpen hXb
    have hh61 := H.isOpen hXh
    by_cases hk : (f h).nd.kind = 61
    · rw [if_pos hk] at hc
      have hc := open_core hc
      rw [hc.1] at ho
      refine ⟨ho, ?_, hc.2⟩
      rcases hm with ⟨h1, _⟩ | ⟨h1, _⟩
      · exact h1
      · rw [h1] at ho; cases ho
    · rw [if_neg hk] at hc
      have hc := open_core hc
      rw [hc.1, hh61] at ho
      simp [hk] at ho
  refine NumOk.short ⟨fun x c r' hu hr ho => ?_, fun r' hX hl ho => ?_⟩ hs
  · rw [hd_tied hlh hlq hhq] at hr
    by_cases hrh : r' = h
    · subst hrh
      obtain ⟨o1, o2, o3⟩ := hoh ho
      rw [o3]
      have hle : (f a).nd.num ≤ (f b).nd.num := by
        rcases hm with ⟨_, h2⟩ | ⟨h1, _⟩
        · exact h2 o1
        · rw [h1] at o1; cases o1
      have hab' : Hd lk c a ∨ Hd lk c b := by
        rcases hq with ⟨rfl, rfl⟩ | ⟨rfl, rfl⟩
        · rcases hr with ⟨h1, _⟩ | ⟨h1, _⟩
          · exact .inl h1
          · exact .inr h1
        · rcases hr with ⟨h1, _⟩ | ⟨h1, _⟩
          · exact .inr h1
          · exact .inl h1
      rcases hab' with h1 | h1
      · exact hU.low x c a hu h1 o1
      · have := hU.low x c b hu h1 o2
        omega
    · rcases hr with ⟨h1, h2⟩ | ⟨_, h2⟩
      · rw [(hop r' hrh).1] at ho
        rw [(hop r' hrh).2]
        exact hU.low x c r' hu h1 ho
      · exact absurd h2 hrh
  · have hrq : r' ≠ q := fun e9 => by subst e9; simp [tied] at hl
    simp only [tied, hrq, if_false] at hl
    by_cases hrh : r' = h
    · subst hrh
      obtain ⟨o1, o2, o3⟩ := hoh ho
      obtain ⟨c, c1, c2⟩ := hU.has a hXa ha o1
      refine ⟨c, by rw [o3]; exact c1, ?_⟩
      rw [hd_tied hlh hlq hhq]
      rcases hq with ⟨rfl, rfl⟩ | ⟨rfl, rfl⟩
      · exact .inl ⟨c2, hab⟩
      · exact .inr ⟨c2, rfl⟩
    · rw [(hop r' hrh).1] at ho
      obtain ⟨c, c1, c2⟩ := hU.has r' hX hl ho
      refine ⟨c, by rw [(hop r' hrh).2]; exact c1, ?_⟩
      rw [hd_tied hlh hlq hhq]
      exact .inl ⟨c2, hrq⟩

theorem Ties.num {U : Int → Option Nat} {f' : Nat → CC} {lk' : Nat → Option Nat} (h : Ties X now f lk f' lk') (H : Hist X f lk now) (hU : NumOk X U f lk) : NumOk X U f' lk' := by
  induction h using Ties.elim with
  | same hs => exact hU.short hs
  | step h1 hXa hXb hab ha hb hq hm hs ih => exact ih.step (h1.hist H).1 hXa hXb hab ha hb hq hm hs

end

end Go.Proofs.YtahdmflbdmlfhaaGreatDoor

namespace Go.Proofs.YtahdmflbdmlfhaaGreatDoor

/-- What a store says, read as types without end: hd tells each cell's head. -/
def val (g : Nat → GC) (hd : Nat → Nat) : List Nat → Nat → Option Nd
  | [], i => some (g (hd i)).nd
  | j :: p, i => match (g (hd i)).ks[j]? with
    | some k => val g hd p k
    | none => none

theorem val_con (g : Nat → GC) (hd : Nat → Nat) (i : Nat) : (fun p => val g hd p i) = con (g (hd i)).nd ((g (hd i)).ks.map fun k => fun p => val g hd p k) := by
  funext p
  cases p with
  | nil => rfl
  | cons j p =>
    simp only [val, con, List.getElem?_map]
    cases (g (hd i)).ks[j]? <;> rfl

/-- It agrees with what the cells say: a store that was equated to its end has a solution. -/
theorem sat_val {X : Nat → Prop} {g : Nat → GC} {lk : Nat → Option Nat} {hd : Nat → Nat} (h1 : ∀ i j, lk i = some j → hd i = hd j) (h2 : ∀ i, lk i = none → hd i = i) : SatC X g lk (fun i p => val g hd p i) := by
  refine ⟨fun i j e => ?_, fun i _ hl _ => ?_⟩
  · show (fun p => val g hd p i) = fun p => val g hd p j
    rw [val_con, val_con, h1 i j e]
  · have := val_con g hd i
    rw [h2 i hl] at this
    exact this

/-- A type without end that has one, written out behind its kids. -/
def Fin'F (R : DT × List Nd → Prop) (x : DT × List Nd) : Prop :=
  (∃ (n : Nd) (ds : List DT) (xss : List (List Nd)), x = (con n ds, xss.flatten ++ [n]) ∧ (ds.length = xss.length) ∧ (∀ i (h1 : i < ds.length) (h2 : i < xss.length), R (ds[i], xss[i])))

structure Fin' (d : DT) (xs : List Nd) : Prop where
  of ::
  lfp : Lfp (Fin'F) (d, xs)

theorem Fin'.grows : Grows (Fin'F) := by
  rintro R R' x h0 ⟨n, ds, xss, e0, hl, h⟩
  · exact ⟨n, ds, xss, e0, hl, fun i h1 h2 => h0 _ (h i h1 h2)⟩

theorem Fin'.mk (n : Nd) (ds : List DT) (xss : List (List Nd)) (hl : ds.length = xss.length) (h : ∀ i (h1 : i < ds.length) (h2 : i < xss.length), Fin' (ds[i]) (xss[i])) : Fin' (con n ds) (xss.flatten ++ [n]) :=
  ⟨Lfp.fold (Fin'.grows) (⟨n, ds, xss, rfl, hl, fun i h1 h2 => (h i h1 h2).lfp⟩)⟩

theorem Fin'.elim {motive : ∀ d xs, Fin' d xs → Prop}
    (mk : ∀ (n : Nd) (ds : List DT) (xss : List (List Nd)) (hl : ds.length = xss.length) (h : ∀ i (h1 : i < ds.length) (h2 : i < xss.length), Fin' (ds[i]) (xss[i])), (∀ i (h1 : i < ds.length) (h2 : i < xss.length), motive (ds[i]) (xss[i]) (h i h1 h2)) → motive (con n ds) (xss.flatten ++ [n]) (Fin'.mk n ds xss hl h))
    {d : DT} {xs : List Nd} (h : Fin' d xs) : motive d xs h := by
  have key : ∀ h, motive (d, xs).1 (d, xs).2 h := Lfp.ind (Fin'.grows) (p := fun x => ∀ h, motive x.1 x.2 h) (by
    rintro x ⟨n, ds, xss, e0, hl, h⟩ h9
    · subst e0; exact mk n ds xss hl (fun i h1 h2 => ⟨(h i h1 h2).1⟩) (fun i h1 h2 => (h i h1 h2).2 _)) h.lfp
  exact key h

theorem Fin'.inv {motive : ∀ d xs, Fin' d xs → Prop}
    (mk : ∀ (n : Nd) (ds : List DT) (xss : List (List Nd)) (hl : ds.length = xss.length) (h : ∀ i (h1 : i < ds.length) (h2 : i < xss.length), Fin' (ds[i]) (xss[i])), motive (con n ds) (xss.flatten ++ [n]) (Fin'.mk n ds xss hl h))
    {d : DT} {xs : List Nd} (h : Fin' d xs) : motive d xs h := by
  induction h using Fin'.elim with
  | mk n ds xss hl h _ => exact mk n ds xss hl h

theorem Fin'.root {d : DT} {xs : List Nd} (h : Fin' d xs) : ∃ n, d [] = some n := by
  cases h using Fin'.inv with
  | mk n ds xss _ _ => exact ⟨n, rfl⟩

theorem con_len {n m : Nd} {ds es : List DT} (h : con n ds = con m es) (h1 : ∀ d ∈ ds, ∃ k, d [] = some k) (h2 : ∀ d ∈ es, ∃ k, d [] = some k) : ds.length = es.length := by
  have key : ∀ {n m : Nd} {ds es : List DT}, con n ds = con m es → (∀ d ∈ es, ∃ k, d [] = some k) → ¬ ds.length < es.length := by
    intro n m ds es h h2 hlt
    have h9 := congrFun h [ds.length]
    obtain ⟨k, hk⟩ := h2 es[ds.length] (List.getElem_mem hlt)
    simp [con, List.getElem?_eq_getElem hlt, hk] at h9
  have a := key h h2
  have b := key h.symm h1
  omega

/-- A type has one way of being written. -/
theorem Fin'.one {d : DT} {xs : List Nd} (h : Fin' d xs) : ∀ {ys : List Nd}, Fin' d ys → xs = ys := by
  induction h using Fin'.elim with
  | mk n ds xss hl h1 ih =>
    intro ys h'
    generalize hd : con n ds = d at h'
    cases h' using Fin'.inv with
    | mk m es yss hl' h2 =>
      obtain rfl := con_nd hd
      have r1 : ∀ d ∈ ds, ∃ k, d [] = some k := by
        intro d hm
        obtain ⟨i, hi, rfl⟩ := List.getElem_of_mem hm
        exact (h1 i hi (by omega)).root
      have r2 : ∀ d ∈ es, ∃ k, d [] = some k := by
        intro d hm
        obtain ⟨i, hi, rfl⟩ := List.getElem_of_mem hm
        exact (h2 i hi (by omega)).root
      have hlE := con_len hd r1 r2
      obtain rfl := con_kids hd hlE
      have : xss = yss := by
        apply List.ext_getElem (by omega)
        intro i h3 h4
        exact ih i (by omega) h3 (h2 i (by omega) h4)
      rw [this]

/-- What a term makes of what its unknowns are. -/
def EvF (σ : Nd → DT) (R : List Nd × DT → Prop) (x : List Nd × DT) : Prop :=
  (∃ (n : Nd), x = ([n], σ n) ∧ (n.kind = 61) ∧ (n.kids = 0)) ∨
  (∃ (n : Nd) (xss : List (List Nd)) (ds : List DT), x = (xss.flatten ++ [n], con n ds) ∧ (n.kind ≠ 61) ∧ (n.kids = (ds.length : Int)) ∧ (ds.length = xss.length) ∧ (∀ i (h1 : i < xss.length) (h2 : i < ds.length), R (xss[i], ds[i])))

structure Ev (σ : Nd → DT) (xs : List Nd) (d : DT) : Prop where
  of ::
  lfp : Lfp (EvF σ) (xs, d)

theorem Ev.grows (σ : Nd → DT) : Grows (EvF σ) := by
  rintro R R' x h0 (⟨n, e0, hk, h0⟩ | ⟨n, xss, ds, e0, hk, hn, hl, h⟩)
  · exact .inl ⟨n, e0, hk, h0⟩
  · exact .inr (⟨n, xss, ds, e0, hk, hn, hl, fun i h1 h2 => h0 _ (h i h1 h2)⟩)

theorem Ev.leaf {σ : Nd → DT} (n : Nd) (hk : n.kind = 61) (h0 : n.kids = 0) : Ev σ ([n]) (σ n) :=
  ⟨Lfp.fold (Ev.grows σ) (.inl ⟨n, rfl, hk, h0⟩)⟩

theorem Ev.node {σ : Nd → DT} (n : Nd) (hk : n.kind ≠ 61) (xss : List (List Nd)) (ds : List DT) (hn : n.kids = (ds.length : Int)) (hl : ds.length = xss.length) (h : ∀ i (h1 : i < xss.length) (h2 : i < ds.length), Ev σ (xss[i]) (ds[i])) : Ev σ (xss.flatten ++ [n]) (con n ds) :=
  ⟨Lfp.fold (Ev.grows σ) (.inr (⟨n, xss, ds, rfl, hk, hn, hl, fun i h1 h2 => (h i h1 h2).lfp⟩))⟩

theorem Ev.elim {σ : Nd → DT} {motive : ∀ xs d, Ev σ xs d → Prop}
    (leaf : ∀ (n : Nd) (hk : n.kind = 61) (h0 : n.kids = 0), motive ([n]) (σ n) (Ev.leaf n hk h0))
    (node : ∀ (n : Nd) (hk : n.kind ≠ 61) (xss : List (List Nd)) (ds : List DT) (hn : n.kids = (ds.length : Int)) (hl : ds.length = xss.length) (h : ∀ i (h1 : i < xss.length) (h2 : i < ds.length), Ev σ (xss[i]) (ds[i])), (∀ i (h1 : i < xss.length) (h2 : i < ds.length), motive (xss[i]) (ds[i]) (h i h1 h2)) → motive (xss.flatten ++ [n]) (con n ds) (Ev.node n hk xss ds hn hl h))
    {xs : List Nd} {d : DT} (h : Ev σ xs d) : motive xs d h := by
  have key : ∀ h, motive (xs, d).1 (xs, d).2 h := Lfp.ind (Ev.grows σ) (p := fun x => ∀ h, motive x.1 x.2 h) (by
    rintro x (⟨n, e0, hk, h0⟩ | ⟨n, xss, ds, e0, hk, hn, hl, h⟩) h9
    · subst e0; exact leaf n hk h0
    · subst e0; exact node n hk xss ds hn hl (fun i h1 h2 => ⟨(h i h1 h2).1⟩) (fun i h1 h2 => (h i h1 h2).2 _)) h.lfp
  exact key h

theorem Ev.inv {σ : Nd → DT} {motive : ∀ xs d, Ev σ xs d → Prop}
    (leaf : ∀ (n : Nd) (hk : n.kind = 61) (h0 : n.kids = 0), motive ([n]) (σ n) (Ev.leaf n hk h0))
    (node : ∀ (n : Nd) (hk : n.kind ≠ 61) (xss : List (List Nd)) (ds : List DT) (hn : n.kids = (ds.length : Int)) (hl : ds.length = xss.length) (h : ∀ i (h1 : i < xss.length) (h2 : i < ds.length), Ev σ (xss[i]) (ds[i])), motive (xss.flatten ++ [n]) (con n ds) (Ev.node n hk xss ds hn hl h))
    {xs : List Nd} {d : DT} (h : Ev σ xs d) : motive xs d h := by
  induction h using Ev.elim with
  | leaf n hk h0 => exact leaf n hk h0
  | node n hk xss ds hn hl h _ => exact node n hk xss ds hn hl h

/-- An unknown that stands for itself. -/
def selfT (n : Nd) : DT := con n []

theorem Ev.one {σ : Nd → DT} {xs : List Nd} {d : DT} (h : Ev σ xs d) : One xs := by
  induction h using Ev.elim with
  | leaf n hk h0 =>
    have := One.join (A := []) (n := n) (by simp) (by simpa using h0)
    simpa using this
  | node n hk xss ds hn hl h ih =>
    refine One.join (fun x hx => ?_) (by rw [hn, hl])
    obtain ⟨i, hi, rfl⟩ := List.getElem_of_mem hx
    exact ih i hi (by omega)

theorem Ev.last {σ : Nd → DT} {xs : List Nd} {d : DT} (h : Ev σ xs d) : (∃ n : Nd, xs = [n] ∧ (n.kind = 61 ∧ n.kids = 0) ∧ d = σ n) ∨ ∃ (n : Nd) (xss : List (List Nd)) (ds : List DT), n.kind ≠ 61 ∧ n.kids = (ds.length : Int) ∧ ds.length = xss.length ∧ (∀ i (h1 : i < xss.length) (h2 : i < ds.length), Ev σ xss[i] ds[i]) ∧ xs = xss.flatten ++ [n] ∧ d = con n ds := by
  cases h using Ev.inv with
  | leaf n hk h0 => exact .inl ⟨n, rfl, ⟨hk, h0⟩, rfl⟩
  | node n hk xss ds hn hl h => exact .inr ⟨n, xss, ds, hk, hn, hl, h, rfl, rfl⟩

theorem ev_ones {σ : Nd → DT} {xss : List (List Nd)} {ds : List DT} (hl : ds.length = xss.length) (h : ∀ i (h1 : i < xss.length) (h2 : i < ds.length), Ev σ xss[i] ds[i]) : ∀ x ∈ xss, One x := by
  intro x hx
  obtain ⟨i, hi, rfl⟩ := List.getElem_of_mem hx
  exact (h i hi (by omega)).one

/-- A term makes one thing. -/
theorem Ev.fun {σ : Nd → DT} {xs : List Nd} {d : DT} (h : Ev σ xs d) : ∀ {d' : DT}, Ev σ xs d' → d = d' := by
  induction h using Ev.elim with
  | leaf n hk h0 =>
    intro d' h'
    rcases h'.last with ⟨m, e, _, rfl⟩ | ⟨m, xss, ds, hm, _, _, _, e, rfl⟩
    · simp at e; subst e; rfl
    · have := (List.append_inj' (s₁ := []) e rfl).2
      simp at this
      subst this
      exact absurd hk hm
  | node n hk xss ds hn hl h ih =>
    intro d' h'
    rcases h'.last with ⟨m, e, ⟨hm, _⟩, rfl⟩ | ⟨m, yss, es, hm, hn', hl', h2, e, rfl⟩
    · have := (List.append_inj' (s₂ := []) e rfl).2
      simp at this
      subst this
      exact absurd hm hk
    · obtain ⟨e1, e2⟩ := List.append_inj' e rfl
      simp at e2
      subst e2
      have e3 := ones_same (ev_ones hl h) (ev_ones hl' h2) e1
      subst e3
      have : ds = es := by
        apply List.ext_getElem (by omega)
        intro i h3 h4
        exact ih i (by omega) h3 (h2 i (by omega) h4)
      rw [this]

theorem selfT_root {xs : List Nd} {d : DT} (h : Ev selfT xs d) : ∃ k, d [] = some k := by
  rcases h.last with ⟨n, _, _, rfl⟩ | ⟨n, _, ds, _, _, _, _, _, rfl⟩
  · exact ⟨n, rfl⟩
  · exact ⟨n, rfl⟩

theorem ev_roots {xss : List (List Nd)} {ds : List DT} (hl : ds.length = xss.length) (h : ∀ i (h1 : i < xss.length) (h2 : i < ds.length), Ev selfT xss[i] ds[i]) : ∀ d ∈ ds, ∃ k, d [] = some k := by
  intro d hd
  obtain ⟨i, hi, rfl⟩ := List.getElem_of_mem hd
  exact selfT_root (h i (by omega) hi)

/-- A type has one way of being written. -/
theorem Ev.self {xs : List Nd} {d : DT} (h : Ev selfT xs d) : ∀ {ys : List Nd}, Ev selfT ys d → xs = ys := by
  induction h using Ev.elim with
  | leaf n hk h0 =>
    intro ys h'
    rcases h'.last with ⟨m, rfl, _, e⟩ | ⟨m, yss, es, hm, _, _, h2, rfl, e⟩
    · rw [con_nd e]
    · have := con_nd e
      subst this
      exact absurd hk hm
  | node n hk xss ds hn hl h ih =>
    intro ys h'
    rcases h'.last with ⟨m, rfl, ⟨hm, _⟩, e⟩ | ⟨m, yss, es, hm, hn', hl', h2, rfl, e⟩
    · have := con_nd e
      subst this
      exact absurd hm hk
    · have hlE := con_len e (ev_roots hl h) (ev_roots hl' h2)
      have e1 := con_nd e
      subst e1
      have e2 := con_kids e hlE
      subst e2
      have : xss = yss := by
        apply List.ext_getElem (by omega)
        intro i h3 h4
        exact ih i h3 (by omega) (h2 i h4 (by omega))
      rw [this]

/-- A node's own way of being written, from its kids'. -/
theorem Ev.kids {n : Nd} {ds : List DT} {xs : List Nd} (h : Ev selfT xs (con n ds)) (hr : ∀ d ∈ ds, ∃ k, d [] = some k) : ∃ xss : List (List Nd), xss.length = ds.length ∧ (∀ i (h1 : i < xss.length) (h2 : i < ds.length), Ev selfT xss[i] ds[i]) ∧ xs = xss.flatten ++ [n] ∧ n.kids = (ds.length : Int) := by
  rcases h.last with ⟨m, rfl, ⟨hm, hm0⟩, e⟩ | ⟨m, yss, es, hm, hn', hl', h2, rfl, e⟩
  · have e1 := con_nd e
    subst e1
    have hl := con_len e hr (by simp)
    have : ds = [] := List.eq_nil_of_length_eq_zero (by simpa using hl)
    subst this
    exact ⟨[], rfl, by simp, by simp, by simpa using hm0⟩
  · have e1 := con_nd e
    subst e1
    have hl := con_len e hr (ev_roots hl' h2)
    have e2 := con_kids e hl
    subst e2
    exact ⟨yss, by omega, h2, rfl, hn'⟩

/-- From what a term makes, to what its unknowns are. -/
theorem Ev.back {σ : Nd → DT} {g : List Nd} {d : DT} (h : Ev σ g d) : ∀ {t : List Nd}, Ev selfT t d → (∀ n ∈ g, n.kind = 61 → ∃ xs, Ev selfT xs (σ n)) ∧ ∀ ρ : Int → List Nd, (∀ n ∈ g, n.kind = 61 → Ev selfT (ρ n.num) (σ n)) → fill ρ g = t := by
  induction h using Ev.elim with
  | leaf n hk h0 =>
    intro t ht
    refine ⟨fun m hm _ => ?_, fun ρ hρ => ?_⟩
    · simp at hm; subst hm; exact ⟨t, ht⟩
    · have h1 := hρ n (by simp) hk
      simp only [fill, fillN, List.flatMap_cons, List.flatMap_nil, hk, if_true, List.append_nil]
      exact h1.self ht
  | node n hk xss ds hn hl h ih =>
    intro t ht
    rcases ht.last with ⟨m, rfl, ⟨hm, _⟩, e⟩ | ⟨m, yss, es, hm, hn', hl', h2, rfl, e⟩
    · have := con_nd e
      subst this
      exact absurd hm hk
    · have e1 := con_nd e
      subst e1
      have hlE : ds.length = es.length := by omega
      have e2 := con_kids e hlE
      subst e2
      refine ⟨fun m hm hm61 => ?_, fun ρ hρ => ?_⟩
      · rcases List.mem_append.1 hm with hm | hm
        · obtain ⟨a, ha, hma⟩ := List.mem_flatten.1 hm
          obtain ⟨i, hi, rfl⟩ := List.getElem_of_mem ha
          exact (ih i hi (by omega) (h2 i (by omega) (by omega))).1 m hma hm61
        · simp at hm; subst hm; exact absurd hm61 hk
      · rw [fill_append, fill_flatten]
        have e3 : fill ρ [n] = [n] := by simp [fill, fillN, hk]
        rw [e3]
        congr 2
        apply List.ext_getElem (by simp; omega)
        intro i h3 h4
        simp only [List.getElem_map]
        have hi : i < xss.length := by simpa using h3
        refine (ih i hi (by omega) (h2 i h4 (by omega))).2 ρ (fun m hm hm61 => ?_)
        exact hρ m (List.mem_append_left _ (List.mem_flatten.2 ⟨_, List.getElem_mem hi, hm⟩)) hm61

/-- Every term makes something. -/
theorem ev_span (σ : Nd → DT) {t : List Nd} (hl : Leafy t) {S ys : List Sp} {n : Nat} (h : after t n = some (S, ys)) : ∀ i, i < n → ∀ s, ys[i]? = some s → ∃ d, Ev σ (span t s.fr i) d := by
  intro i
  induction i using Nat.strongRecOn with
  | ind i ih =>
    intro hi s hs
    have hle := after_le h
    have hit : i < t.length := by omega
    obtain ⟨K, hK, hsp, hO⟩ := span_kids h hi hs hit
    obtain ⟨_, hn⟩ := hK.num
    rw [hsp]
    by_cases h61 : t[i].kind = 61
    · have hz := hl t[i] (List.getElem_mem hit) h61
      have hK0 : K = [] := List.eq_nil_of_length_eq_zero (by omega)
      subst hK0
      exact ⟨_, by simpa [kidsIn] using Ev.leaf (σ := σ) t[i] h61 hz⟩
    · have hk : ∀ r, ∃ d, ∀ hr : r < K.length, Ev σ (span t K[r].fr K[r].rt) d := by
        intro r
        by_cases hr : r < K.length
        · have hm := hK.mem r hr
          obtain ⟨d, hd⟩ := ih K[r].rt hm.2.2 (by omega) K[r] hm.1
          exact ⟨d, fun _ => hd⟩
        · exact ⟨fun _ => none, fun h => absurd h hr⟩
      obtain ⟨F, hF⟩ := Classical.axiomOfChoice hk
      refine ⟨con t[i] ((List.range K.length).map F), Ev.node t[i] h61 (kidsIn t K) _ (by simpa using hn) (by simp [kidsIn]) (fun r h1 h2 => ?_)⟩
      have hr : r < K.length := by simpa using h2
      simp only [kidsIn, List.getElem_map, List.getElem_range]
      exact hF r hr

end Go.Proofs.YtahdmflbdmlfhaaGreatDoor
