import Derived.Test.YthioecjcnajmgaaGreatDoorWAX
import Derived.Test.YthioecjcnajmgaaGreatDoorWAA
namespace Go.Proofs.YthioecjcnajmgaaGreatDoor

open Go.RowKit

/-- A cell's kids: a slice of pointers in a block that isn't a cell's. -/
def KidRow (w : World) (X : Nat → Prop) (s : Option Addr × Nat × Nat) (l : List Nat) : Prop :=
  (s.2.1 = l.length ∧ l.length ≤ 20000 ∧ l.length ≤ s.2.2) ∧ (l = [] ∨ ∃ g cur, s.1 = some ⟨g, 0, none⟩ ∧ ¬ X g ∧ g < w.heap.size ∧ w.heap[g]? = some (.cells cur 69 (0, 0)) ∧ ∀ i (h : i < l.length), cur[i]? = some (.pointer (some ⟨l[i], 0, none⟩)))

/-- The store: its cells, their forest, their kids. -/
structure CSto (w : World) (X : Nat → Prop) (f : Nat → CC) (lk : Nat → Option Nat) (d : Nat → Nat) (K : (Option Addr × Nat × Nat) → List Nat) : Prop where
  cells : Cells w X f lk
  acyc : Acyc lk d
  rows : ∀ b, X b → KidRow w X (f b).ks (K (f b).ks)
  inX : ∀ b, X b → ∀ k ∈ K (f b).ks, X k
  arity : ∀ b, X b → ((K (f b).ks).length : Int) = (f b).nd.kids
  met : ∀ b, X b → (f b).nd.kind = 61 → K (f b).ks = []
  low : ∀ b, X b → (f b).lv ≤ 1

/-- What a cell says. -/
def gc (K : (Option Addr × Nat × Nat) → List Nat) (f : Nat → CC) : Nat → GC := fun i => ⟨(f i).nd, K (f i).ks, (f i).open?⟩

theorem KidRow.but {w w' : World} {X : Nat → Prop} {s : Option Addr × Nat × Nat} {l : List Nat} (h : KidRow w X s l) (hb : But X w w') : KidRow w' X s l := by
  refine ⟨h.1, ?_⟩
  rcases h.2 with e | ⟨g, cur, h1, h2, h3, h4, h5⟩
  · exact .inl e
  · exact .inr ⟨g, cur, h1, h2, Nat.lt_of_lt_of_le h3 hb.size, (hb.block g h3 h2).trans h4, h5⟩

/-- Every cell has a head. -/
theorem Acyc.head {lk : Nat → Option Nat} {d : Nat → Nat} (ha : Acyc lk d) : ∀ n i, d i < n → ∃ r, Hd lk i r := by
  intro n
  induction n with
  | zero => intro i h; omega
  | succ n ih =>
    intro i h
    cases e : lk i with
    | none => exact ⟨i, .root e⟩
    | some j =>
      obtain ⟨r, hr⟩ := ih j (by have := ha i j e; omega)
      exact ⟨r, .step e hr⟩

theorem Hd.inX {w : World} {X : Nat → Prop} {f : Nat → CC} {lk : Nat → Option Nat} (h : Cells w X f lk) {i r : Nat} (hr : Hd lk i r) (hi : X i) : X r := by
  induction hr using Hd.elim with
  | root _ => exact hi
  | step h1 _ ih => exact ih (h.link _ _ h1).2

theorem Hd.sat {X : Nat → Prop} {g : Nat → GC} {lk : Nat → Option Nat} {θ : Nat → DT} (hs : SatC X g lk θ) {i r : Nat} (hr : Hd lk i r) : θ i = θ r := by
  induction hr using Hd.elim with
  | root _ => rfl
  | step h1 _ ih => exact (hs.1 _ _ h1).trans ih

theorem sat_links {lk : Nat → Option Nat} {d : Nat → Nat} (ha : Acyc lk d) {θ : Nat → DT} : (∀ i j, lk i = some j → θ i = θ j) ↔ ∀ i r, Hd lk i r → θ i = θ r := by
  constructor
  · intro h i r hr
    induction hr using Hd.elim with
    | root _ => rfl
    | step h1 _ ih => exact (h _ _ h1).trans ih
  · intro h i j e
    obtain ⟨r, hr⟩ := ha.head _ j (Nat.lt_succ_self _)
    rw [h i r (.step e hr), h j r hr]

theorem root_iff (lk : Nat → Option Nat) (i : Nat) : lk i = none ↔ Hd lk i i := by
  constructor
  · exact fun h => .root h
  · exact fun h => h.is_root

/-- Forests with the same heads ask the same. -/
theorem SameHd.sat {X : Nat → Prop} {g : Nat → GC} {lk lk' : Nat → Option Nat} {d d' : Nat → Nat} (h : SameHd lk lk') (ha : Acyc lk d) (ha' : Acyc lk' d') (θ : Nat → DT) : SatC X g lk' θ ↔ SatC X g lk θ := by
  unfold SatC
  rw [sat_links ha, sat_links ha']
  constructor
  · rintro ⟨h1, h2⟩
    exact ⟨fun i r hr => h1 i r ((h i r).1 hr), fun i hi hl => h2 i hi ((root_iff lk' i).2 ((h i i).1 ((root_iff lk i).1 hl)))⟩
  · rintro ⟨h1, h2⟩
    exact ⟨fun i r hr => h1 i r ((h i r).2 hr), fun i hi hl => h2 i hi ((root_iff lk i).2 ((h i i).2 ((root_iff lk' i).1 hl)))⟩

/-- Two heads are tied: links lead somewhere still. -/
theorem acyc_tied {lk : Nat → Option Nat} {d : Nat → Nat} (ha : Acyc lk d) {h q : Nat} (hh : lk h = none) (hq : lk q = none) (hne : h ≠ q) : ∃ d', Acyc (tied lk h q) d' := by
  classical
  refine ⟨fun i => d i + if Hd lk i q then d h + 1 else 0, fun i j e => ?_⟩
  by_cases hi : i = q
  · subst hi
    simp [tied] at e
    subst e
    have h1 : Hd lk i i := .root hq
    have h2 : ¬ Hd lk h i := fun h9 => hne ((Hd.root hh).fun h9)
    simp [h1, h2]
    omega
  · simp only [tied, hi, if_false] at e
    have h1 : Hd lk i q ↔ Hd lk j q := by
      constructor
      · intro h9
        cases h9 using Hd.inv with
        | root h8 => rw [h8] at e; cases e
        | step h8 h7 => rw [h8] at e; cases e; exact h7
      · exact fun h9 => .step e h9
    have := ha i j e
    by_cases h9 : Hd lk j q
    · simp [h1.2 h9, h9]; omega
    · have : ¬ Hd lk i q := fun h8 => h9 (h1.1 h8)
      simp [this, h9]; omega

/-- Behind a head's call. -/
theorem CSto.short {w w' : World} {X : Nat → Prop} {f : Nat → CC} {lk lk' : Nat → Option Nat} {d : Nat → Nat} {K : (Option Addr × Nat × Nat) → List Nat} (h : CSto w X f lk d K) (hc : Cells w' X f lk') (ha : Acyc lk' d) (hb : But X w w') : CSto w' X f lk' d K :=
  ⟨hc, ha, fun b hx => (h.rows b hx).but hb, h.inX, h.arity, h.met, h.low⟩

/-- What a cell says: its node, its kids, its level. -/
def CC.core (c : CC) : Nd × (Option Addr × Nat × Nat) × Int := (c.nd, c.ks, c.lv)

theorem core_parts {c d : CC} (h : c.core = d.core) : c.nd = d.nd ∧ c.ks = d.ks ∧ c.lv = d.lv := by
  simp only [CC.core, Prod.mk.injEq] at h
  exact ⟨h.1, h.2.1, h.2.2⟩

theorem tiedF_rest (f : Nat → CC) {a h q : Nat} (r t : Int) : ∀ i, i ≠ h → (tiedF f a h q r t i).core = (f i).core := by
  intro i hi
  unfold tiedF
  by_cases e : i = q
  · subst e
    rw [if_pos rfl]
    rfl
  · rw [if_neg e, if_neg hi]

theorem tiedF_head (f : Nat → CC) {a h q : Nat} (hne : h ≠ q) (r t : Int) : (tiedF f a h q r t h).core = if (f h).nd.kind = 61 then (f a).core else (f h).core := by
  unfold tiedF
  rw [if_neg hne, if_pos rfl]
  split <;> rfl

/-- Behind a tie. -/
theorem CSto.tied {w w' : World} {X : Nat → Prop} {f f' : Nat → CC} {lk : Nat → Option Nat} {d : Nat → Nat} {K : (Option Addr × Nat × Nat) → List Nat} (H : CSto w X f lk d K) {a b h q : Nat} (hXa : X a) (hXh : X h) (hab : a ≠ b) (ha : lk a = none) (hb : lk b = none) (hq : h = a ∧ q = b ∨ h = b ∧ q = a)
    (hc : Cells w' X f' (tied lk h q)) (hf : ∀ i, i ≠ h → (f' i).core = (f i).core) (e1 : (f' h).core = (f a).core ∨ (f' h).core = (f h).core) (hB : But X w w') : ∃ d', CSto w' X f' (tied lk h q) d' K := by
  have hhq : h ≠ q := by
    rcases hq with ⟨rfl, rfl⟩ | ⟨rfl, rfl⟩
    · exact hab
    · exact fun e => hab e.symm
  have hlq : lk q = none := by rcases hq with ⟨rfl, rfl⟩ | ⟨rfl, rfl⟩ <;> assumption
  have hlh : lk h = none := by rcases hq with ⟨rfl, rfl⟩ | ⟨rfl, rfl⟩ <;> assumption
  obtain ⟨d', hd'⟩ := acyc_tied H.acyc hlh hlq hhq
  have key : ∀ x, X x → ∃ y, X y ∧ (f' x).core = (f y).core := by
    intro x hx
    by_cases e : x = h
    · subst e
      rcases e1 with e1 | e1
      · exact ⟨a, hXa, e1⟩
      · exact ⟨x, hXh, e1⟩
    · exact ⟨x, hx, hf x e⟩
  refine ⟨d', hc, hd', fun x hx => ?_, fun x hx => ?_, fun x hx => ?_, fun x hx => ?_, fun x hx => ?_⟩
  all_goals
    obtain ⟨y, hy, e9⟩ := key x hx
    obtain ⟨n1, n2, n3⟩ := core_parts e9
  · rw [n2]; exact (H.rows y hy).but hB
  · rw [n2]; exact H.inX y hy
  · rw [n1, n2]; exact H.arity y hy
  · rw [n1, n2]; exact H.met y hy
  · rw [n3]; exact H.low y hy

theorem gc_core {K : (Option Addr × Nat × Nat) → List Nat} {f f' : Nat → CC} {a h : Nat} (e : (f' h).core = (f a).core) : gc K f' h = gc K f a := by
  obtain ⟨n1, n2, n3⟩ := core_parts e
  simp [gc, CC.open?, n1, n2, n3]

/-- What may be said of two heads that are tied at once: the second is open and the first, where it is open too, has no higher number; or neither is open and their nodes are the same. -/
def MayTie (x y : CC) : Prop := (y.open? = true ∧ (x.open? = true → x.nd.num ≤ y.nd.num)) ∨ (x.open? = false ∧ y.open? = false ∧ x.nd = y.nd)

/-- A store to which another has come by ties at a time (and by links that were shortened). -/
def TiesF (X : Nat → Prop) (t : Int) (f : Nat → CC) (lk : Nat → Option Nat) (R : (Nat → CC) × (Nat → Option Nat) → Prop) (x : (Nat → CC) × (Nat → Option Nat)) : Prop :=
  (∃ (lk' : Nat → Option Nat), x = (f, lk') ∧ (SameHd lk lk')) ∨
  (∃ (f1 : Nat → CC) (lk1 lk2 : Nat → Option Nat) (a b h q : Nat) (r : Int), x = (tiedF f1 a h q r t, lk2) ∧ (R (f1, lk1)) ∧ (X a) ∧ (X b) ∧ (a ≠ b) ∧ (lk1 a = none) ∧ (lk1 b = none) ∧ (h = a ∧ q = b ∨ h = b ∧ q = a) ∧ (MayTie (f1 a) (f1 b)) ∧ (SameHd (tied lk1 h q) lk2))

structure Ties (X : Nat → Prop) (t : Int) (f : Nat → CC) (lk : Nat → Option Nat) (f' : Nat → CC) (lk' : Nat → Option Nat) : Prop where
  of ::
  lfp : Lfp (TiesF X t f lk) (f', lk')

theorem Ties.grows (X : Nat → Prop) (t : Int) (f : Nat → CC) (lk : Nat → Option Nat) : Grows (TiesF X t f lk) := by
  rintro R R' x h0 (⟨lk', e0, h⟩ | ⟨f1, lk1, lk2, a, b, h, q, r, e0, k, ha, hb, hab, hla, hlb, hq, hm, hs⟩)
  · exact .inl ⟨lk', e0, h⟩
  · exact .inr (⟨f1, lk1, lk2, a, b, h, q, r, e0, h0 _ k, ha, hb, hab, hla, hlb, hq, hm, hs⟩)

theorem Ties.same {X : Nat → Prop} {t : Int} {f : Nat → CC} {lk : Nat → Option Nat} {lk' : Nat → Option Nat} (h : SameHd lk lk') : Ties X t f lk f lk' :=
  ⟨Lfp.fold (Ties.grows X t f lk) (.inl ⟨lk', rfl, h⟩)⟩

theorem Ties.step {X : Nat → Prop} {t : Int} {f : Nat → CC} {lk : Nat → Option Nat} {f1 : Nat → CC} {lk1 lk2 : Nat → Option Nat} {a b h q : Nat} {r : Int} (k : Ties X t f lk f1 lk1) (ha : X a) (hb : X b) (hab : a ≠ b) (hla : lk1 a = none) (hlb : lk1 b = none) (hq : h = a ∧ q = b ∨ h = b ∧ q = a) (hm : MayTie (f1 a) (f1 b)) (hs : SameHd (tied lk1 h q) lk2) : Ties X t f lk (tiedF f1 a h q r t) lk2 :=
  ⟨Lfp.fold (Ties.grows X t f lk) (.inr (⟨f1, lk1, lk2, a, b, h, q, r, rfl, k.lfp, ha, hb, hab, hla, hlb, hq, hm, hs⟩))⟩

theorem Ties.elim {X : Nat → Prop} {t : Int} {f : Nat → CC} {lk : Nat → Option Nat} {motive : ∀ f' lk', Ties X t f lk f' lk' → Prop}
    (same : ∀ {lk' : Nat → Option Nat} (h : SameHd lk lk'), motive f lk' (Ties.same (lk' := lk') h))
    (step : ∀ {f1 : Nat → CC} {lk1 lk2 : Nat → Option Nat} {a b h q : Nat} {r : Int} (k : Ties X t f lk f1 lk1) (ha : X a) (hb : X b) (hab : a ≠ b) (hla : lk1 a = none) (hlb : lk1 b = none) (hq : h = a ∧ q = b ∨ h = b ∧ q = a) (hm : MayTie (f1 a) (f1 b)) (hs : SameHd (tied lk1 h q) lk2), motive f1 lk1 (k) → motive (tiedF f1 a h q r t) lk2 (Ties.step (f1 := f1) (lk1 := lk1) (lk2 := lk2) (a := a) (b := b) (h := h) (q := q) (r := r) k ha hb hab hla hlb hq hm hs))
    {f' : Nat → CC} {lk' : Nat → Option Nat} (h : Ties X t f lk f' lk') : motive f' lk' h := by
  have key : ∀ h, motive (f', lk').1 (f', lk').2 h := Lfp.ind (Ties.grows X t f lk) (p := fun x => ∀ h, motive x.1 x.2 h) (by
    rintro x (⟨lk', e0, h⟩ | ⟨f1, lk1, lk2, a, b, h, q, r, e0, k, ha, hb, hab, hla, hlb, hq, hm, hs⟩) h9
    · subst e0; exact same (lk' := lk') h
    · subst e0; exact step (f1 := f1) (lk1 := lk1) (lk2 := lk2) (a := a) (b := b) (h := h) (q := q) (r := r) ⟨k.1⟩ ha hb hab hla hlb hq hm hs (k.2 _)) h.lfp
  exact key h

theorem Ties.inv {X : Nat → Prop} {t : Int} {f : Nat → CC} {lk : Nat → Option Nat} {motive : ∀ f' lk', Ties X t f lk f' lk' → Prop}
    (same : ∀ {lk' : Nat → Option Nat} (h : SameHd lk lk'), motive f lk' (Ties.same (lk' := lk') h))
    (step : ∀ {f1 : Nat → CC} {lk1 lk2 : Nat → Option Nat} {a b h q : Nat} {r : Int} (k : Ties X t f lk f1 lk1) (ha : X a) (hb : X b) (hab : a ≠ b) (hla : lk1 a = none) (hlb : lk1 b = none) (hq : h = a ∧ q = b ∨ h = b ∧ q = a) (hm : MayTie (f1 a) (f1 b)) (hs : SameHd (tied lk1 h q) lk2), motive (tiedF f1 a h q r t) lk2 (Ties.step (f1 := f1) (lk1 := lk1) (lk2 := lk2) (a := a) (b := b) (h := h) (q := q) (r := r) k ha hb hab hla hlb hq hm hs))
    {f' : Nat → CC} {lk' : Nat → Option Nat} (h : Ties X t f lk f' lk') : motive f' lk' h := by
  induction h using Ties.elim with
  | same h => exact same h
  | step k ha hb hab hla hlb hq hm hs _ => exact step k ha hb hab hla hlb hq hm hs

theorem Ties.refl (X : Nat → Prop) (t : Int) (f : Nat → CC) (lk : Nat → Option Nat) : Ties X t f lk f lk := .same (SameHd.refl lk)

theorem Ties.short {X : Nat → Prop} {t : Int} {f f' : Nat → CC} {lk lk' lk2 : Nat → Option Nat} (h : Ties X t f lk f' lk') (hs : SameHd lk' lk2) : Ties X t f lk f' lk2 := by
  cases h using Ties.inv with
  | same h1 => exact .same (h1.trans hs)
  | step h1 h2 h3 h4 h5 h6 h7 h8 h9 => exact .step h1 h2 h3 h4 h5 h6 h7 h8 (h9.trans hs)

theorem Ties.trans {X : Nat → Prop} {t : Int} {f f1 f2 : Nat → CC} {lk lk1 lk2 : Nat → Option Nat} (h : Ties X t f lk f1 lk1) (h' : Ties X t f1 lk1 f2 lk2) : Ties X t f lk f2 lk2 := by
  induction h' using Ties.elim with
  | same h1 => exact h.short h1
  | step _ h2 h3 h4 h5 h6 h7 h8 h9 ih => exact .step ih h2 h3 h4 h5 h6 h7 h8 h9

theorem SameHd.symm {a b : Nat → Option Nat} (h : SameHd a b) : SameHd b a := fun i r => (h i r).symm

theorem CSto.still {w w' : World} {X : Nat → Prop} {f : Nat → CC} {lk : Nat → Option Nat} {d : Nat → Nat} {K : (Option Addr × Nat × Nat) → List Nat} (h : CSto w X f lk d K) (hb : But (fun _ => False) w w') : CSto w' X f lk d K :=
  h.short (h.cells.but hb (fun _ _ h => h)) h.acyc (hb.mono (fun _ h => h.elim))

end Go.Proofs.YthioecjcnajmgaaGreatDoor

namespace Go.Proofs.YthioecjcnajmgaaGreatDoor
open Go.RowKit

/-! What a store was at a time. -/

/-- What a cell was tied to at a time. -/
def tdAt (dec : ∀ p : Prop, Decidable p) (X : Nat → Prop) (f : Nat → CC) (t : Int) (b : Nat) : Option Nat := @ite _ (X b ∧ (f b).si ≤ t) (dec _) (f b).td none

/-- What a cell said at a time. -/
def gcAt (K : (Option Addr × Nat × Nat) → List Nat) (f : Nat → CC) (t : Int) : Nat → GC := fun i => ⟨(f i).nd, K (f i).ks, decide (t < (f i).told) || (f i).open?⟩

theorem tdAt_some {X : Nat → Prop} {f : Nat → CC} {t : Int} {b j : Nat} : tdAt Classical.propDecidable X f t b = some j ↔ X b ∧ (f b).si ≤ t ∧ (f b).td = some j := by
  unfold tdAt
  by_cases h : X b ∧ (f b).si ≤ t
  · rw [if_pos h]
    exact ⟨fun e => ⟨h.1, h.2, e⟩, fun e => e.2.2⟩
  · rw [if_neg h]
    exact ⟨(fun e => by cases e), fun e => absurd ⟨e.1, e.2.1⟩ h⟩

theorem tdAt_none {X : Nat → Prop} {f : Nat → CC} {t : Int} {b : Nat} : tdAt Classical.propDecidable X f t b = none ↔ (X b → (f b).si ≤ t → (f b).td = none) := by
  unfold tdAt
  by_cases h : X b ∧ (f b).si ≤ t
  · rw [if_pos h]
    exact ⟨fun e _ _ => e, fun e => e h.1 h.2⟩
  · rw [if_neg h]
    exact ⟨fun _ h1 h2 => absurd ⟨h1, h2⟩ h, fun _ => rfl⟩

/-- What holds of a store's times; all its unknowns may be told. -/
structure Hist (X : Nat → Prop) (f : Nat → CC) (lk : Nat → Option Nat) (now : Int) : Prop where
  now0 : 0 ≤ now
  hd : SameHd lk (tdAt Classical.propDecidable X f now)
  acyc : ∃ d, Acyc (tdAt Classical.propDecidable X f now) d
  inX : ∀ b j, X b → (f b).td = some j → X j
  si : ∀ b j, X b → (f b).td = some j → (f b).si ≤ now
  told : ∀ b, X b → 0 ≤ (f b).told ∧ (f b).told ≤ now
  open' : ∀ b, X b → (f b).nd.kind = 61 → (f b).lv = 1

theorem Hist.isOpen {X : Nat → Prop} {f : Nat → CC} {lk : Nat → Option Nat} {now : Int} (h : Hist X f lk now) {b : Nat} (hb : X b) : (f b).open? = decide ((f b).nd.kind = 61) := by
  unfold CC.open?
  by_cases hk : (f b).nd.kind = 61
  · simp [hk, h.open' b hb hk]
  · simp [hk]

/-- Where a tie leads to another head. -/
theorem hd_tied {lk : Nat → Option Nat} {h q : Nat} (hh : lk h = none) (hq : lk q = none) (hne : h ≠ q) (i r : Nat) : Hd (tied lk h q) i r ↔ (Hd lk i r ∧ r ≠ q) ∨ (Hd lk i q ∧ r = h) := by
  have hth : tied lk h q h = none := by simp [tied, hne, hh]
  constructor
  · intro H
    induction H using Hd.elim with
    | @root i e =>
      have hiq : i ≠ q := fun e9 => by subst e9; simp [tied] at e
      simp only [tied, hiq, if_false] at e
      exact .inl ⟨.root e, hiq⟩
    | @step i j r e _ ih =>
      by_cases hiq : i = q
      · subst hiq
        simp only [tied, if_true, Option.some.injEq] at e
        subst e
        rcases ih with ⟨h1, h2⟩ | ⟨h1, h2⟩
        · exact .inr ⟨.root hq, h1.fun (.root hh)⟩
        · exact absurd ((Hd.root hh).fun h1) hne
      · simp only [tied, hiq, if_false] at e
        rcases ih with ⟨h1, h2⟩ | ⟨h1, h2⟩
        · exact .inl ⟨.step e h1, h2⟩
        · exact .inr ⟨.step e h1, h2⟩
  · have key : ∀ {i r}, Hd lk i r → r ≠ q → Hd (tied lk h q) i r := by
      intro i r H
      induction H using Hd.elim with
      | @root i e => exact fun hr => .root (by simp [tied, hr, e])
      | @step i j r e _ ih =>
        intro hr
        have hiq : i ≠ q := fun e9 => by subst e9; rw [hq] at e; cases e
        exact .step (by simp [tied, hiq, e]) (ih hr)
    have key2 : ∀ {i r}, Hd lk i r → r = q → Hd (tied lk h q) i h := by
      intro i r H
      induction H using Hd.elim with
      | @root i e => exact fun hr => by subst hr; exact .step (j := h) (by simp [tied]) (.root hth)
      | @step i j r e _ ih =>
        intro hr
        have hiq : i ≠ q := fun e9 => by subst e9; rw [hq] at e; cases e
        exact .step (by simp [tied, hiq, e]) (ih hr)
    rintro (⟨h1, h2⟩ | ⟨h1, rfl⟩)
    · exact key h1 h2
    · exact key2 h1 rfl

theorem SameHd.tied {lk lk' : Nat → Option Nat} (hs : SameHd lk lk') {h q : Nat} (hh : lk h = none) (hq : lk q = none) (hne : h ≠ q) : SameHd (tied lk h q) (tied lk' h q) := by
  have hh' : lk' h = none := (root_iff lk' h).2 ((hs h h).1 ((root_iff lk h).1 hh))
  have hq' : lk' q = none := (root_iff lk' q).2 ((hs q q).1 ((root_iff lk q).1 hq))
  intro i r
  rw [hd_tied hh hq hne, hd_tied hh' hq' hne, hs i r, hs i q]

theorem SameHd.rootN {lk lk' : Nat → Option Nat} (hs : SameHd lk lk') {i : Nat} (h : lk i = none) : lk' i = none := (root_iff lk' i).2 ((hs i i).1 ((root_iff lk i).1 h))

section
variable {X : Nat → Prop} {f : Nat → CC} {lk : Nat → Option Nat} {now : Int}

theorem Hist.tdNone (H : Hist X f lk now) {b : Nat} (hb : X b) (hl : lk b = none) : (f b).td = none := by
  have h9 := H.hd.rootN hl
  cases e : (f b).td with
  | none => rfl
  | some j => rw [tdAt_none] at h9; have := h9 hb (H.si b j hb e); rw [e] at this; cases this

theorem tdAt_tied {a h q : Nat} {r : Int} (hXq : X q) (hhq : h ≠ q) (tdq : (f q).td = none) (t : Int) : (t < now → tdAt Classical.propDecidable X (tiedF f a h q r now) t = tdAt Classical.propDecidable X f t) ∧ (now ≤ t → tdAt Classical.propDecidable X (tiedF f a h q r now) t = tied (tdAt Classical.propDecidable X f t) h q) := by
  have e1 : ∀ i, i ≠ q → ((tiedF f a h q r now i).td = (f i).td ∧ (tiedF f a h q r now i).si = (f i).si) := by
    intro i hi
    unfold tiedF
    rw [if_neg hi]
    split
    · rename_i e
      subst e
      split <;> exact ⟨rfl, rfl⟩
    · exact ⟨rfl, rfl⟩
  have e2 : (tiedF f a h q r now q).td = some h ∧ (tiedF f a h q r now q).si = now := by
    unfold tiedF
    rw [if_pos rfl]
    exact ⟨rfl, rfl⟩
  refine ⟨fun ht => ?_, fun ht => ?_⟩
  · funext i
    by_cases hi : i = q
    · subst hi
      have h1 : tdAt Classical.propDecidable X (tiedF f a h i r now) t i = none := tdAt_none.2 (fun _ h9 => by rw [e2.2] at h9; omega)
      have h2 : tdAt Classical.propDecidable X f t i = none := tdAt_none.2 (fun _ _ => tdq)
      rw [h1, h2]
    · unfold tdAt
      rw [(e1 i hi).1, (e1 i hi).2]
  · funext i
    by_cases hi : i = q
    · subst hi
      have h1 : tdAt Classical.propDecidable X (tiedF f a h i r now) t i = some h := tdAt_some.2 ⟨hXq, by rw [e2.2]; exact ht, e2.1⟩
      rw [h1]
      simp [tied]
    · simp only [tied, hi, if_false]
      unfold tdAt
      rw [(e1 i hi).1, (e1 i hi).2]

theorem Hist.step (H : Hist X f lk now) {lk2 : Nat → Option Nat} {a b h q : Nat} {r : Int} (hXa : X a) (hXb : X b) (hab : a ≠ b) (ha : lk a = none) (hb : lk b = none) (hq : h = a ∧ q = b ∨ h = b ∧ q = a) (hs : SameHd (tied lk h q) lk2) : Hist X (tiedF f a h q r now) lk2 now := by
  have hhq : h ≠ q := by
    rcases hq with ⟨rfl, rfl⟩ | ⟨rfl, rfl⟩
    · exact hab
    · exact fun e => hab e.symm
  have hlq : lk q = none := by rcases hq with ⟨rfl, rfl⟩ | ⟨rfl, rfl⟩ <;> assumption
  have hlh : lk h = none := by rcases hq with ⟨rfl, rfl⟩ | ⟨rfl, rfl⟩ <;> assumption
  have hXq : X q := by rcases hq with ⟨rfl, rfl⟩ | ⟨rfl, rfl⟩ <;> assumption
  have hXh : X h := by rcases hq with ⟨rfl, rfl⟩ | ⟨rfl, rfl⟩ <;> assumption
  have ht := (tdAt_tied (f := f) (now := now) (a := a) (r := r) hXq hhq (H.tdNone hXq hlq) now).2 (Int.le_refl _)
  refine ⟨H.now0, ?_, ?_, fun i j hi e => ?_, fun i j hi e => ?_, fun i hi => ?_, fun i hi e => ?_⟩
  · rw [ht]
    exact hs.symm.trans (H.hd.tied hlh hlq hhq)
  · rw [ht]
    obtain ⟨d, hd⟩ := H.acyc
    exact acyc_tied hd (H.hd.rootN hlh) (H.hd.rootN hlq) hhq
  · by_cases hiq : i = q
    · subst hiq
      simp only [tiedF, if_true, Option.some.injEq] at e
      rw [← e]; exact hXh
    · unfold tiedF at e
      rw [if_neg hiq] at e
      split at e
      · rename_i e9
        subst e9
        split at e <;> exact H.inX i j hi e
      · exact H.inX i j hi e
  · by_cases hiq : i = q
    · subst hiq
      simp [tiedF]
    · unfold tiedF at e ⊢
      rw [if_neg hiq] at e ⊢
      split at e
      · rename_i e9
        subst e9
        simp only [if_true]
        split at e
        · rename_i hk; rw [if_pos hk]; exact H.si i j hi e
        · rename_i hk; rw [if_neg hk]; exact H.si i j hi e
      · rename_i hih
        rw [if_neg hih]
        exact H.si i j hi e
  · unfold tiedF
    split
    · rename_i e9; subst e9; exact H.told i hi
    · split
      · rename_i e9
        subst e9
        split
        · exact ⟨H.now0, Int.le_refl _⟩
        · exact H.told i hi
      · exact H.told i hi
  · unfold tiedF at e ⊢
    by_cases hiq : i = q
    · subst hiq
      rw [if_pos rfl] at e ⊢
      exact H.open' i hi e
    · rw [if_neg hiq] at e ⊢
      by_cases hih : i = h
      · subst hih
        rw [if_pos rfl] at e ⊢
        by_cases hk : (f i).nd.kind = 61
        · rw [if_pos hk] at e ⊢
          exact H.open' a hXa e
        · rw [if_neg hk] at e ⊢
          exact H.open' i hi e
      · rw [if_neg hih] at e ⊢
        exact H.open' i hi e

/-- What was so at an earlier time stays as it was. -/
theorem satAt_step (K : (Option Addr × Nat × Nat) → List Nat) (H : Hist X f lk now) {a b h q : Nat} {r : Int} (hXa : X a) (hXb : X b) (hab : a ≠ b) (ha : lk a = none) (hb : lk b = none) (hq : h = a ∧ q = b ∨ h = b ∧ q = a) (t : Int) (ht : t < now) (θ : Nat → DT) : SatC X (gcAt K (tiedF f a h q r now) t) (tdAt Classical.propDecidable X (tiedF f a h q r now) t) θ ↔ SatC X (gcAt K f t) (tdAt Classical.propDecidable X f t) θ := by
  have hhq : h ≠ q := by
    rcases hq with ⟨rfl, rfl⟩ | ⟨rfl, rfl⟩
    · exact hab
    · exact fun e => hab e.symm
  have hlq : lk q = none := by rcases hq with ⟨rfl, rfl⟩ | ⟨rfl, rfl⟩ <;> assumption
  have hXq : X q := by rcases hq with ⟨rfl, rfl⟩ | ⟨rfl, rfl⟩ <;> assumption
  have hXh : X h := by rcases hq with ⟨rfl, rfl⟩ | ⟨rfl, rfl⟩ <;> assumption
  rw [(tdAt_tied (f := f) (now := now) (a := a) (r := r) hXq hhq (H.tdNone hXq hlq) t).1 ht]
  have key : ∀ i, X i → (gcAt K (tiedF f a h q r now) t i = gcAt K f t i) ∨ ((gcAt K (tiedF f a h q r now) t i).op = true ∧ (gcAt K f t i).op = true) := by
    intro i hi
    unfold gcAt tiedF
    by_cases hiq : i = q
    · subst hiq
      left
      simp [CC.open?]
    · by_cases hih : i = h
      · subst hih
        by_cases hk : (f i).nd.kind = 61
        · right
          have h1 := H.isOpen hi
          simp only [hk, decide_true] at h1
          simp [hiq, hk, h1, ht]
        · left
          simp [hiq, hk, CC.open?]
      · left
        simp [hiq, hih]
  constructor
  · rintro ⟨h1, h2⟩
    refine ⟨h1, fun i hi hl ho => ?_⟩
    rcases key i hi with e | ⟨e1, e2⟩
    · rw [← e] at ho ⊢
      exact h2 i hi hl ho
    · rw [e2] at ho; cases ho
  · rintro ⟨h1, h2⟩
    refine ⟨h1, fun i hi hl ho => ?_⟩
    rcases key i hi with e | ⟨e1, e2⟩
    · rw [e] at ho ⊢
      exact h2 i hi hl ho
    · rw [e1] at ho; cases ho

/-- Now it is as the store says. -/
theorem Hist.satNow (K : (Option Addr × Nat × Nat) → List Nat) (H : Hist X f lk now) {d : Nat → Nat} (ha : Acyc lk d) (θ : Nat → DT) : SatC X (gcAt K f now) (tdAt Classical.propDecidable X f now) θ ↔ SatC X (gc K f) lk θ := by
  obtain ⟨d', hd'⟩ := H.acyc
  rw [H.hd.sat (g := gcAt K f now) ha hd']
  have key : ∀ i, X i → gcAt K f now i = gc K f i := by
    intro i hi
    have := (H.told i hi).2
    unfold gcAt gc
    have h9 : decide (now < (f i).told) = false := decide_eq_false (by omega)
    rw [h9, Bool.false_or]
  constructor
  · rintro ⟨h1, h2⟩
    refine ⟨h1, fun i hi hl ho => ?_⟩
    rw [← key i hi] at ho ⊢
    exact h2 i hi hl ho
  · rintro ⟨h1, h2⟩
    refine ⟨h1, fun i hi hl ho => ?_⟩
    rw [key i hi] at ho ⊢
    exact h2 i hi hl ho

theorem Hist.short (H : Hist X f lk now) {lk2 : Nat → Option Nat} (hs : SameHd lk lk2) : Hist X f lk2 now :=
  { H with hd := hs.symm.trans H.hd }

theorem Ties.hist {f' : Nat → CC} {lk' : Nat → Option Nat} (h : Ties X now f lk f' lk') (H : Hist X f lk now) : Hist X f' lk' now ∧ ∀ K t θ, t < now → (SatC X (gcAt K f' t) (tdAt Classical.propDecidable X f' t) θ ↔ SatC X (gcAt K f t) (tdAt Classical.propDecidable X f t) θ) := by
  induction h using Ties.elim with
  | same hs => exact ⟨H.short hs, fun _ _ _ _ => Iff.rfl⟩
  | step _ hXa hXb hab ha hb hq _ hs ih =>
    obtain ⟨h1, h2⟩ := ih
    exact ⟨h1.step hXa hXb hab ha hb hq hs, fun K t θ ht => (satAt_step K h1 hXa hXb hab ha hb hq t ht θ).trans (h2 K t θ ht)⟩

/-- The numbers of open heads: the lowest of all unknowns that have them. -/
structure NumOk (X : Nat → Prop) (U : Int → Option Nat) (f : Nat → CC) (lk : Nat → Option Nat) : Prop where
  low : ∀ x b r, U x = some b → Hd lk b r → (f r).open? = true → (f r).nd.num ≤ x
  has : ∀ r, X r → lk r = none → (f r).open? = true → ∃ b, U (f r).nd.num = some b ∧ Hd lk b r

theorem NumOk.short {U : Int → Option Nat} (H : NumOk X U f lk) {lk2 : Nat → Option Nat} (hs : SameHd lk lk2) : NumOk X U f lk2 := by
  refine ⟨fun x b r hu hr ho => H.low x b r hu ((hs b r).2 hr) ho, fun r hX hl ho => ?_⟩
  obtain ⟨b, h1, h2⟩ := H.has r hX (hs.symm.rootN hl) ho
  exact ⟨b, h1, (hs b r).1 h2⟩

theorem open_core {c d : CC} (h : c.core = d.core) : c.open? = d.open? ∧ c.nd = d.nd := by
  obtain ⟨n1, n2, n3⟩ := core_parts h
  exact ⟨by simp [CC.open?, n1, n3], n1⟩

theorem NumOk.step {U : Int → Option Nat} (hU : NumOk X U f lk) (H : Hist X f lk now) {lk2 : Nat → Option Nat} {a b h q : Nat} {r : Int} (hXa : X a) (hXb : X b) (hab : a ≠ b) (ha : lk a = none) (hb : lk b = none) (hq : h = a ∧ q = b ∨ h = b ∧ q = a) (hm : MayTie (f a) (f b)) (hs : SameHd (tied lk h q) lk2) : NumOk X U (tiedF f a h q r now) lk2 := by
  have hhq : h ≠ q := by
    rcases hq with ⟨rfl, rfl⟩ | ⟨rfl, rfl⟩
    · exact hab
    · exact fun e => hab e.symm
  have hlq : lk q = none := by rcases hq with ⟨rfl, rfl⟩ | ⟨rfl, rfl⟩ <;> assumption
  have hlh : lk h = none := by rcases hq with ⟨rfl, rfl⟩ | ⟨rfl, rfl⟩ <;> assumption
  have hXh : X h := by rcases hq with ⟨rfl, rfl⟩ | ⟨rfl, rfl⟩ <;> assumption
  have hop : ∀ i, i ≠ h → (tiedF f a h q r now i).open? = (f i).open? ∧ (tiedF f a h q r now i).nd = (f i).nd := fun i hi => open_core (tiedF_rest f r now i hi)
  have hoh : (tiedF f a h q r now h).open? = true → (f a).open? = true ∧ (f b).open? = true ∧ (tiedF f a h q r now h).nd = (f a).nd := by
    intro ho
    have hc := tiedF_head f (a := a) hhq r now
    have ha61 := H.isOpen hXa
    have hb61 := H.isOpen hXb
    have hh61 := H.isOpen hXh
    by_cases hk : (f h).nd.kind = 61
    · rw [if_pos hk] at hc
      have hc := open_core hc
      rw [hc.1] at ho
      refine ⟨ho, ?_, hc.2⟩
      rcases hm with ⟨h1, _⟩ | ⟨h1, _⟩
      · exact h1
      · rw [h1] at ho; cases ho
    · rw [if_neg hk] at hc
      have hc := open_core hc
      rw [hc.1, hh61] at ho
      simp [hk] at ho
  refine NumOk.short ⟨fun x c r' hu hr ho => ?_, fun r' hX hl ho => ?_⟩ hs
  · rw [hd_tied hlh hlq hhq] at hr
    by_cases hrh : r' = h
    · subst hrh
      obtain ⟨o1, o2, o3⟩ := hoh ho
      rw [o3]
      have hle : (f a).nd.num ≤ (f b).nd.num := by
        rcases hm with ⟨_, h2⟩ | ⟨h1, _⟩
        · exact h2 o1
        · rw [h1] at o1; cases o1
      have hab' : Hd lk c a ∨ Hd lk c b := by
        rcases hq with ⟨rfl, rfl⟩ | ⟨rfl, rfl⟩
        · rcases hr with ⟨h1, _⟩ | ⟨h1, _⟩
          · exact .inl h1
          · exact .inr h1
        · rcases hr with ⟨h1, _⟩ | ⟨h1, _⟩
          · exact .inr h1
          · exact .inl h1
      rcases hab' with h1 | h1
      · exact hU.low x c a hu h1 o1
      · have := hU.low x c b hu h1 o2
        omega
    · rcases hr with ⟨h1, h2⟩ | ⟨_, h2⟩
      · rw [(hop r' hrh).1] at ho
        rw [(hop r' hrh).2]
        exact hU.low x c r' hu h1 ho
      · exact absurd h2 hrh
  · have hrq : r' ≠ q := fun e9 => by subst e9; simp [tied] at hl
    simp only [tied, hrq, if_false] at hl
    by_cases hrh : r' = h
    · subst hrh
      obtain ⟨o1, o2, o3⟩ := hoh ho
      obtain ⟨c, c1, c2⟩ := hU.has a hXa ha o1
      refine ⟨c, by rw [o3]; exact c1, ?_⟩
      rw [hd_tied hlh hlq hhq]
      rcases hq with ⟨rfl, rfl⟩ | ⟨rfl, rfl⟩
      · exact .inl ⟨c2, hab⟩
      · exact .inr ⟨c2, rfl⟩
    · rw [(hop r' hrh).1] at ho
      obtain ⟨c, c1, c2⟩ := hU.has r' hX hl ho
      refine ⟨c, by rw [(hop r' hrh).2]; exact c1, ?_⟩
      rw [hd_tied hlh hlq hhq]
      exact .inl ⟨c2, hrq⟩

theorem Ties.num {U : Int → Option Nat} {f' : Nat → CC} {lk' : Nat → Option Nat} (h : Ties X now f lk f' lk') (H : Hist X f lk now) (hU : NumOk X U f lk) : NumOk X U f' lk' := by
  induction h using Ties.elim with
  | same hs => exact hU.short hs
  | step h1 hXa hXb hab ha hb hq hm hs ih => exact ih.step (h1.hist H).1 hXa hXb hab ha hb hq hm hs

end

end Go.Proofs.YthioecjcnajmgaaGreatDoor
