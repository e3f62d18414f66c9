import Derived.Test.YthioecjcnajmgaaGreatDoorWAB
import Derived.Test.YthioecjcnajmgaaGreatDoorWAA
namespace Go.Proofs.YthioecjcnajmgaaGreatDoor

open Go.RowKit

/-- A cell's kids: a slice of pointers in a block that isn't a cell's. -/
def KidRow (w : World) (X : Nat → Prop) (s : Option Addr × Nat × Nat) (l : List Nat) : Prop :=
  (s.2.1 = l.length ∧ l.length ≤ 20000 ∧ l.length ≤ s.2.2) ∧ (l = [] ∨ ∃ g cur, s.1 = some ⟨g, 0, none⟩ ∧ ¬ X g ∧ g < w.heap.size ∧ w.heap[g]? = some (.cells cur 69 (0, 0)) ∧ ∀ i (h : i < l.length), cur[i]? = some (.pointer (some ⟨l[i], 0, none⟩)))

/-- The store: its cells, their forest, their kids. -/
structure CSto (w : World) (X : Nat → Prop) (f : Nat → CC) (lk : Nat → Option Nat) (d : Nat → Nat) (K : (Option Addr × Nat × Nat) → List Nat) : Prop where
  cells : Cells w X f lk
  acyc : Acyc lk d
  rows : ∀ b, X b → KidRow w X (f b).ks (K (f b).ks)
  inX : ∀ b, X b → ∀ k ∈ K (f b).ks, X k
  arity : ∀ b, X b → ((K (f b).ks).length : Int) = (f b).nd.kids
  met : ∀ b, X b → (f b).nd.kind = 61 → K (f b).ks = []
  low : ∀ b, X b → (f b).lv ≤ 1

/-- What a cell says. -/
def gc (K : (Option Addr × Nat × Nat) → List Nat) (f : Nat → CC) : Nat → GC := fun i => ⟨(f i).nd, K (f i).ks, (f i).open?⟩

theorem KidRow.but {w w' : World} {X : Nat → Prop} {s : Option Addr × Nat × Nat} {l : List Nat} (h : KidRow w X s l) (hb : But X w w') : KidRow w' X s l := by
  refine ⟨h.1, ?_⟩
  rcases h.2 with e | ⟨g, cur, h1, h2, h3, h4, h5⟩
  · exact .inl e
  · exact .inr ⟨g, cur, h1, h2, Nat.lt_of_lt_of_le h3 hb.size, (hb.block g h3 h2).trans h4, h5⟩

/-- Every cell has a head. -/
theorem Acyc.head {lk : Nat → Option Nat} {d : Nat → Nat} (ha : Acyc lk d) : ∀ n i, d i < n → ∃ r, Hd lk i r := by
  intro n
  induction n with
  | zero => intro i h; omega
  | succ n ih =>
    intro i h
    cases e : lk i with
    | none => exact ⟨i, .root e⟩
    | some j =>
      obtain ⟨r, hr⟩ := ih j (by have := ha i j e; omega)
      exact ⟨r, .step e hr⟩

theorem Hd.inX {w : World} {X : Nat → Prop} {f : Nat → CC} {lk : Nat → Option Nat} (h : Cells w X f lk) {i r : Nat} (hr : Hd lk i r) (hi : X i) : X r := by
  induction hr using Hd.elim with
  | root _ => exact hi
  | step h1 _ ih => exact ih (h.link _ _ h1).2

theorem Hd.sat {X : Nat → Prop} {g : Nat → GC} {lk : Nat → Option Nat} {θ : Nat → DT} (hs : SatC X g lk θ) {i r : Nat} (hr : Hd lk i r) : θ i = θ r := by
  induction hr using Hd.elim with
  | root _ => rfl
  | step h1 _ ih => exact (hs.1 _ _ h1).trans ih

theorem sat_links {lk : Nat → Option Nat} {d : Nat → Nat} (ha : Acyc lk d) {θ : Nat → DT} : (∀ i j, lk i = some j → θ i = θ j) ↔ ∀ i r, Hd lk i r → θ i = θ r := by
  constructor
  · intro h i r hr
    induction hr using Hd.elim with
    | root _ => rfl
    | step h1 _ ih => exact (h _ _ h1).trans ih
  · intro h i j e
    obtain ⟨r, hr⟩ := ha.head _ j (Nat.lt_succ_self _)
    rw [h i r (.step e hr), h j r hr]

theorem root_iff (lk : Nat → Option Nat) (i : Nat) : lk i = none ↔ Hd lk i i := by
  constructor
  · exact fun h => .root h
  · exact fun h => h.is_root

/-- Forests with the same heads ask the same. -/
theorem SameHd.sat {X : Nat → Prop} {g : Nat → GC} {lk lk' : Nat → Option Nat} {d d' : Nat → Nat} (h : SameHd lk lk') (ha : Acyc lk d) (ha' : Acyc lk' d') (θ : Nat → DT) : SatC X g lk' θ ↔ SatC X g lk θ := by
  unfold SatC
  rw [sat_links ha, sat_links ha']
  constructor
  · rintro ⟨h1, h2⟩
    exact ⟨fun i r hr => h1 i r ((h i r).1 hr), fun i hi hl => h2 i hi ((root_iff lk' i).2 ((h i i).1 ((root_iff lk i).1 hl)))⟩
  · rintro ⟨h1, h2⟩
    exact ⟨fun i r hr => h1 i r ((h i r).2 hr), fun i hi hl => h2 i hi ((root_iff lk i).2 ((h i i).2 ((root_iff lk' i).1 hl)))⟩

/-- Two heads are tied: links lead somewhere still. -/
theorem acyc_tied {lk : Nat → Option Nat} {d : Nat → Nat} (ha : Acyc lk d) {h q : Nat} (hh : lk h = none) (hq : lk q = none) (hne : h ≠ q) : ∃ d', Acyc (tied lk h q) d' := by
  classical
  refine ⟨fun i => d i + if Hd lk i q then d h + 1 else 0, fun i j e => ?_⟩
  by_cases hi : i = q
  · subst hi
    simp [tied] at e
    subst e
    have h1 : Hd lk i i := .root hq
    have h2 : ¬ Hd lk h i := fun h9 => hne ((Hd.root hh).fun h9)
    simp [h1, h2]
    omega
  · simp only [tied, hi, if_false] at e
    have h1 : Hd lk i q ↔ Hd lk j q := by
      constructor
      · intro h9
        cases h9 using Hd.inv with
        | root h8 => rw [h8] at e; cases e
        | step h8 h7 => rw [h8] at e; cases e; exact h7
      · exact fun h9 => .step e h9
    have := ha i j e
    by_cases h9 : Hd lk j q
    · simp [h1.2 h9, h9]; omega
    · have : ¬ Hd lk i q := fun h8 => h9 (h1.1 h8)
      simp [this, h9]; omega

/-- Behind a head's call. -/
theorem CSto.short {w w' : World} {X : Nat → Prop} {f : Nat → CC} {lk lk' : Nat → Option Nat} {d : Nat → Nat} {K : (Option Addr × Nat × Nat) → List Nat} (h : CSto w X f lk d K) (hc : Cells w' X f lk') (ha : Acyc lk' d) (hb : But X w w') : CSto w' X f lk' d K :=
  ⟨hc, ha, fun b hx => (h.rows b hx).but hb, h.inX, h.arity, h.met, h.low⟩

/-- What a cell says: its node, its kids, its level. -/
def CC.core (c : CC) : Nd × (Option Addr × Nat × Nat) × Int := (c.nd, c.ks, c.lv)

theorem core_parts {c d : CC} (h : c.core = d.core) : c.nd = d.nd ∧ c.ks = d.ks ∧ c.lv = d.lv := by
  simp only [CC.core, Prod.mk.injEq] at h
  exact ⟨h.1, h.2.1, h.2.2⟩

theorem tiedF_rest (f : Nat → CC) {a h q : Nat} (r t : Int) : ∀ i, i ≠ h → (tiedF f a h q r t i).core = (f i).core := by
  intro i hi
  unfold tiedF
  by_cases e : i = q
  · subst e
    rw [if_pos rfl]
    rfl
  · rw [if_neg e, if_neg hi]

theorem tiedF_head (f : Nat → CC) {a h q : Nat} (hne : h ≠ q) (r t : Int) : (tiedF f a h q r t h).core = if (f h).nd.kind = 61 then (f a).core else (f h).core := by
  unfold tiedF
  rw [if_neg hne, if_pos rfl]
  split <;> rfl

/-- Behind a tie. -/
theorem CSto.tied {w w' : World} {X : Nat → Prop} {f f' : Nat → CC} {lk : Nat → Option Nat} {d : Nat → Nat} {K : (Option Addr × Nat × Nat) → List Nat} (H : CSto w X f lk d K) {a b h q : Nat} (hXa : X a) (hXh : X h) (hab : a ≠ b) (ha : lk a = none) (hb : lk b = none) (hq : h = a ∧ q = b ∨ h = b ∧ q = a)
    (hc : Cells w' X f' (tied lk h q)) (hf : ∀ i, i ≠ h → (f' i).core = (f i).core) (e1 : (f' h).core = (f a).core ∨ (f' h).core = (f h).core) (hB : But X w w') : ∃ d', CSto w' X f' (tied lk h q) d' K := by
  have hhq : h ≠ q := by
    rcases hq with ⟨rfl, rfl⟩ | ⟨rfl, rfl⟩
    · exact hab
    · exact fun e => hab e.symm
  have hlq : lk q = none := by rcases hq with ⟨rfl, rfl⟩ | ⟨rfl, rfl⟩ <;> assumption
  have hlh : lk h = none := by rcases hq with ⟨rfl, rfl⟩ | ⟨rfl, rfl⟩ <;> assumption
  obtain ⟨d', hd'⟩ := acyc_tied H.acyc hlh hlq hhq
  have key : ∀ x, X x → ∃ y, X y ∧ (f' x).core = (f y).core := by
    intro x hx
    by_cases e : x = h
    · subst e
      rcases e1 with e1 | e1
      · exact ⟨a, hXa, e1⟩
      · exact ⟨x, hXh, e1⟩
    · exact ⟨x, hx, hf x e⟩
  refine ⟨d', hc, hd', fun x hx => ?_, fun x hx => ?_, fun x hx => ?_, fun x hx => ?_, fun x hx => ?_⟩
  all_goals
    obtain ⟨y, hy, e9⟩ := key x hx
    obtain ⟨n1, n2, n3⟩ := core_parts e9
  · rw [n2]; exact (H.rows y hy).but hB
  · rw [n2]; exact H.inX y hy
  · rw [n1, n2]; exact H.arity y hy
  · rw [n1, n2]; exact H.met y hy
  · rw [n3]; exact H.low y hy

theorem gc_core {K : (Option Addr × Nat × Nat) → List Nat} {f f' : Nat → CC} {a h : Nat} (e : (f' h).core = (f a).core) : gc K f' h = gc K f a := by
  obtain ⟨n1, n2, n3⟩ := core_parts e
  simp [gc, CC.open?, n1, n2, n3]

/-- What may be said of two heads that are tied at once: the second is open and the first, where it is open too, has no higher number; or neither is open and their nodes are the same. -/
def MayTie (x y : CC) : Prop := (y.open? = true ∧ (x.open? = true → x.nd.num ≤ y.nd.num)) ∨ (x.open? = false ∧ y.open? = false ∧ x.nd = y.nd)

/-- A store to which another has come by ties at a time (and by links that were shortened). -/
def TiesF (X : Nat → Prop) (t : Int) (f : Nat → CC) (lk : Nat → Option Nat) (R : (Nat → CC) × (Nat → Option Nat) → Prop) (x : (Nat → CC) × (Nat → Option Nat)) : Prop :=
  (∃ (lk' : Nat → Option Nat), x = (f, lk') ∧ (SameHd lk lk')) ∨
  (∃ (f1 : Nat → CC) (lk1 lk2 : Nat → Option Nat) (a b h q : Nat) (r : Int), x = (tiedF f1 a h q r t, lk2) ∧ (R (f1, lk1)) ∧ (X a) ∧ (X b) ∧ (a ≠ b) ∧ (lk1 a = none) ∧ (lk1 b = none) ∧ (h = a ∧ q = b ∨ h = b ∧ q = a) ∧ (MayTie (f1 a) (f1 b)) ∧ (SameHd (tied lk1 h q) lk2))

structure Ties (X : Nat → Prop) (t : Int) (f : Nat → CC) (lk : Nat → Option Nat) (f' : Nat → CC) (lk' : Nat → Option Nat) : Prop where
  of ::
  lfp : Lfp (TiesF X t f lk) (f', lk')

theorem Ties.grows (X : Nat → Prop) (t : Int) (f : Nat → CC) (lk : Nat → Option Nat) : Grows (TiesF X t f lk) := by
  rintro R R' x h0 (⟨lk', e0, h⟩ | ⟨f1, lk1, lk2, a, b, h, q, r, e0, k, ha, hb, hab, hla, hlb, hq, hm, hs⟩)
  · exact .inl ⟨lk', e0, h⟩
  · exact .inr (⟨f1, lk1, lk2, a, b, h, q, r, e0, h0 _ k, ha, hb, hab, hla, hlb, hq, hm, hs⟩)

theorem Ties.same {X : Nat → Prop} {t : Int} {f : Nat → CC} {lk : Nat → Option Nat} {lk' : Nat → Option Nat} (h : SameHd lk lk') : Ties X t f lk f lk' :=
  ⟨Lfp.fold (Ties.grows X t f lk) (.inl ⟨lk', rfl, h⟩)⟩

theorem Ties.step {X : Nat → Prop} {t : Int} {f : Nat → CC} {lk : Nat → Option Nat} {f1 : Nat → CC} {lk1 lk2 : Nat → Option Nat} {a b h q : Nat} {r : Int} (k : Ties X t f lk f1 lk1) (ha : X a) (hb : X b) (hab : a ≠ b) (hla : lk1 a = none) (hlb : lk1 b = none) (hq : h = a ∧ q = b ∨ h = b ∧ q = a) (hm : MayTie (f1 a) (f1 b)) (hs : SameHd (tied lk1 h q) lk2) : Ties X t f lk (tiedF f1 a h q r t) lk2 :=
  ⟨Lfp.fold (Ties.grows X t f lk) (.inr (⟨f1, lk1, lk2, a, b, h, q, r, rfl, k.lfp, ha, hb, hab, hla, hlb, hq, hm, hs⟩))⟩

theorem Ties.elim {X : Nat → Prop} {t : Int} {f : Nat → CC} {lk : Nat → Option Nat} {motive : ∀ f' lk', Ties X t f lk f' lk' → Prop}
    (same : ∀ {lk' : Nat → Option Nat} (h : SameHd lk lk'), motive f lk' (Ties.same (lk' := lk') h))
    (step : ∀ {f1 : Nat → CC} {lk1 lk2 : Nat → Option Nat} {a b h q : Nat} {r : Int} (k : Ties X t f lk f1 lk1) (ha : X a) (hb : X b) (hab : a ≠ b) (hla : lk1 a = none) (hlb : lk1 b = none) (hq : h = a ∧ q = b ∨ h = b ∧ q = a) (hm : MayTie (f1 a) (f1 b)) (hs : SameHd (tied lk1 h q) lk2), motive f1 lk1 (k) → motive (tiedF f1 a h q r t) lk2 (Ties.step (f1 := f1) (lk1 := lk1) (lk2 := lk2) (a := a) (b := b) (h := h) (q := q) (r := r) k ha hb hab hla hlb hq hm hs))
    {f' : Nat → CC} {lk' : Nat → Option Nat} (h : Ties X t f lk f' lk') : motive f' lk' h := by
  have key : ∀ h, motive (f', lk').1 (f', lk').2 h := Lfp.ind (Ties.grows X t f lk) (p := fun x => ∀ h, motive x.1 x.2 h) (by
    rintro x (⟨lk', e0, h⟩ | ⟨f1, lk1, lk2, a, b, h, q, r, e0, k, ha, hb, hab, hla, hlb, hq, hm, hs⟩) h9
    · subst e0; exact same (lk' := lk') h
    · subst e0; exact step (f1 := f1) (lk1 := lk1) (lk2 := lk2) (a := a) (b := b) (h := h) (q := q) (r := r) ⟨k.1⟩ ha hb hab hla hlb hq hm hs (k.2 _)) h.lfp
  exact key h

theorem Ties.inv {X : Nat → Prop} {t : Int} {f : Nat → CC} {lk : Nat → Option Nat} {motive : ∀ f' lk', Ties X t f lk f' lk' → Prop}
    (same : ∀ {lk' : Nat → Option Nat} (h : SameHd lk lk'), motive f lk' (Ties.same (lk' := lk') h))
    (step : ∀ {f1 : Nat → CC} {lk1 lk2 : Nat → Option Nat} {a b h q : Nat} {r : Int} (k : Ties X t f lk f1 lk1) (ha : X a) (hb : X b) (hab : a ≠ b) (hla : lk1 a = none) (hlb : lk1 b = none) (hq : h = a ∧ q = b ∨ h = b ∧ q = a) (hm : MayTie (f1 a) (f1 b)) (hs : SameHd (tied lk1 h q) lk2), motive (tiedF f1 a h q r t) lk2 (Ties.step (f1 := f1) (lk1 := lk1) (lk2 := lk2) (a := a) (b := b) (h := h) (q := q) (r := r) k ha hb hab hla hlb hq hm hs))
    {f' : Nat → CC} {lk' : Nat → Option Nat} (h : Ties X t f lk f' lk') : motive f' lk' h := by
  induction h using Ties.elim with
  | same h => exact same h
  | step k ha hb hab hla hlb hq hm hs _ => exact step k ha hb hab hla hlb hq hm hs

theorem Ties.refl (X : Nat → Prop) (t : Int) (f : Nat → CC) (lk : Nat → Option Nat) : Ties X t f lk f lk := .same (SameHd.refl lk)

theorem Ties.short {X : Nat → Prop} {t : Int} {f f' : Nat → CC} {lk lk' lk2 : Nat → Option Nat} (h : Ties X t f lk f' lk') (hs : SameHd lk' lk2) : Ties X t f lk f' lk2 := by
  cases h using Ties.inv with
  | same h1 => exact .same (h1.trans hs)
  | step h1 h2 h3 h4 h5 h6 h7 h8 h9 => exact .step h1 h2 h3 h4 h5 h6 h7 h8 (h9.trans hs)

theorem Ties.trans {X : Nat → Prop} {t : Int} {f f1 f2 : Nat → CC} {lk lk1 lk2 : Nat → Option Nat} (h : Ties X t f lk f1 lk1) (h' : Ties X t f1 lk1 f2 lk2) : Ties X t f lk f2 lk2 := by
  induction h' using Ties.elim with
  | same h1 => exact h.short h1
  | step _ h2 h3 h4 h5 h6 h7 h8 h9 ih => exact .step ih h2 h3 h4 h5 h6 h7 h8 h9

theorem SameHd.symm {a b : Nat → Option Nat} (h : SameHd a b) : SameHd b a := fun i r => (h i r).symm

theorem CSto.still {w w' : World} {X : Nat → Prop} {f : Nat → CC} {lk : Nat → Option Nat} {d : Nat → Nat} {K : (Option Addr × Nat × Nat) → List Nat} (h : CSto w X f lk d K) (hb : But (fun _ => False) w w') : CSto w' X f lk d K :=
  h.short (h.cells.but hb (fun _ _ h => h)) h.acyc (hb.mono (fun _ h => h.elim))

end Go.Proofs.YthioecjcnajmgaaGreatDoor
