import Derived.Test.YtljdcaoibnikjaaWAA
namespace Go.Proofs.Ytljdcaoibnikjaa

/-- Types, perhaps without end: what stands at each place. -/
abbrev DT := List Nat → Option Nd

/-- A node over its kids. -/
def con (n : Nd) (ds : List DT) : DT
  | [] => some n
  | i :: p => match ds[i]? with
    | some d => d p
    | none => none

theorem con_nd {n m : Nd} {ds es : List DT} (h : con n ds = con m es) : n = m := by
  have := congrFun h []
  simpa [con] using this

theorem con_kids {n m : Nd} {ds es : List DT} (h : con n ds = con m es) (hl : ds.length = es.length) : ds = es := by
  apply List.ext_getElem hl
  intro i h1 h2
  funext p
  have := congrFun h (i :: p)
  simpa [con, List.getElem?_eq_getElem h1, List.getElem?_eq_getElem h2] using this

/-- What a cell says, without the store: its node, its kids, and whether it is an unknown that may be told. -/
structure GC where
  nd : Nd
  ks : List Nat
  op : Bool

/-- The types of all cells agree with what the cells say: linked ones are the same, and a head that isn't open is its node over its kids. -/
def SatC (X : Nat → Prop) (g : Nat → GC) (lk : Nat → Option Nat) (θ : Nat → DT) : Prop :=
  (∀ i j, lk i = some j → θ i = θ j) ∧ ∀ i, X i → lk i = none → (g i).op = false → θ i = con (g i).nd ((g i).ks.map θ)

/-- The same, but for what one cell says. -/
def SatW (X : Nat → Prop) (g : Nat → GC) (lk : Nat → Option Nat) (b : Nat) (θ : Nat → DT) : Prop :=
  (∀ i j, lk i = some j → θ i = θ j) ∧ ∀ i, X i → i ≠ b → lk i = none → (g i).op = false → θ i = con (g i).nd ((g i).ks.map θ)

theorem sat_w {X : Nat → Prop} {g : Nat → GC} {lk : Nat → Option Nat} {b : Nat} {θ : Nat → DT} (hX : X b) (hb : lk b = none) : SatC X g lk θ ↔ SatW X g lk b θ ∧ ((g b).op = false → θ b = con (g b).nd ((g b).ks.map θ)) := by
  constructor
  · rintro ⟨h1, h2⟩
    exact ⟨⟨h1, fun i hi _ => h2 i hi⟩, h2 b hX hb⟩
  · rintro ⟨⟨h1, h2⟩, h3⟩
    refine ⟨h1, fun i hi hl ho => ?_⟩
    by_cases hib : i = b
    · subst hib; exact h3 ho
    · exact h2 i hi hib hl ho

/-- A forest in which a head is linked to another. -/
def tied (lk : Nat → Option Nat) (h q : Nat) : Nat → Option Nat := fun i => if i = q then some h else lk i

theorem sat_tie {X : Nat → Prop} {g g' : Nat → GC} {lk : Nat → Option Nat} {a b h q : Nat} (hXa : X a) (hXb : X b) (hab : a ≠ b) (ha : lk a = none) (hb : lk b = none) (hq : h = a ∧ q = b ∨ h = b ∧ q = a) (hg : g' h = g a) (hg' : ∀ i, i ≠ h → g' i = g i) (θ : Nat → DT) :
    SatC X g' (tied lk h q) θ ↔ SatW X g lk b θ ∧ θ a = θ b := by
  have hhq : h ≠ q := by
    rcases hq with ⟨rfl, rfl⟩ | ⟨rfl, rfl⟩
    · exact hab
    · exact fun e => hab e.symm
  have hlq : lk q = none := by rcases hq with ⟨rfl, rfl⟩ | ⟨rfl, rfl⟩ <;> assumption
  have hlh : lk h = none := by rcases hq with ⟨rfl, rfl⟩ | ⟨rfl, rfl⟩ <;> assumption
  have hXh : X h := by rcases hq with ⟨rfl, rfl⟩ | ⟨rfl, rfl⟩ <;> assumption
  have hth : tied lk h q h = none := by simp [tied, hhq, hlh]
  have hother : ∀ i, i ≠ h → i ≠ q → i ≠ a ∧ i ≠ b := by rcases hq with ⟨rfl, rfl⟩ | ⟨rfl, rfl⟩ <;> exact fun i h1 h2 => by simp_all
  have habq : ∀ i, i ≠ a → i ≠ b → i ≠ h ∧ i ≠ q := by rcases hq with ⟨rfl, rfl⟩ | ⟨rfl, rfl⟩ <;> exact fun i h1 h2 => by simp_all
  constructor
  · rintro ⟨h1, h2⟩
    have e0 : θ q = θ h := h1 q h (by simp [tied])
    have e1 : θ a = θ b := by rcases hq with ⟨rfl, rfl⟩ | ⟨rfl, rfl⟩ <;> simp [e0]
    have eh : θ h = θ a := by rcases hq with ⟨rfl, rfl⟩ | ⟨rfl, rfl⟩ <;> simp [e1]
    refine ⟨⟨fun i j e => ?_, fun i hi hib hl ho => ?_⟩, e1⟩
    · refine h1 i j ?_
      have : i ≠ q := fun e9 => by subst e9; rw [hlq] at e; cases e
      simp [tied, this, e]
    · by_cases hia : i = a
      · subst hia
        have := h2 h hXh hth (by rw [hg]; exact ho)
        rw [hg, eh] at this
        exact this
      · obtain ⟨n1, n2⟩ := habq i hia hib
        have := h2 i hi (by simp [tied, n2, hl]) (by rw [hg' i n1]; exact ho)
        rw [hg' i n1] at this
        exact this
  · rintro ⟨⟨h1, h2⟩, e1⟩
    have eh : θ h = θ a := by rcases hq with ⟨rfl, rfl⟩ | ⟨rfl, rfl⟩ <;> simp [e1]
    have eq : θ q = θ a := by rcases hq with ⟨rfl, rfl⟩ | ⟨rfl, rfl⟩ <;> simp [e1]
    refine ⟨fun i j e => ?_, fun i hi hl ho => ?_⟩
    · by_cases hiq : i = q
      · subst hiq
        simp [tied] at e
        subst e
        rw [eq, eh]
      · simp only [tied, hiq, if_false] at e
        exact h1 i j e
    · have hiq : i ≠ q := fun e9 => by subst e9; simp [tied] at hl
      simp only [tied, hiq, if_false] at hl
      by_cases hih : i = h
      · subst hih
        rw [hg] at ho ⊢
        rw [eh]
        exact h2 a hXa hab ha ho
      · obtain ⟨n1, n2⟩ := hother i hih hiq
        rw [hg' i hih] at ho ⊢
        exact h2 i hi n2 hl ho

/-- The second one is open: no more is asked. -/
theorem sat_open {X : Nat → Prop} {g g' : Nat → GC} {lk : Nat → Option Nat} {a b h q : Nat} (hXa : X a) (hXb : X b) (hab : a ≠ b) (ha : lk a = none) (hb : lk b = none) (hq : h = a ∧ q = b ∨ h = b ∧ q = a) (hg : g' h = g a) (hg' : ∀ i, i ≠ h → g' i = g i) (ho : (g b).op = true) (θ : Nat → DT) :
    SatC X g' (tied lk h q) θ ↔ SatC X g lk θ ∧ θ a = θ b := by
  rw [sat_tie hXa hXb hab ha hb hq hg hg', sat_w (g := g) hXb hb]
  constructor
  · rintro ⟨h1, h2⟩
    exact ⟨⟨h1, fun e => by rw [ho] at e; cases e⟩, h2⟩
  · rintro ⟨⟨h1, _⟩, h2⟩
    exact ⟨h1, h2⟩

/-- Neither is open and their nodes are the same: their kids are the same too. -/
theorem sat_both {X : Nat → Prop} {g g' : Nat → GC} {lk : Nat → Option Nat} {a b h q : Nat} (hXa : X a) (hXb : X b) (hab : a ≠ b) (ha : lk a = none) (hb : lk b = none) (hq : h = a ∧ q = b ∨ h = b ∧ q = a) (hg : g' h = g a) (hg' : ∀ i, i ≠ h → g' i = g i) (hoa : (g a).op = false) (hob : (g b).op = false) (hn : (g a).nd = (g b).nd) (hl : (g a).ks.length = (g b).ks.length) (θ : Nat → DT) :
    (SatC X g' (tied lk h q) θ ∧ (g a).ks.map θ = (g b).ks.map θ) ↔ SatC X g lk θ ∧ θ a = θ b := by
  rw [sat_tie hXa hXb hab ha hb hq hg hg', sat_w (g := g) hXb hb]
  constructor
  · rintro ⟨⟨h1, h2⟩, h3⟩
    refine ⟨⟨h1, fun _ => ?_⟩, h2⟩
    rw [← h2, ← hn, ← h3]
    exact h1.2 a hXa hab ha hoa
  · rintro ⟨⟨h1, h3⟩, h2⟩
    refine ⟨⟨h1, h2⟩, ?_⟩
    have e1 := h1.2 a hXa hab ha hoa
    have e2 := h3 hob
    rw [← h2, e1] at e2
    exact con_kids e2 (by simpa using hl)

/-- Neither is open and their nodes are not the same. -/
theorem sat_clash {X : Nat → Prop} {g : Nat → GC} {lk : Nat → Option Nat} {a b : Nat} (hXa : X a) (hXb : X b) (ha : lk a = none) (hb : lk b = none) (hoa : (g a).op = false) (hob : (g b).op = false) (hn : (g a).nd ≠ (g b).nd) (θ : Nat → DT) (hs : SatC X g lk θ) : θ a ≠ θ b := by
  intro e
  have e1 := hs.2 a hXa ha hoa
  have e2 := hs.2 b hXb hb hob
  rw [← e, e1] at e2
  exact hn (con_nd e2)

/-- A cell and its head are the same. -/
theorem SatC.head {X : Nat → Prop} {g : Nat → GC} {lk : Nat → Option Nat} {θ : Nat → DT} (hs : SatC X g lk θ) {P : Nat → Nat → Prop} (hP : ∀ i r, P i r → i = r ∨ ∃ j, lk i = some j ∧ P j r) (d : Nat → Nat) (hd : ∀ i j, lk i = some j → d j < d i) : ∀ n i r, d i < n → P i r → θ i = θ r := by
  intro n
  induction n with
  | zero => intro i r h; omega
  | succ n ih =>
    intro i r h hp
    rcases hP i r hp with e | ⟨j, e, hj⟩
    · rw [e]
    · rw [hs.1 i j e]
      exact ih j r (by have := hd i j e; omega) hj

end Go.Proofs.Ytljdcaoibnikjaa
