import Derived.Test.YtljdcaoibnikjaaWAW
import Derived.Test.YtljdcaoibnikjaaWBA
namespace Go.Proofs.Ytljdcaoibnikjaa

open Go.RowKit

/-- What may be said of two heads that are tied at once: the second is open and the first, where it is open too, has no higher number; or neither is open and their nodes are the same. -/
def MayTie (x y : CC) : Prop := (y.open? = true ∧ (x.open? = true → x.nd.num ≤ y.nd.num)) ∨ (x.open? = false ∧ y.open? = false ∧ x.nd = y.nd)

/-- A store to which another has come by ties at a time (and by links that were shortened). -/
def TiesF (X : Nat → Prop) (t : Int) (f : Nat → CC) (lk : Nat → Option Nat) (R : (Nat → CC) × (Nat → Option Nat) → Prop) (x : (Nat → CC) × (Nat → Option Nat)) : Prop :=
  (∃ (lk' : Nat → Option Nat), x = (f, lk') ∧ (SameHd lk lk')) ∨
  (∃ (f1 : Nat → CC) (lk1 lk2 : Nat → Option Nat) (a b h q : Nat) (r : Int), x = (tiedF f1 a h q r t, lk2) ∧ (R (f1, lk1)) ∧ (X a) ∧ (X b) ∧ (a ≠ b) ∧ (lk1 a = none) ∧ (lk1 b = none) ∧ (h = a ∧ q = b ∨ h = b ∧ q = a) ∧ (MayTie (f1 a) (f1 b)) ∧ (SameHd (tied lk1 h q) lk2))

structure Ties (X : Nat → Prop) (t : Int) (f : Nat → CC) (lk : Nat → Option Nat) (f' : Nat → CC) (lk' : Nat → Option Nat) : Prop where
  of ::
  lfp : Lfp (TiesF X t f lk) (f', lk')

theorem Ties.grows (X : Nat → Prop) (t : Int) (f : Nat → CC) (lk : Nat → Option Nat) : Grows (TiesF X t f lk) := by
  rintro R R' x h0 (⟨lk', e0, h⟩ | ⟨f1, lk1, lk2, a, b, h, q, r, e0, k, ha, hb, hab, hla, hlb, hq, hm, hs⟩)
  · exact .inl ⟨lk', e0, h⟩
  · exact .inr (⟨f1, lk1, lk2, a, b, h, q, r, e0, h0 _ k, ha, hb, hab, hla, hlb, hq, hm, hs⟩)

theorem Ties.same {X : Nat → Prop} {t : Int} {f : Nat → CC} {lk : Nat → Option Nat} {lk' : Nat → Option Nat} (h : SameHd lk lk') : Ties X t f lk f lk' :=
  ⟨Lfp.fold (Ties.grows X t f lk) (.inl ⟨lk', rfl, h⟩)⟩

theorem Ties.step {X : Nat → Prop} {t : Int} {f : Nat → CC} {lk : Nat → Option Nat} {f1 : Nat → CC} {lk1 lk2 : Nat → Option Nat} {a b h q : Nat} {r : Int} (k : Ties X t f lk f1 lk1) (ha : X a) (hb : X b) (hab : a ≠ b) (hla : lk1 a = none) (hlb : lk1 b = none) (hq : h = a ∧ q = b ∨ h = b ∧ q = a) (hm : MayTie (f1 a) (f1 b)) (hs : SameHd (tied lk1 h q) lk2) : Ties X t f lk (tiedF f1 a h q r t) lk2 :=
  ⟨Lfp.fold (Ties.grows X t f lk) (.inr (⟨f1, lk1, lk2, a, b, h, q, r, rfl, k.lfp, ha, hb, hab, hla, hlb, hq, hm, hs⟩))⟩

theorem Ties.elim {X : Nat → Prop} {t : Int} {f : Nat → CC} {lk : Nat → Option Nat} {motive : ∀ f' lk', Ties X t f lk f' lk' → Prop}
    (same : ∀ {lk' : Nat → Option Nat} (h : SameHd lk lk'), motive f lk' (Ties.same (lk' := lk') h))
    (step : ∀ {f1 : Nat → CC} {lk1 lk2 : Nat → Option Nat} {a b h q : Nat} {r : Int} (k : Ties X t f lk f1 lk1) (ha : X a) (hb : X b) (hab : a ≠ b) (hla : lk1 a = none) (hlb : lk1 b = none) (hq : h = a ∧ q = b ∨ h = b ∧ q = a) (hm : MayTie (f1 a) (f1 b)) (hs : SameHd (tied lk1 h q) lk2), motive f1 lk1 (k) → motive (tiedF f1 a h q r t) lk2 (Ties.step (f1 := f1) (lk1 := lk1) (lk2 := lk2) (a := a) (b := b) (h := h) (q := q) (r := r) k ha hb hab hla hlb hq hm hs))
    {f' : Nat → CC} {lk' : Nat → Option Nat} (h : Ties X t f lk f' lk') : motive f' lk' h := by
  have key : ∀ h, motive (f', lk').1 (f', lk').2 h := Lfp.ind (Ties.grows X t f lk) (p := fun x => ∀ h, motive x.1 x.2 h) (by
    rintro x (⟨lk', e0, h⟩ | ⟨f1, lk1, lk2, a, b, h, q, r, e0, k, ha, hb, hab, hla, hlb, hq, hm, hs⟩) h9
    · subst e0; exact same (lk' := lk') h
    · subst e0; exact step (f1 := f1) (lk1 := lk1) (lk2 := lk2) (a := a) (b := b) (h := h) (q := q) (r := r) ⟨k.1⟩ ha hb hab hla hlb hq hm hs (k.2 _)) h.lfp
  exact key h

theorem Ties.inv {X : Nat → Prop} {t : Int} {f : Nat → CC} {lk : Nat → Option Nat} {motive : ∀ f' lk', Ties X t f lk f' lk' → Prop}
    (same : ∀ {lk' : Nat → Option Nat} (h : SameHd lk lk'), motive f lk' (Ties.same (lk' := lk') h))
    (step : ∀ {f1 : Nat → CC} {lk1 lk2 : Nat → Option Nat} {a b h q : Nat} {r : Int} (k : Ties X t f lk f1 lk1) (ha : X a) (hb : X b) (hab : a ≠ b) (hla : lk1 a = none) (hlb : lk1 b = none) (hq : h = a ∧ q = b ∨ h = b ∧ q = a) (hm : MayTie (f1 a) (f1 b)) (hs : SameHd (tied lk1 h q) lk2), motive (tiedF f1 a h q r t) lk2 (Ties.step (f1 := f1) (lk1 := lk1) (lk2 := lk2) (a := a) (b := b) (h := h) (q := q) (r := r) k ha hb hab hla hlb hq hm hs))
    {f' : Nat → CC} {lk' : Nat → Option Nat} (h : Ties X t f lk f' lk') : motive f' lk' h := by
  induction h using Ties.elim with
  | same h => exact same h
  | step k ha hb hab hla hlb hq hm hs _ => exact step k ha hb hab hla hlb hq hm hs

theorem Ties.refl (X : Nat → Prop) (t : Int) (f : Nat → CC) (lk : Nat → Option Nat) : Ties X t f lk f lk := .same (SameHd.refl lk)

theorem Ties.short {X : Nat → Prop} {t : Int} {f f' : Nat → CC} {lk lk' lk2 : Nat → Option Nat} (h : Ties X t f lk f' lk') (hs : SameHd lk' lk2) : Ties X t f lk f' lk2 := by
  cases h using Ties.inv with
  | same h1 => exact .same (h1.trans hs)
  | step h1 h2 h3 h4 h5 h6 h7 h8 h9 => exact .step h1 h2 h3 h4 h5 h6 h7 h8 (h9.trans hs)

theorem Ties.trans {X : Nat → Prop} {t : Int} {f f1 f2 : Nat → CC} {lk lk1 lk2 : Nat → Option Nat} (h : Ties X t f lk f1 lk1) (h' : Ties X t f1 lk1 f2 lk2) : Ties X t f lk f2 lk2 := by
  induction h' using Ties.elim with
  | same h1 => exact h.short h1
  | step _ h2 h3 h4 h5 h6 h7 h8 h9 ih => exact .step ih h2 h3 h4 h5 h6 h7 h8 h9

theorem SameHd.symm {a b : Nat → Option Nat} (h : SameHd a b) : SameHd b a := fun i r => (h i r).symm

theorem CSto.still {w w' : World} {X : Nat → Prop} {f : Nat → CC} {lk : Nat → Option Nat} {d : Nat → Nat} {K : (Option Addr × Nat × Nat) → List Nat} (h : CSto w X f lk d K) (hb : But (fun _ => False) w w') : CSto w' X f lk d K :=
  h.short (h.cells.but hb (fun _ _ h => h)) h.acyc (hb.mono (fun _ h => h.elim))

end Go.Proofs.Ytljdcaoibnikjaa
