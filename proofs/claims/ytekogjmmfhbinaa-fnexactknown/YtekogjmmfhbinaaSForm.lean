
import Derived.Test.YtekogjmmfhbinaaSFits
import Derived.Test.YtekogjmmfhbinaaSShp
import Derived.Test.YtekogjmmfhbinaaSOwn
import Derived.Test.YtekogjmmfhbinaaSGood
import Derived.Deep.RegionWith
import Derived.BigQuiet
namespace Go.Proofs.Ytekogjmmfhbinaa
open Go.RowKit

/-- Where the star stands. -/
def starOf (sh : ByteArray) : Nat := sh.data.toList.findIdx (fun b => b == 42)

theorem star_is (sh : ByteArray) : IsStar sh (starOf sh) := by
  have hl : sh.data.toList.length = sh.size := Array.length_toList (xs := sh.data)
  have e : ∀ j (h : j < sh.size), sh.data[j]! = sh.data.toList[j]'(by omega) := by
    intro j h
    rw [getElem!_pos sh.data j h]
    simp
  refine ⟨?_, ?_, ?_⟩
  · have := List.findIdx_le_length (p := fun b => b == (42 : UInt8)) (xs := sh.data.toList)
    unfold starOf
    omega
  · intro j hj
    have h1 := List.findIdx_le_length (p := fun b => b == (42 : UInt8)) (xs := sh.data.toList)
    have h2 : j < sh.size := by unfold starOf at hj; omega
    rw [e j h2]
    have h3 := List.not_of_lt_findIdx (p := fun b => b == (42 : UInt8)) (xs := sh.data.toList) hj
    simpa using h3
  · intro h
    rw [e _ h]
    have h3 := List.findIdx_getElem (p := fun b => b == (42 : UInt8)) (xs := sh.data.toList) (w := by rw [hl]; exact h)
    unfold starOf at h ⊢
    simpa using h3

theorem shape_star (x : Nd) : (shapeB x).size ≤ 4 ∧ (starOf (shapeB x) = (shapeB x).size ∨ 1 ≤ starOf (shapeB x)) := by
  unfold shapeB
  repeat' split
  all_goals first
    | (constructor; decide; decide)
    | (unfold shapeN; split <;> (constructor; decide; decide))

/-- A tuple of one. -/
def tup1 (x : Nd) : Bool := x.kids == 1 && (x.kind == 75 || x.kind == 20 || x.kind == 14)

/-- What the model asks of a node and of its kids. -/
def okS (t : List Nd) (k : Nat) : Bool :=
  decide (alls t (k + 1) ≤ 1000) && (letK (ndAt t k).kind != 45 && (ownB (ndAt t k) && (!tup1 (ndAt t k) && fitsB (shapeB (ndAt t k)) (starOf (shapeB (ndAt t k))) (kidsN t k))))

/-- The model's answer. -/
def FormS (t : List Nd) : Prop := t.length ≤ 60000 ∧ rawDeep t ≠ 0 ∧ letK (ndAt t (t.length - 1)).kind = 99 ∧ ∀ i, i < t.length → okS t i = true

theorem fits_shape (x : Nd) (t : List Nd) (m : Nat) (HM : Hid (t.length = m)) (R : List Nat) (q : Nat) (HQ : Hid (R.length = q)) (hq : q ≤ 60000) (HR : Hid (∀ j (h : j < R.length), R[j] < m)) (ao : Option Addr) (cap G B : Nat) (w : World) (hx : Nodes w ao t) (hz : Ints w B G q q (natsI R)) :
    Calls Try.prog 30 #[.slice ao m cap, .slice (some ⟨G, 0, none⟩) q q, .string (shapeB x)] w fun e w' => e = .returned (.bool (fitsB (shapeB x) (starOf (shapeB x)) (R.map (ndAt t)))) ∧ Below w.heap.size w w' := by
  obtain ⟨h4, h5⟩ := shape_star x
  have hs := star_is (shapeB x)
  by_cases h : starOf (shapeB x) = (shapeB x).size
  · exact fits_plain (shapeB x) _ hs h4 h t m HM R q HQ hq HR ao cap G B w hx hz
  · have := hs.le
    exact fits_star (shapeB x) _ _ rfl hs h4 (by omega) (by omega) t m HM R q HQ hq HR ao cap G B w hx hz

theorem raw_none {t : List Nd} (h : after t t.length = none) : rawDeep t = 0 := by
  unfold rawDeep
  rw [h]

theorem raw_some {t : List Nd} {S ys : List Sp} {m : Nat} (hm : t.length = m) (h0 : 0 < m) (h : after t m = some (S, ys)) :
    ∃ s, ys[m - 1]? = some s ∧ rawDeep t = (if s.fr = 0 then s.dp else 0) ∧ s.fr ≤ m - 1 ∧ 1 ≤ s.dp ∧ s.rt = m - 1 := by
  have hf := after_fine h
  have hl : m - 1 < ys.length := by have := hf.len; omega
  have hr := hf.root (m - 1) hl
  refine ⟨ys[m - 1], List.getElem?_eq_getElem hl, ?_, hr.2.1, hr.2.2.1, hr.1⟩
  unfold rawDeep
  rw [hm, h]
  have hg : ys.getLast? = some ys[m - 1] := by
    have := hf.len
    rw [List.getLast?_eq_getElem?]
    have e : ys.length - 1 = m - 1 := by omega
    rw [e, List.getElem?_eq_getElem hl]
  simp only [hg]

end Go.Proofs.Ytekogjmmfhbinaa
