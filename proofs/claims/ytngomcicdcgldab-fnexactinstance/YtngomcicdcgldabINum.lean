
import Derived.Test.YtngomcicdcgldabIType
import Derived.Test.YtngomcicdcgldabClone
import Derived.Test.YtngomcicdcgldabAns
import Derived.Maps.OwnSet
import Derived.Maps.OwnOps
namespace Go.Proofs.Ytngomcicdcgldab
open Go.RowKit Go.Maps

/-- One node, numbered from 'first' on: the numbers met, and the node. -/
def nmStep (first : Int) (s : List Int × List Nd) (n : Nd) : List Int × List Nd :=
  if n.kind = 61 then (if placeIn s.1 n.num = s.1.length then s.1 ++ [n.num] else s.1, s.2 ++ [{ n with num := first + (placeIn s.1 n.num : Int) }])
  else (s.1, s.2 ++ [n])

def nmTo (first : Int) (t : List Nd) (k : Nat) : List Int × List Nd := (t.take k).foldl (nmStep first) ([], [])

theorem nmTo_succ (first : Int) (t : List Nd) (k : Nat) (h : k < t.length) : nmTo first t (k + 1) = nmStep first (nmTo first t k) t[k] := by
  unfold nmTo
  rw [List.take_succ_eq_append_getElem h, List.foldl_append]
  rfl

theorem nmTo_one (t : List Nd) (k : Nat) : nmTo 1 t k = canonTo t k := by
  have h : nmStep 1 = canonStep := by
    funext s n
    unfold nmStep canonStep
    rw [Int.add_comm]
  unfold nmTo canonTo
  rw [h]

theorem nmTo_len (first : Int) (t : List Nd) (k : Nat) (h : k ≤ t.length) : (nmTo first t k).2.length = k ∧ (nmTo first t k).1.length ≤ k := by
  induction k with
  | zero => simp [nmTo]
  | succ k ih =>
    obtain ⟨h1, h2⟩ := ih (by omega)
    rw [nmTo_succ first t k (by omega)]
    unfold nmStep
    split
    · refine ⟨by simp [h1], ?_⟩
      simp only
      split
      · simp; omega
      · omega
    · exact ⟨by simp [h1], by simp only; omega⟩

theorem placeIn_le (met : List Int) (x : Int) : placeIn met x ≤ met.length := List.findIdx_le_length

theorem placeIn_snoc (met : List Int) (x : Int) : placeIn (met ++ [x]) x = if placeIn met x = met.length then met.length else placeIn met x := by
  unfold placeIn
  rw [List.findIdx_append]
  have h := @List.findIdx_le_length _ (fun y => y == x) met
  by_cases h1 : List.findIdx (fun y => y == x) met = met.length
  · rw [if_pos h1, if_neg (by omega)]
    simp
  · rw [if_neg h1, if_pos (by omega)]

theorem placeIn_snoc_ne (met : List Int) (x y : Int) (hne : y ≠ x) : placeIn (met ++ [x]) y = if placeIn met y = met.length then met.length + 1 else placeIn met y := by
  unfold placeIn
  rw [List.findIdx_append]
  have h := @List.findIdx_le_length _ (fun z => z == y) met
  by_cases h1 : List.findIdx (fun z => z == y) met = met.length
  · have h2 : (x == y) = false := by simpa using fun h => hne h.symm
    rw [if_pos h1, if_neg (by omega)]
    simp [h2, List.findIdx_cons, Nat.add_comm]
  · rw [if_neg h1, if_pos (by omega)]

/-- What the map of numbers says of a number: 0 where it is not met. -/
def numAt (first : Int) (met : List Int) (x : Int) : Int := if placeIn met x = met.length then 0 else first + placeIn met x

/-- The map of numbers, as a datum. -/
def NumsD (first : Int) (met : List Int) (D : DataW Unit) : Prop :=
  Tidy D ∧ Maps.size D = met.length ∧ ∀ x : Int, Maps.has D (.int .i64 x) = !(placeIn met x == met.length) ∧ D.atKey (.int .i64 x) (.lit (.int .i64 0)) = .lit (.int .i64 (numAt first met x))

theorem NumsD.start (first : Int) : NumsD first [] (.map []) := ⟨tidy_empty, rfl, fun _ => ⟨rfl, rfl⟩⟩

theorem NumsD.store {first : Int} {met : List Int} {D : DataW Unit} (h : NumsD first met D) (x : Int) (hx : placeIn met x = met.length) :
    NumsD first (met ++ [x]) (D.put (.int .i64 x) (.lit (.int .i64 (first + met.length)))) := by
  obtain ⟨h1, h2, h3⟩ := h
  have hkl : ∀ z : Int, WideAt.IsKeyLit (.int .i64 z) := fun _ => trivial
  refine ⟨h1.put (hkl x) _, ?_, ?_⟩
  · rw [size_put h1, (h3 x).1, hx]
    simp [h2]
  · intro y
    by_cases hy : y = x
    · subst hy
      refine ⟨?_, ?_⟩
      · rw [has_put_same h1.isMap (hkl y), placeIn_snoc, if_pos hx]
        simp
      · rw [atKey_put_same h1.isMap (hkl y)]
        unfold numAt
        rw [placeIn_snoc, if_pos hx, if_neg (by simp)]
    · have hne : (Lit.int .i64 y) ≠ (Lit.int .i64 x) := fun h => hy (by simpa using h)
      refine ⟨?_, ?_⟩
      · rw [has_put_other hne, (h3 y).1, placeIn_snoc_ne _ _ _ hy]
        have := placeIn_le met y
        by_cases h9 : placeIn met y = met.length
        · rw [if_pos h9]; simp [h9]
        · rw [if_neg h9]
          have q : (placeIn met y == met.length) = false := by simpa using h9
          have q2 : (placeIn met y == (met ++ [x]).length) = false := by simp; omega
          rw [q, q2]
      · rw [atKey_put_other hne, (h3 y).2]
        unfold numAt
        rw [placeIn_snoc_ne _ _ _ hy]
        have := placeIn_le met y
        by_cases h9 : placeIn met y = met.length
        · rw [if_pos h9, if_pos h9, if_pos (by simp)]
        · rw [if_neg h9, if_neg h9, if_neg (by simp; omega)]

theorem Try.law2 : Keyed Try.prog 2 := int_keyed Try.underlying2
theorem Try.zero2 (w : World) : (zeroValue 2).run Try.prog w = .ok (.int .i64 0) w := by kernel_rfl

theorem set_mid (ys zs : List Nd) (z y : Nd) (k : Nat) (h : ys.length = k) : (ys ++ z :: zs).set k y = ys ++ [y] ++ zs := by
  subst h
  simp

/-- One store into a row: the number of a node. -/
theorem Row.putNum {w : World} {g : Nat} {ys : List Nd} (h : Row w g ys) (i : Nat) (hi : i < ys.length) (v : Int) :
    Row (w.setCell ⟨g, i * 5 + 1, none⟩ (.int .i64 v)) g (ys.set i { ys[i] with num := v }) := by
  have hl := flat_length ys
  refine (Own.set h (i * 5 + 1) _ (by omega)).row ?_
  rw [← flat_set ys i hi]
  apply List.ext_getElem?
  intro j
  simp only [List.getElem?_set, List.length_set]
  have e0 := flat_get ys i 0 hi (by omega)
  have e2 := flat_get ys i 2 hi (by omega)
  have e3 := flat_get ys i 3 hi (by omega)
  have e4 := flat_get ys i 4 hi (by omega)
  simp only [Nd.row, Nat.add_zero] at e0 e2 e3 e4
  simp only [List.getElem?_cons_zero, List.getElem?_cons_succ] at e0 e2 e3 e4
  by_cases j4 : i * 5 + 4 = j
  · subst j4; simp [e4, hl]; omega
  · by_cases j3 : i * 5 + 3 = j
    · subst j3; simp [e3, hl]; omega
    · by_cases j2 : i * 5 + 2 = j
      · subst j2; simp [e2, hl]; omega
      · by_cases j1 : i * 5 + 1 = j
        · subst j1; simp [hl]
        · by_cases j0 : i * 5 = j
          · subst j0; simp [e0, hl]; omega
          · simp [j0, j1, j2, j3, j4]

theorem row_kept {w w' : World} {g k : Nat} {ys : List Nd} (h : Row w g ys) (hg : w.grownBy w' (some k)) (hne : g ≠ k) : Row w' g ys := by
  have hlt := h.lt
  obtain ⟨cur, rest, hb, e⟩ := h
  exact ⟨cur, rest, (hg.block g hlt (by simpa using hne)).trans hb, e⟩

theorem cell_kept {w w' : World} {g k o : Nat} (hg : w.grownBy w' (some k)) (hl : g < w.heap.size) (hne : g ≠ k) : w'.cell? ⟨g, o, none⟩ = w.cell? ⟨g, o, none⟩ := by
  have h := hg.block g hl (by simpa using hne)
  unfold World.cell?
  rw [h]

theorem Row.putMid {w : World} {g k : Nat} {out rest : List Nd} {kd nm v : Int} {tx : ByteArray} {ks pl : Int} (h : Row w g (out ++ (⟨kd, nm, tx, ks, pl⟩ : Nd) :: rest)) (hk : out.length = k) :
    Row (w.setCell ⟨g, k * 5 + 1, none⟩ (.int .i64 v)) g (out ++ [⟨kd, v, tx, ks, pl⟩] ++ rest) := by
  have hlen : k < (out ++ (⟨kd, nm, tx, ks, pl⟩ : Nd) :: rest).length := by simp [hk]
  have e9 : (out ++ (⟨kd, nm, tx, ks, pl⟩ : Nd) :: rest)[k] = ⟨kd, nm, tx, ks, pl⟩ := by
    rw [List.getElem_append_right (by omega)]
    simp [hk]
  have h9 := h.putNum k hlen v
  rw [e9, set_mid _ _ _ _ _ hk] at h9
  exact h9

theorem Row.midNum {w : World} {g k : Nat} {out rest : List Nd} {kd nm : Int} {tx : ByteArray} {ks pl : Int} (h : Row w g (out ++ (⟨kd, nm, tx, ks, pl⟩ : Nd) :: rest)) (hk : out.length = k) :
    w.cell? ⟨g, k * 5 + 1, none⟩ = some (.int .i64 nm) := by
  have hlen : k < (out ++ (⟨kd, nm, tx, ks, pl⟩ : Nd) :: rest).length := by simp [hk]
  have e9 : (out ++ (⟨kd, nm, tx, ks, pl⟩ : Nd) :: rest)[k] = ⟨kd, nm, tx, ks, pl⟩ := by
    rw [List.getElem_append_right (by omega)]
    simp [hk]
  have hn := h.node k hlen
  rw [e9] at hn
  exact hn.2.1

end Go.Proofs.Ytngomcicdcgldab
