import Derived.Test.YtljdcaoibnikjaaYAL
import Derived.Test.YtljdcaoibnikjaaYAM
import Derived.Deep.RegionLaw
import Derived.Test.YtljdcaoibnikjaaYAC
namespace Go.Proofs.Ytljdcaoibnikjaa
open Go.RowKit

def flat2 (ms : List (Int × Int)) : List Value := ms.flatMap fun p => [.int .i64 p.1, .int .i64 p.2]

theorem flat2_length (ms : List (Int × Int)) : (flat2 ms).length = ms.length * 2 := by
  induction ms with
  | nil => rfl
  | cons m ms ih => simp only [flat2, List.flatMap_cons, List.length_append, List.length_cons, List.length_nil] at *; omega

theorem flat2_append (a b : List (Int × Int)) : flat2 (a ++ b) = flat2 a ++ flat2 b := by simp [flat2]

theorem flat2_get (ms : List (Int × Int)) (i : Nat) (h : i < ms.length) : (flat2 ms)[i * 2]? = some (.int .i64 ms[i].1) ∧ (flat2 ms)[i * 2 + 1]? = some (.int .i64 ms[i].2) := by
  induction ms generalizing i with
  | nil => simp at h
  | cons m ms ih =>
    cases i with
    | zero => simp [flat2]
    | succ i =>
      have e1 : (i + 1) * 2 = i * 2 + 1 + 1 := by omega
      have h9 := ih i (by simpa using h)
      rw [e1]
      simpa [flat2] using h9

/-- What l8Known answers. -/
def knownIn (ms : List (Int × Int)) (x : Int) : Int := if placeIn (ms.map Prod.fst) x < ms.length then (placeIn (ms.map Prod.fst) x : Int) else -1

theorem two_one (a b : Int) : ∀ u ∈ [Value.int .i64 a, .int .i64 b], u.oneCell' = true := by
  intro u hu
  simp at hu
  rcases hu with rfl | rfl <;> rfl

theorem owns_setOne {w : World} {B e size g c n i : Nat} {xs : List Value} {v : Value} (h : w.ownsRow B e size (.slice (some ⟨g, 0, none⟩) n c) n xs) : (w.setCell ⟨g, i, none⟩ v).ownsRow B e size (.slice (some ⟨g, 0, none⟩) n c) n (xs.set i v) := by
  obtain ⟨hl, ho⟩ := h
  refine ⟨by simp [hl], Or.inr ?_⟩
  rcases ho with ⟨h', _⟩ | ⟨g2, cap2, cur, he, hb, hh, h1, h2, h3, htake⟩
  · cases h'
  · simp only [Value.slice.injEq, Option.some.injEq, Addr.mk.injEq, and_true, true_and] at he
    obtain ⟨rfl, rfl⟩ := he
    exact ⟨_, _, _, rfl, hb, heap_setCell_same _ g i _ e _ hh, h1, h2, by simp [h3], by rw [Array.toList_setIfInBounds, List.take_set, htake]⟩

theorem flat2_set (ms : List (Int × Int)) (j : Nat) (p : Int × Int) : ((flat2 ms).set (j * 2) (.int .i64 p.1)).set (j * 2 + 1) (.int .i64 p.2) = flat2 (ms.set j p) := by
  induction ms generalizing j with
  | nil => simp [flat2]
  | cons m ms ih =>
    cases j with
    | zero => simp [flat2]
    | succ j =>
      have e1 : (j + 1) * 2 = j * 2 + 1 + 1 := by omega
      have h9 := ih j
      rw [e1]
      simp only [flat2, List.flatMap_cons, List.cons_append, List.nil_append, List.set_cons_succ] at h9 ⊢
      rw [h9]

/-- x put into a list whose last comes first: it goes by those that are greater. -/
def insR (x : Int × Int) : List (Int × Int) → List (Int × Int)
  | [] => [x]
  | y :: ys => if x.1 < y.1 then y :: insR x ys else x :: y :: ys

/-- One more in l8Sorted. -/
def insM (out : List (Int × Int)) (x : Int × Int) : List (Int × Int) := (insR x out.reverse).reverse

def sortedM (ms : List (Int × Int)) : List (Int × Int) := ms.foldl insM []

theorem insR_length (x : Int × Int) (l : List (Int × Int)) : (insR x l).length = l.length + 1 := by
  induction l with
  | nil => rfl
  | cons y ys ih => unfold insR; split <;> simp [ih]

theorem insM_length (out : List (Int × Int)) (x : Int × Int) : (insM out x).length = out.length + 1 := by simp [insM, insR_length]

theorem sortedM_take (ms : List (Int × Int)) (k : Nat) (h : k < ms.length) : sortedM (ms.take (k + 1)) = insM (sortedM (ms.take k)) ms[k] := by
  unfold sortedM
  rw [List.take_succ_eq_append_getElem h, List.foldl_append]
  rfl

theorem sortedM_length (ms : List (Int × Int)) : (sortedM ms).length = ms.length := by
  have : ∀ out, (ms.foldl insM out).length = out.length + ms.length := by
    induction ms with
    | nil => simp
    | cons m ms ih => intro out; rw [List.foldl_cons, ih, insM_length]; simp; omega
  have h9 := this []
  unfold sortedM
  simpa using h9

/-- The step by which one goes by another. -/
theorem insM_step (A : List (Int × Int)) (y x : Int × Int) (B : List (Int × Int)) (h : x.1 < y.1) : (insR x (A ++ [y]).reverse).reverse ++ B = (insR x A.reverse).reverse ++ (y :: B) := by
  rw [List.reverse_append]
  simp only [List.reverse_cons, List.reverse_nil, List.nil_append, List.cons_append]
  rw [insR, if_pos h]
  simp

theorem insM_stop (A : List (Int × Int)) (x : Int × Int) (h : ∀ y, A.getLast? = some y → ¬ x.1 < y.1) : (insR x A.reverse).reverse = A ++ [x] := by
  rcases List.eq_nil_or_concat A with rfl | ⟨A', y, rfl⟩
  · rfl
  · rw [List.concat_eq_append, List.reverse_append]
    simp only [List.reverse_cons, List.reverse_nil, List.nil_append, List.cons_append]
    rw [insR, if_neg (h y (by simp))]
    simp

theorem swap_list (A B : List (Int × Int)) (x y : Int × Int) : (((A ++ [y]) ++ x :: B).set (A.length + 1) y).set A.length x = A ++ x :: (y :: B) := by
  induction A with
  | nil => rfl
  | cons a A ih => simp

theorem Longs.row {w : World} {B g c l : Nat} {xs : List Int} (h : Longs w B g c l xs) : B ≤ g ∧ LRow w g xs := by
  obtain ⟨hl, ho⟩ := h
  rcases ho.2 with ⟨h', _⟩ | ⟨g2, cap2, cur, he, hb, hh, _, _, _, htake⟩
  · cases h'
  · simp only [Value.slice.injEq, Option.some.injEq, Addr.mk.injEq, and_true, true_and] at he
    obtain ⟨rfl, rfl⟩ := he
    exact ⟨hb, cur, cur.toList.drop (l * 1), hh, by rw [← htake, List.take_append_drop]⟩

/-- One node of Unknowns. -/
def unkStep (ms : List (Int × Int)) (n : Nd) : List (Int × Int) := if n.kind = 61 ∧ knownIn ms n.num < 0 then ms ++ [(n.num, 0)] else ms

def unkTo (t : List Nd) (k : Nat) : List (Int × Int) := (t.take k).foldl unkStep []

/-- What Unknowns answers. -/
def unkOf (t : List Nd) : List Int := if typeb t then (sortedM (unkTo t t.length)).map Prod.fst else []

theorem unkTo_succ (t : List Nd) (k : Nat) (h : k < t.length) : unkTo t (k + 1) = unkStep (unkTo t k) t[k] := by
  unfold unkTo
  rw [List.take_succ_eq_append_getElem h, List.foldl_append]
  rfl

theorem unkTo_len (t : List Nd) (k : Nat) (h : k ≤ t.length) : (unkTo t k).length ≤ k := by
  induction k with
  | zero => simp [unkTo]
  | succ k ih =>
    have h1 := ih (by omega)
    rw [unkTo_succ t k (by omega)]
    unfold unkStep
    split
    · simp; omega
    · omega

end Go.Proofs.Ytljdcaoibnikjaa

namespace Go.Proofs.Ytljdcaoibnikjaa
open Go.RowKit

theorem szNode_ex (x : Nd) (left : Int) (w : World) (hs : x.text.size ≤ maxLen) (h0 : 0 ≤ left) (h1 : left ≤ 1048576) :
    Calls Try.prog 21 #[.agg #[.int .i64 x.kind, .int .i64 x.num, .string x.text, .int .i64 x.kids, .int .i64 x.place], .int .i64 left] w fun e w' =>
      (∃ r : Int, e = .returned (.int .i64 r) ∧ (r = -1 ∨ (0 ≤ r ∧ r ≤ left))) ∧ Below w.heap.size w w' := by
  refine (szNode_any x left w hs h0 h1).mono ?_
  rintro e w' ⟨rfl, hb⟩
  refine ⟨⟨_, rfl, ?_⟩, hb⟩
  split
  · exact Or.inl rfl
  · right; omega

set_option maxHeartbeats 400000 in
theorem szNodeS_any (xs : List Nd) (ao : Option Addr) (cap : Nat) (left : Int) (w : World) (hx : Nodes w ao xs) (hs : ∀ x ∈ xs, x.text.size ≤ maxLen) (hlen : xs.length ≤ 9223372036854775807) (h0 : 0 ≤ left) (h1 : left ≤ 1048576) :
    Calls Try.prog 5 #[.slice ao xs.length cap, .int .i64 left] w fun e w' =>
      (∃ r : Int, e = .returned (.int .i64 r) ∧ (r = -1 ∨ (0 ≤ r ∧ r ≤ left - xs.length))) ∧ Below w.heap.size w w' := by
  by_cases hl : left < xs.length
  · go_enter Try.func5, Try.ntmps5
    go_wp2
    go_ret
    exact ⟨⟨-1, rfl, Or.inl rfl⟩, Below.refl _ _⟩
  · go_enter Try.func5, Try.ntmps5
    go_wp2
    go_loopw [1, 5] (fun l i wr => ∃ (k : Nat) (r : Int), k ≤ xs.length ∧ i = .int .i64 k ∧ l = .int .i64 r ∧ 0 ≤ r ∧ r ≤ left - xs.length ∧ Below w.heap.size w wr) (fun _ i _ => xs.length - (intOf i).toNat)
    case atStart => exact ⟨0, _, Nat.zero_le _, rfl, rfl, by omega, by omega, Below.refl _ _⟩
    case round =>
      obtain ⟨k, r, hk, rfl, rfl, hr0, hr1, hb⟩ := hrel
      by_cases hlt : k < xs.length
      · obtain ⟨b, o, rfl, hn⟩ := hx.below hb k hlt
        have hsk := hs xs[k] (List.getElem_mem hlt)
        obtain ⟨c0, c1, c2, c3, c4⟩ := hn
        clear hx hs
        go_wp2_with fail
        refine (szNode_ex xs[k] r wr hsk hr0 (by omega)).mono ?_
        rintro e w1 ⟨⟨r', rfl, hr'⟩, hb1⟩
        rcases hr' with hr' | ⟨hr2, hr3⟩
        · subst hr'
          go_wp2
          go_ret
          exact ⟨⟨-1, rfl, Or.inl rfl⟩, Below.step hb hb1⟩
        · have hbb := Below.step hb hb1
          clear hb1 hb c0 c1 c2 c3 c4
          go_wp2
          go_roundw
          case rel => exact ⟨k + 1, r', by omega, by go_num, rfl, hr2, by omega, hbb⟩
          case measure => simp [intOf]; omega
      · go_wp2
        go_ret
        exact ⟨⟨r, rfl, Or.inr ⟨hr0, hr1⟩⟩, hb⟩

end Go.Proofs.Ytljdcaoibnikjaa
