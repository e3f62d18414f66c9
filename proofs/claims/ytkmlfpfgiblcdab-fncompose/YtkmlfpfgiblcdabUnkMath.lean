
import Derived.Test.YtkmlfpfgiblcdabSUnk
namespace Go.Proofs.Ytkmlfpfgiblcdab
open Go.RowKit

theorem insR_mem (x z : Int × Int) (l : List (Int × Int)) : z ∈ insR x l ↔ z = x ∨ z ∈ l := by
  induction l with
  | nil => simp [insR]
  | cons y ys ih =>
    unfold insR
    split
    · simp only [List.mem_cons, ih]
      constructor
      · rintro (h | h | h)
        · exact Or.inr (Or.inl h)
        · exact Or.inl h
        · exact Or.inr (Or.inr h)
      · rintro (h | h | h)
        · exact Or.inr (Or.inl h)
        · exact Or.inl h
        · exact Or.inr (Or.inr h)
    · simp only [List.mem_cons]

theorem insR_down (x : Int × Int) (l : List (Int × Int)) (h : l.Pairwise (fun a b => b.1 < a.1)) (hx : ∀ y ∈ l, y.1 ≠ x.1) : (insR x l).Pairwise (fun a b => b.1 < a.1) := by
  induction l with
  | nil => simp [insR]
  | cons y ys ih =>
    obtain ⟨h1, h2⟩ := List.pairwise_cons.1 h
    unfold insR
    split
    · rename_i hlt
      refine List.pairwise_cons.2 ⟨?_, ih h2 (fun z hz => hx z (List.mem_cons_of_mem _ hz))⟩
      intro z hz
      rcases (insR_mem x z ys).1 hz with rfl | hz
      · exact hlt
      · exact h1 z hz
    · rename_i hge
      have hy := hx y (List.mem_cons_self ..)
      refine List.pairwise_cons.2 ⟨?_, h⟩
      intro z hz
      rcases List.mem_cons.1 hz with rfl | hz
      · omega
      · have := h1 z hz
        omega

theorem insM_mem (out : List (Int × Int)) (x z : Int × Int) : z ∈ insM out x ↔ z = x ∨ z ∈ out := by simp [insM, insR_mem]

theorem insM_up (out : List (Int × Int)) (x : Int × Int) (h : out.Pairwise (fun a b => a.1 < b.1)) (hx : ∀ y ∈ out, y.1 ≠ x.1) : (insM out x).Pairwise (fun a b => a.1 < b.1) := by
  unfold insM
  rw [List.pairwise_reverse]
  exact insR_down x _ (List.pairwise_reverse.2 h) (fun y hy => hx y (List.mem_reverse.1 hy))

theorem sorted_up (ms out : List (Int × Int)) (h : out.Pairwise (fun a b => a.1 < b.1)) (hd : ms.Pairwise (fun a b => a.1 ≠ b.1)) (hx : ∀ a ∈ out, ∀ b ∈ ms, a.1 ≠ b.1) :
    (ms.foldl insM out).Pairwise (fun a b => a.1 < b.1) ∧ ∀ z, z ∈ ms.foldl insM out ↔ z ∈ out ∨ z ∈ ms := by
  induction ms generalizing out with
  | nil => exact ⟨h, fun z => by simp⟩
  | cons m ms ih =>
    obtain ⟨h1, h2⟩ := List.pairwise_cons.1 hd
    rw [List.foldl_cons]
    obtain ⟨h3, h4⟩ := ih (insM out m) (insM_up out m h (fun y hy => hx y hy m (List.mem_cons_self ..))) h2 (by
      intro a ha b hb
      rcases (insM_mem out m a).1 ha with rfl | ha
      · exact h1 b hb
      · exact hx a ha b (List.mem_cons_of_mem _ hb))
    refine ⟨h3, fun z => ?_⟩
    rw [h4, insM_mem, List.mem_cons]
    constructor
    · rintro ((h | h) | h)
      · exact Or.inr (Or.inl h)
      · exact Or.inl h
      · exact Or.inr (Or.inr h)
    · rintro (h | h | h)
      · exact Or.inl (Or.inr h)
      · exact Or.inl (Or.inl h)
      · exact Or.inr h

theorem known_neg (ms : List (Int × Int)) (x : Int) : knownIn ms x < 0 ↔ ∀ p ∈ ms, p.1 ≠ x := by
  unfold knownIn
  constructor
  · intro h p hp e
    have h9 : placeIn (ms.map Prod.fst) x < ms.length := by
      have h8 : (ms.map Prod.fst).findIdx (· == x) < (ms.map Prod.fst).length := List.findIdx_lt_length_of_exists ⟨p.1, List.mem_map_of_mem hp, by simp [e]⟩
      simpa [placeIn] using h8
    rw [if_pos h9] at h
    omega
  · intro h
    have h9 := placeIn_none (met := ms.map Prod.fst) (x := x) (fun i hi => by
      rw [List.getElem_map]
      exact h _ (List.getElem_mem _))
    rw [h9, if_neg (by simp)]
    decide

theorem unkTo_facts (t : List Nd) (k : Nat) (h : k ≤ t.length) : (unkTo t k).Pairwise (fun a b => a.1 ≠ b.1) ∧ ∀ x, (∃ p ∈ unkTo t k, p.1 = x) ↔ ∃ n ∈ t.take k, n.kind = 61 ∧ n.num = x := by
  induction k with
  | zero => simp [unkTo]
  | succ k ih =>
    obtain ⟨h1, h2⟩ := ih (by omega)
    have hlt : k < t.length := by omega
    rw [unkTo_succ t k hlt, List.take_succ_eq_append_getElem hlt]
    generalize unkTo t k = ms at *
    generalize t[k] = n at *
    unfold unkStep
    split
    · rename_i hc
      obtain ⟨hk, hn⟩ := hc
      have hn' := (known_neg ms n.num).1 hn
      refine ⟨?_, fun x => ?_⟩
      · rw [List.pairwise_append]
        refine ⟨h1, by simp, ?_⟩
        intro a ha b hb
        simp at hb
        subst hb
        exact hn' a ha
      · constructor
        · rintro ⟨p, hp, rfl⟩
          rcases List.mem_append.1 hp with hp | hp
          · obtain ⟨q, hq, h3⟩ := (h2 p.1).1 ⟨p, hp, rfl⟩
            exact ⟨q, List.mem_append_left _ hq, h3⟩
          · simp at hp
            subst hp
            exact ⟨n, by simp, hk, rfl⟩
        · rintro ⟨q, hq, h3, rfl⟩
          rcases List.mem_append.1 hq with hq | hq
          · obtain ⟨p, hp, h4⟩ := (h2 q.num).2 ⟨q, hq, h3, rfl⟩
            exact ⟨p, List.mem_append_left _ hp, h4⟩
          · simp at hq
            subst hq
            exact ⟨(q.num, 0), by simp, rfl⟩
    · rename_i hc
      refine ⟨h1, fun x => ?_⟩
      rw [h2]
      constructor
      · rintro ⟨q, hq, h3⟩
        exact ⟨q, List.mem_append_left _ hq, h3⟩
      · rintro ⟨q, hq, h3, h4⟩
        rcases List.mem_append.1 hq with hq | hq
        · exact ⟨q, hq, h3, h4⟩
        · simp at hq
          subst hq
          subst h4
          by_cases hkn : knownIn ms q.num < 0
          · exact absurd ⟨h3, hkn⟩ hc
          · obtain ⟨p, hp, h5⟩ : ∃ p ∈ ms, p.1 = q.num := by
              by_cases hex : ∃ p ∈ ms, p.1 = q.num
              · exact hex
              · exact absurd ((known_neg ms q.num).2 (fun p hp e => hex ⟨p, hp, e⟩)) hkn
            exact (h2 q.num).1 ⟨p, hp, h5⟩

/-- The unknowns of a type: rising, and just those that stand in it. -/
theorem unkOf_facts (t : List Nd) (ht : typeb t = true) : (unkOf t).Pairwise (· < ·) ∧ ∀ x, x ∈ unkOf t ↔ ∃ n ∈ t, n.kind = 61 ∧ n.num = x := by
  obtain ⟨h1, h2⟩ := unkTo_facts t t.length (Nat.le_refl _)
  obtain ⟨h3, h4⟩ := sorted_up (unkTo t t.length) [] List.Pairwise.nil h1 (fun a ha => by simp at ha)
  rw [List.take_length] at h2
  have e : unkOf t = (sortedM (unkTo t t.length)).map Prod.fst := by simp [unkOf, ht]
  rw [e]
  refine ⟨List.pairwise_map.2 h3, fun x => ?_⟩
  rw [List.mem_map, ← h2]
  constructor
  · rintro ⟨p, hp, h5⟩
    rcases (h4 p).1 hp with h | h
    · simp at h
    · exact ⟨p, h, h5⟩
  · rintro ⟨p, hp, h5⟩
    exact ⟨p, (h4 p).2 (Or.inr hp), h5⟩

/-- Rising lists with the same numbers are the same. -/
theorem rising_same {a b : List Int} (ha : a.Pairwise (· < ·)) (hb : b.Pairwise (· < ·)) (h : ∀ x, x ∈ a ↔ x ∈ b) : a = b := by
  induction a generalizing b with
  | nil =>
    cases b with
    | nil => rfl
    | cons y ys => exact absurd ((h y).2 (List.mem_cons_self ..)) (by simp)
  | cons x xs ih =>
    cases b with
    | nil => exact absurd ((h x).1 (List.mem_cons_self ..)) (by simp)
    | cons y ys =>
      obtain ⟨a1, a2⟩ := List.pairwise_cons.1 ha
      obtain ⟨b1, b2⟩ := List.pairwise_cons.1 hb
      have hxy : x = y := by
        rcases List.mem_cons.1 ((h x).1 (List.mem_cons_self ..)) with e | hx
        · exact e
        · rcases List.mem_cons.1 ((h y).2 (List.mem_cons_self ..)) with e | hy
          · exact e.symm
          · have := b1 x hx
            have := a1 y hy
            omega
      subst hxy
      rw [ih a2 b2]
      intro z
      constructor
      · intro hz
        rcases List.mem_cons.1 ((h z).1 (List.mem_cons_of_mem _ hz)) with e | h9
        · have := a1 z hz
          omega
        · exact h9
      · intro hz
        rcases List.mem_cons.1 ((h z).2 (List.mem_cons_of_mem _ hz)) with e | h9
        · have := b1 z hz
          omega
        · exact h9

end Go.Proofs.Ytkmlfpfgiblcdab
