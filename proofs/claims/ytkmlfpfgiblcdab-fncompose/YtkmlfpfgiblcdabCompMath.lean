
import Derived.Test.YtkmlfpfgiblcdabMRows
import Derived.Test.YtkmlfpfgiblcdabIPut
import Derived.Test.YtkmlfpfgiblcdabUnkMath
namespace Go.Proofs.Ytkmlfpfgiblcdab
open Go.RowKit

theorem numTo_facts (bs : List (Int × List Nd)) (k : Nat) (h : k ≤ bs.length) : (numTo bs k).Pairwise (fun a b => a.1 ≠ b.1) ∧ ∀ x, (∃ p ∈ numTo bs k, p.1 = x) ↔ ∃ b ∈ bs.take k, b.1 = x := by
  induction k with
  | zero => simp [numTo]
  | succ k ih =>
    obtain ⟨h1, h2⟩ := ih (by omega)
    have hlt : k < bs.length := by omega
    rw [numTo_succ bs k hlt, List.take_succ_eq_append_getElem hlt]
    generalize numTo bs k = ms at *
    generalize bs[k] = n at *
    unfold numStep
    split
    · rename_i hn
      have hn' := (known_neg ms n.1).1 hn
      refine ⟨?_, fun x => ?_⟩
      · rw [List.pairwise_append]
        refine ⟨h1, by simp, ?_⟩
        intro a ha b hb
        simp at hb
        subst hb
        exact hn' a ha
      · constructor
        · rintro ⟨p, hp, rfl⟩
          rcases List.mem_append.1 hp with hp | hp
          · obtain ⟨q, hq, h3⟩ := (h2 p.1).1 ⟨p, hp, rfl⟩
            exact ⟨q, List.mem_append_left _ hq, h3⟩
          · simp at hp
            subst hp
            exact ⟨n, by simp, rfl⟩
        · rintro ⟨q, hq, rfl⟩
          rcases List.mem_append.1 hq with hq | hq
          · obtain ⟨p, hp, h4⟩ := (h2 q.1).2 ⟨q, hq, rfl⟩
            exact ⟨p, List.mem_append_left _ hp, h4⟩
          · simp at hq
            subst hq
            exact ⟨(q.1, 0), by simp, rfl⟩
    · rename_i hc
      refine ⟨h1, fun x => ?_⟩
      rw [h2]
      constructor
      · rintro ⟨q, hq, h3⟩
        exact ⟨q, List.mem_append_left _ hq, h3⟩
      · rintro ⟨q, hq, h4⟩
        rcases List.mem_append.1 hq with hq | hq
        · exact ⟨q, hq, h4⟩
        · simp at hq
          subst hq
          subst h4
          obtain ⟨p, hp, h5⟩ : ∃ p ∈ ms, p.1 = q.1 := by
            by_cases hex : ∃ p ∈ ms, p.1 = q.1
            · exact hex
            · exact absurd ((known_neg ms q.1).2 (fun p hp e => hex ⟨p, hp, e⟩)) hc
          exact (h2 q.1).1 ⟨p, hp, h5⟩

theorem compNums_facts (fs ts : List (Int × List Nd)) : (compNums fs ts).Pairwise (· < ·) ∧ ∀ x, x ∈ compNums fs ts ↔ ∃ b ∈ fs ++ ts, b.1 = x := by
  obtain ⟨h1, h2⟩ := numTo_facts (fs ++ ts) (fs ++ ts).length (Nat.le_refl _)
  obtain ⟨h3, h4⟩ := sorted_up (numTo (fs ++ ts) (fs ++ ts).length) [] List.Pairwise.nil h1 (fun a ha => by simp at ha)
  rw [List.take_length] at h2
  unfold compNums
  refine ⟨List.pairwise_map.2 h3, fun x => ?_⟩
  rw [List.mem_map, ← h2]
  constructor
  · rintro ⟨p, hp, h5⟩
    rcases (h4 p).1 hp with h | h
    · simp at h
    · exact ⟨p, h, h5⟩
  · rintro ⟨p, hp, h5⟩
    exact ⟨p, (h4 p).2 (Or.inr hp), h5⟩

/-- What Binds have for a number: of several the first. -/
def fsAt (bs : List (Int × List Nd)) (x : Int) : Option (List Nd) := (bs[placeIn (bs.map Prod.fst) x]?).map Prod.snd

theorem fsAt_some {bs : List (Int × List Nd)} {x : Int} : (fsAt bs x).isSome = true ↔ ∃ b ∈ bs, b.1 = x := by
  unfold fsAt
  rw [Option.isSome_map]
  constructor
  · intro h
    obtain ⟨b, hb⟩ := Option.isSome_iff_exists.1 h
    obtain ⟨hlt, e⟩ := List.getElem?_eq_some_iff.1 hb
    refine ⟨b, List.mem_of_getElem? hb, ?_⟩
    have h9 : placeIn (bs.map Prod.fst) x < (bs.map Prod.fst).length := by simpa using hlt
    have h8 : ((bs.map Prod.fst)[placeIn (bs.map Prod.fst) x] == x) = true := List.findIdx_getElem (w := h9)
    rw [List.getElem_map, e] at h8
    simpa using h8
  · rintro ⟨b, hb, e⟩
    have h8 : (bs.map Prod.fst).findIdx (· == x) < (bs.map Prod.fst).length := List.findIdx_lt_length_of_exists ⟨b.1, List.mem_map_of_mem hb, by simp [e]⟩
    have h9 : placeIn (bs.map Prod.fst) x < bs.length := by simpa [placeIn] using h8
    rw [List.getElem?_eq_getElem h9]
    rfl

theorem fsAt_lt {bs : List (Int × List Nd)} {x : Int} {t : List Nd} (h : fsAt bs x = some t) : ∃ hl : placeIn (bs.map Prod.fst) x < bs.length, bs[placeIn (bs.map Prod.fst) x].2 = t := by
  unfold fsAt at h
  obtain ⟨b, hb, e⟩ := Option.map_eq_some_iff.1 h
  obtain ⟨hl, e9⟩ := List.getElem?_eq_some_iff.1 hb
  exact ⟨hl, by rw [e9]; exact e⟩

theorem fsAt_mem {bs : List (Int × List Nd)} {x : Int} {t : List Nd} (h : fsAt bs x = some t) : ∃ b ∈ bs, b.2 = t := by
  obtain ⟨hl, e⟩ := fsAt_lt h
  exact ⟨_, List.getElem_mem hl, e⟩

/-- What Compose has for a number. -/
def compE (fs ts : List (Int × List Nd)) (x : Int) : Option (List Nd) := match fsAt fs x with
  | some t => some (fillOf ts t)
  | none => fsAt ts x

theorem compTy_eq {fs ts : List (Int × List Nd)} (hf : typesb fs = true) (ht : typesb ts = true) (x : Int) : compTy fs ts x = (compE fs ts x).getD [] := by
  unfold compTy compE fsAt
  cases hg : fs[placeIn (fs.map Prod.fst) x]? with
  | none => rfl
  | some b =>
    have h1 := (typesb_iff fs).1 hf b (List.mem_of_getElem? hg)
    have h2 := (typesb_iff ts).1 ht
    simp only [Option.map_some, Option.getD_some]
    rw [putOf, fillOf]
    by_cases h9 : (putAll ts b.2).length ≤ 300
    · rw [if_pos h9, if_pos ⟨h1, h2, h9⟩]
    · rw [if_neg h9, if_neg (fun h => h9 h.2.2)]

theorem compE_some {fs ts : List (Int × List Nd)} (x : Int) : (compE fs ts x).isSome = true ↔ x ∈ compNums fs ts := by
  rw [(compNums_facts fs ts).2 x]
  unfold compE
  cases hf : fsAt fs x with
  | some t =>
    have h9 : ∃ b ∈ fs, b.1 = x := fsAt_some.1 (by rw [hf]; rfl)
    obtain ⟨b, hb, e⟩ := h9
    exact ⟨fun _ => ⟨b, List.mem_append_left _ hb, e⟩, fun _ => rfl⟩
  | none =>
    show (fsAt ts x).isSome = true ↔ _
    rw [fsAt_some]
    constructor
    · rintro ⟨b, hb, e⟩
      exact ⟨b, List.mem_append_right _ hb, e⟩
    · rintro ⟨b, hb, e⟩
      rcases List.mem_append.1 hb with hb | hb
      · have h9 : (fsAt fs x).isSome = true := fsAt_some.2 ⟨b, hb, e⟩
        rw [hf] at h9
        cases h9
      · exact ⟨b, hb, e⟩

theorem pairs_same {E : Int → Option (List Nd)} {bs : List (Int × List Nd)} (h : ∀ p ∈ bs, E p.1 = some p.2) : bs = (bs.map Prod.fst).map (fun x => (x, (E x).getD [])) := by
  rw [List.map_map]
  conv => lhs; rw [← List.map_id bs]
  apply List.map_congr_left
  intro p hp
  simp [h p hp]

theorem comp_same {fs ts bs : List (Int × List Nd)} (hf : typesb fs = true) (ht : typesb ts = true) (hn : fs.length + ts.length ≤ 1000) (hall : ∀ x t, compE fs ts x = some t → t ≠ []) (h : IsBinds (compE fs ts) bs) : bs = compOf fs ts := by
  obtain ⟨h1, h2, h3⟩ := h
  obtain ⟨c1, c2⟩ := compNums_facts fs ts
  have hk : bs.map Prod.fst = compNums fs ts := by
    refine rising_same h1 c1 (fun x => ?_)
    rw [← compE_some]
    constructor
    · intro hx
      obtain ⟨p, hp, rfl⟩ := List.mem_map.1 hx
      rw [h2 p hp]
      rfl
    · exact h3 x
  have hty : ∀ b ∈ fs ++ ts, typeb b.2 = true := by
    intro b hb
    rcases List.mem_append.1 hb with hb | hb
    · exact (typesb_iff fs).1 hf b hb
    · exact (typesb_iff ts).1 ht b hb
  have hne : ∀ x ∈ compNums fs ts, compTy fs ts x ≠ [] := by
    intro x hx
    obtain ⟨t, e⟩ := Option.isSome_iff_exists.1 ((compE_some x).2 hx)
    rw [compTy_eq hf ht, e]
    exact hall x t e
  rw [compOf, if_pos ⟨hn, hty, hne⟩, pairs_same h2, hk]
  apply List.map_congr_left
  intro x _
  rw [compTy_eq hf ht]

theorem comp_none {fs ts : List (Int × List Nd)} (hf : typesb fs = true) (ht : typesb ts = true) {x : Int} (h : compE fs ts x = some []) : compOf fs ts = [] := by
  rw [compOf, if_neg]
  rintro ⟨_, _, h3⟩
  refine h3 x ((compE_some x).1 (by rw [h]; rfl)) ?_
  rw [compTy_eq hf ht, h]
  rfl

end Go.Proofs.Ytkmlfpfgiblcdab
