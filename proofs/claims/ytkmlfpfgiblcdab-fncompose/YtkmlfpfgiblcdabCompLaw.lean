
import Derived.Test.YtkmlfpfgiblcdabCompMath
import Derived.Test.YtkmlfpfgiblcdabOne
namespace Go.Proofs.Ytkmlfpfgiblcdab
open Go.RowKit

/-- An unknown as a node. -/
def metaC (x : Int) : Nd := ⟨61, x, ByteArray.empty, 0, 0⟩

theorem plain_metaC {n : Nd} (h : n.plainb = true) (hk : n.kind = 61) : n = metaC n.num := by
  obtain ⟨a, b, c, d, e⟩ := n
  simp only at hk
  subst hk
  unfold Nd.plainb at h
  simp at h
  obtain ⟨h1, h2⟩ := h
  obtain ⟨⟨h3, _⟩, h4⟩ := h2
  simp only [metaC]
  subst h4
  subst h1
  subst h3
  rfl

theorem metaC_one (x : Int) : One [metaC x] := One.join (A := []) (n := metaC x) (by simp) (by simp [metaC])

theorem plain_leafyC {t : List Nd} (h : t.all Nd.plainb = true) : Leafy t := by
  intro n hn h61
  have := List.all_eq_true.1 h n hn
  unfold Nd.plainb at this
  simp [h61] at this
  exact this.2.1.1

theorem flatMap_congrC {α β : Type} {l : List α} {f g : α → List β} (h : ∀ x ∈ l, f x = g x) : l.flatMap f = l.flatMap g := by
  induction l with
  | nil => rfl
  | cons a l ih => simp only [List.flatMap_cons]; rw [h a (by simp), ih (fun x hx => h x (by simp [hx]))]

theorem deep_one {a : List Nd} (h : One a) (hl : a.length ≤ 300) : 0 < deepOf a := by
  obtain ⟨s, ys, ha⟩ := h
  have hf := after_fine ha
  have hlen := hf.len
  have hmem := hf.mem 0 (by simp)
  simp only [List.getElem_cons_zero] at hmem
  obtain ⟨hrl, hrs⟩ := List.getElem?_eq_some_iff.1 hmem
  obtain ⟨h1, h2⟩ := hf.chain.2.2.1 (by simp)
  simp only [List.getElem_cons_zero, List.length_cons, List.length_nil, Nat.zero_add, Nat.sub_self] at h1 h2
  have hroot := hf.root s.rt hrl
  rw [hrs] at hroot
  have hlast : ys.getLast? = some s := by
    rw [List.getLast?_eq_getElem?]
    have e : ys.length - 1 = s.rt := by omega
    rw [e]
    exact hmem
  unfold deepOf
  rw [if_neg (by omega), ha]
  simp only
  rw [hlast]
  simp only
  rw [if_pos ⟨h1, by omega⟩]
  omega

theorem one_deep {t : List Nd} (h : 0 < deepOf t) : One t := by
  obtain ⟨h0, h6, S, ys, ha, hl⟩ := deep_after rfl h
  unfold deepOf at h
  rw [if_neg (by omega), ha] at h
  simp only at h
  cases hg : ys.getLast? with
  | none => rw [hg] at h; simp at h
  | some s =>
    rw [hg] at h
    simp only at h
    by_cases hc : s.fr = 0 ∧ s.dp ≤ 300
    · rw [List.getLast?_eq_getElem?] at hg
      have h9 := sub_one ha (i := ys.length - 1) (by omega) hg
      rw [hc.1, hl] at h9
      have e : span t 0 (t.length - 1) = t := by
        unfold span
        rw [List.take_of_length_le (by omega)]
        simp
      rw [e] at h9
      exact h9
    · rw [if_neg hc] at h
      omega

theorem type_one {t : List Nd} (h : typeb t = true) : One t := by
  simp only [typeb, Bool.and_eq_true, decide_eq_true_eq] at h
  exact one_deep h.1.2

theorem type_plain {t : List Nd} (h : typeb t = true) : t.all Nd.plainb = true := by
  simp only [typeb, Bool.and_eq_true, decide_eq_true_eq] at h
  exact h.2

theorem one_type {a : List Nd} (h : One a) (hl : a.length ≤ 300) (hp : a.all Nd.plainb = true) : typeb a = true := by
  simp only [typeb, Bool.and_eq_true, decide_eq_true_eq]
  exact ⟨⟨hl, deep_one h hl⟩, hp⟩

theorem putSub_fsAt (bs : List (Int × List Nd)) (n : Nd) : putSub bs n = if n.kind = 61 then (fsAt bs n.num).getD [n] else [n] := rfl

/-- Put is a filling. -/
theorem putAll_fill (ts : List (Int × List Nd)) {b : List Nd} (hp : b.all Nd.plainb = true) : putAll ts b = fill (fun x => (fsAt ts x).getD [metaC x]) b := by
  unfold putAll fill
  apply flatMap_congrC
  intro n hn
  rw [putSub_fsAt, fillN]
  have hpn : n.plainb = true := List.all_eq_true.1 hp n hn
  by_cases hk : n.kind = 61
  · rw [if_pos hk, if_pos hk, ← plain_metaC hpn hk]
  · rw [if_neg hk, if_neg hk]

theorem fsAt_type {ts : List (Int × List Nd)} (ht : typesb ts = true) {x : Int} {t : List Nd} (h : fsAt ts x = some t) : typeb t = true := by
  obtain ⟨b, hb, rfl⟩ := fsAt_mem h
  exact (typesb_iff ts).1 ht b hb

theorem putAll_type {ts : List (Int × List Nd)} {b : List Nd} (ht : typesb ts = true) (hb : typeb b = true) (hl : (putAll ts b).length ≤ 300) : typeb (putAll ts b) = true := by
  have hp := type_plain hb
  refine one_type ?_ hl ?_
  · rw [putAll_fill ts hp]
    refine fill_one (fun x => ?_) (plain_leafyC hp) (type_one hb)
    cases hx : fsAt ts x with
    | none => exact metaC_one x
    | some t => exact type_one (fsAt_type ht hx)
  · rw [List.all_eq_true]
    intro n hn
    obtain ⟨m, hm, hn⟩ := List.mem_flatMap.1 hn
    have hpm : m.plainb = true := List.all_eq_true.1 hp m hm
    rw [putSub_fsAt] at hn
    by_cases hk : m.kind = 61
    · rw [if_pos hk] at hn
      cases hx : fsAt ts m.num with
      | none =>
        rw [hx] at hn
        simp at hn
        rw [hn]
        exact hpm
      | some t =>
        rw [hx] at hn
        exact List.all_eq_true.1 (type_plain (fsAt_type ht hx)) n hn
    · rw [if_neg hk] at hn
      simp at hn
      rw [hn]
      exact hpm

theorem putAll_nil (t : List Nd) : putAll [] t = t := by
  unfold putAll
  induction t with
  | nil => rfl
  | cons n t ih =>
    rw [List.flatMap_cons, ih, putSub_fsAt]
    split <;> rfl

theorem fsAt_map {xs : List Int} (f : Int → List Nd) (x : Int) : fsAt (xs.map fun y => (y, f y)) x = if x ∈ xs then some (f x) else none := by
  have e : (xs.map fun y => (y, f y)).map Prod.fst = xs := by rw [List.map_map]; exact List.map_id' xs
  unfold fsAt
  rw [e]
  by_cases hx : x ∈ xs
  · rw [if_pos hx]
    have h8 : xs.findIdx (· == x) < xs.length := List.findIdx_lt_length_of_exists ⟨x, hx, by simp⟩
    have h9 : (xs[xs.findIdx (· == x)] == x) = true := List.findIdx_getElem (w := h8)
    have h7 : xs[xs.findIdx (· == x)] = x := by simpa using h9
    have h6 : placeIn xs x < (xs.map fun y => (y, f y)).length := by simpa [placeIn] using h8
    rw [List.getElem?_eq_getElem h6]
    simp only [List.getElem_map, Option.map_some, placeIn]
    rw [h7]
  · rw [if_neg hx]
    have h8 : placeIn xs x = xs.length := placeIn_none (fun i hi e => hx (e ▸ List.getElem_mem hi))
    rw [h8, List.getElem?_eq_none (by simp)]
    rfl

theorem putOf_ne {bs : List (Int × List Nd)} {t : List Nd} (h : putOf bs t ≠ []) : typeb t = true ∧ typesb bs = true ∧ (putAll bs t).length ≤ 300 ∧ putOf bs t = putAll bs t := by
  unfold putOf at h ⊢
  by_cases hc : typeb t = true ∧ (∀ b ∈ bs, typeb b.2 = true) ∧ (putAll bs t).length ≤ 300
  · rw [if_pos hc] at h ⊢
    exact ⟨hc.1, (typesb_iff bs).2 hc.2.1, hc.2.2, rfl⟩
  · rw [if_neg hc] at h
    exact absurd rfl h

theorem putOf_eq {bs : List (Int × List Nd)} {t : List Nd} (h1 : typeb t = true) (h2 : typesb bs = true) (h3 : (putAll bs t).length ≤ 300) : putOf bs t = putAll bs t := by
  rw [putOf, if_pos ⟨h1, (typesb_iff bs).1 h2, h3⟩]

theorem put_comp {fs ts : List (Int × List Nd)} {t : List Nd} (hw : putOf ts (putOf fs t) ≠ []) (hc : 0 < fs.length + ts.length → compOf fs ts ≠ []) : putOf (compOf fs ts) t = putOf ts (putOf fs t) := by
  obtain ⟨ht1, hts, hl, e⟩ := putOf_ne hw
  have hne : putOf fs t ≠ [] := by
    intro e0
    rw [e0] at ht1
    have := typeb_pos ht1
    simp at this
  obtain ⟨ht, hfs, hl2, e2⟩ := putOf_ne hne
  rw [e2] at hl ht1
  by_cases h0 : compOf fs ts = []
  · have hz : fs.length + ts.length = 0 := by
      by_cases h9 : 0 < fs.length + ts.length
      · exact absurd h0 (hc h9)
      · omega
    have hf0 : fs = [] := List.eq_nil_of_length_eq_zero (by omega)
    have ht0 : ts = [] := List.eq_nil_of_length_eq_zero (by omega)
    subst hf0 ht0
    rw [e, e2, h0, putAll_nil, putAll_nil, putOf_eq ht rfl (by rw [putAll_nil]; exact typeb_len ht), putAll_nil]
  · have hcond : (∀ x ∈ compNums fs ts, compTy fs ts x ≠ []) ∧ compOf fs ts = (compNums fs ts).map fun x => (x, compTy fs ts x) := by
      unfold compOf at h0 ⊢
      by_cases hcc : fs.length + ts.length ≤ 1000 ∧ (∀ b ∈ fs ++ ts, typeb b.2 = true) ∧ (∀ x ∈ compNums fs ts, compTy fs ts x ≠ [])
      · rw [if_pos hcc]
        exact ⟨hcc.2.2, rfl⟩
      · rw [if_neg hcc] at h0
        exact absurd rfl h0
    obtain ⟨hall, hcomp⟩ := hcond
    have hat : ∀ x, fsAt (compOf fs ts) x = compE fs ts x := by
      intro x
      rw [hcomp, fsAt_map]
      by_cases hx : x ∈ compNums fs ts
      · obtain ⟨t9, e9⟩ := Option.isSome_iff_exists.1 ((compE_some x).2 hx)
        rw [if_pos hx, compTy_eq hfs hts, e9]
        rfl
      · rw [if_neg hx]
        cases h9 : compE fs ts x with
        | none => rfl
        | some t9 => exact absurd ((compE_some x).1 (by rw [h9]; rfl)) hx
    have hEne : ∀ x t9, compE fs ts x = some t9 → t9 ≠ [] := by
      intro x t9 h9
      have := hall x ((compE_some x).1 (by rw [h9]; rfl))
      rw [compTy_eq hfs hts, h9] at this
      exact this
    have hfill : ∀ x u, fsAt fs x = some u → fillOf ts u = putAll ts u ∧ (putAll ts u).length ≤ 300 := by
      intro x u h9
      have h8 := hEne x (fillOf ts u) (by unfold compE; rw [h9])
      unfold fillOf at h8 ⊢
      by_cases h7 : (putAll ts u).length ≤ 300
      · rw [if_pos h7]; exact ⟨rfl, h7⟩
      · rw [if_neg h7] at h8; exact absurd rfl h8
    have hsub : ∀ n : Nd, putSub (compOf fs ts) n = putAll ts (putSub fs n) := by
      intro n
      rw [putSub_fsAt, putSub_fsAt]
      by_cases hk : n.kind = 61
      · rw [if_pos hk, if_pos hk, hat]
        unfold compE
        cases hx : fsAt fs n.num with
        | some u =>
          simp only [Option.getD_some]
          exact (hfill n.num u hx).1
        | none =>
          simp only [Option.getD_none]
          have e9 : putAll ts [n] = putSub ts n := by simp [putAll]
          rw [e9, putSub_fsAt, if_pos hk]
      · rw [if_neg hk, if_neg hk]
        have e9 : putAll ts [n] = putSub ts n := by simp [putAll]
        rw [e9, putSub_fsAt, if_neg hk]
    have hput : putAll (compOf fs ts) t = putAll ts (putAll fs t) := by
      unfold putAll
      rw [List.flatMap_assoc]
      apply flatMap_congrC
      intro n _
      exact hsub n
    have htc : typesb (compOf fs ts) = true := by
      rw [typesb_iff, hcomp]
      intro b hb
      obtain ⟨x, hx, rfl⟩ := List.mem_map.1 hb
      show typeb (compTy fs ts x) = true
      obtain ⟨t9, e9⟩ := Option.isSome_iff_exists.1 ((compE_some x).2 hx)
      rw [compTy_eq hfs hts, e9]
      show typeb t9 = true
      unfold compE at e9
      cases h8 : fsAt fs x with
      | some u =>
        rw [h8] at e9
        simp only [Option.some.injEq] at e9
        rw [← e9, (hfill x u h8).1]
        exact putAll_type hts (fsAt_type hfs h8) (hfill x u h8).2
      | none =>
        rw [h8] at e9
        exact fsAt_type hts e9
    rw [e, e2, putOf_eq ht htc (by rw [hput]; exact hl), hput]

end Go.Proofs.Ytkmlfpfgiblcdab
