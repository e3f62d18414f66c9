import Derived.Test.YthioecjcnajmgaaGreatDoorGT
import Derived.Maps.OwnSet
import Derived.Test.YthioecjcnajmgaaGreatDoorGD
import Derived.Test.YthioecjcnajmgaaGreatDoorGF
namespace Go.Proofs.YthioecjcnajmgaaGreatDoor
open Go.RowKit Go.Maps

/-- All types of Binds are types. -/
def typesb (bs : List (Int × List Nd)) : Bool := bs.all (fun b => typeb b.2)

theorem typesb_iff (bs : List (Int × List Nd)) : typesb bs = true ↔ ∀ b ∈ bs, typeb b.2 = true := by
  unfold typesb
  rw [List.all_eq_true]

/-- What put's closure sees: the map of types, and the types. -/
structure PutAt (W : World) (bx mb n : Nat) (D : DataW Value) (bs : List (Int × List Nd)) (ps : List (Int × (Option Addr × Nat × Nat))) : Prop where
  box : Box1 W bx 72 (.map (some mb))
  own : W.ownsMap Tryz.prog 2 heldE mb n D
  first : FirstD ps D
  len : ps.length = bs.length
  nums : ps.map Prod.fst = bs.map Prod.fst
  at' : ∀ i (hp : i < ps.length) (hb : i < bs.length), ps[i].2.2.1 = bs[i].2.length ∧ Nodes W ps[i].2.1 bs[i].2

theorem PutAt.below {W W' : World} {bx mb n : Nat} {D : DataW Value} {bs : List (Int × List Nd)} {ps : List (Int × (Option Addr × Nat × Nat))} (h : PutAt W bx mb n D bs ps) (hb : Below W.heap.size W W') : PutAt W' bx mb n D bs ps :=
  ⟨h.box.below hb h.box.lt, owns_same h.own (hb.block mb h.own.lt), h.first, h.len, h.nums, fun i hp hl => ⟨(h.at' i hp hl).1, (h.at' i hp hl).2.below hb⟩⟩

end Go.Proofs.YthioecjcnajmgaaGreatDoor

namespace Go.Proofs.YthioecjcnajmgaaGreatDoor
open Go.RowKit

theorem insR_mem (x z : Int × Int) (l : List (Int × Int)) : z ∈ insR x l ↔ z = x ∨ z ∈ l := by
  induction l with
  | nil => simp [insR]
  | cons y ys ih =>
    unfold insR
    split
    · simp only [List.mem_cons, ih]
      constructor
      · rintro (h | h | h)
        · exact Or.inr (Or.inl h)
        · exact Or.inl h
        · exact Or.inr (Or.inr h)
      · rintro (h | h | h)
        · exact Or.inr (Or.inl h)
        · exact Or.inl h
        · exact Or.inr (Or.inr h)
    · simp only [List.mem_cons]

theorem insR_down (x : Int × Int) (l : List (Int × Int)) (h : l.Pairwise (fun a b => b.1 < a.1)) (hx : ∀ y ∈ l, y.1 ≠ x.1) : (insR x l).Pairwise (fun a b => b.1 < a.1) := by
  induction l with
  | nil => simp [insR]
  | cons y ys ih =>
    obtain ⟨h1, h2⟩ := List.pairwise_cons.1 h
    unfold insR
    split
    · rename_i hlt
      refine List.pairwise_cons.2 ⟨?_, ih h2 (fun z hz => hx z (List.mem_cons_of_mem _ hz))⟩
      intro z hz
      rcases (insR_mem x z ys).1 hz with rfl | hz
      · exact hlt
      · exact h1 z hz
    · rename_i hge
      have hy := hx y (List.mem_cons_self ..)
      refine List.pairwise_cons.2 ⟨?_, h⟩
      intro z hz
      rcases List.mem_cons.1 hz with rfl | hz
      · omega
      · have := h1 z hz
        omega

theorem insM_mem (out : List (Int × Int)) (x z : Int × Int) : z ∈ insM out x ↔ z = x ∨ z ∈ out := by simp [insM, insR_mem]

theorem insM_up (out : List (Int × Int)) (x : Int × Int) (h : out.Pairwise (fun a b => a.1 < b.1)) (hx : ∀ y ∈ out, y.1 ≠ x.1) : (insM out x).Pairwise (fun a b => a.1 < b.1) := by
  unfold insM
  rw [List.pairwise_reverse]
  exact insR_down x _ (List.pairwise_reverse.2 h) (fun y hy => hx y (List.mem_reverse.1 hy))

theorem sorted_up (ms out : List (Int × Int)) (h : out.Pairwise (fun a b => a.1 < b.1)) (hd : ms.Pairwise (fun a b => a.1 ≠ b.1)) (hx : ∀ a ∈ out, ∀ b ∈ ms, a.1 ≠ b.1) :
    (ms.foldl insM out).Pairwise (fun a b => a.1 < b.1) ∧ ∀ z, z ∈ ms.foldl insM out ↔ z ∈ out ∨ z ∈ ms := by
  induction ms generalizing out with
  | nil => exact ⟨h, fun z => by simp⟩
  | cons m ms ih =>
    obtain ⟨h1, h2⟩ := List.pairwise_cons.1 hd
    rw [List.foldl_cons]
    obtain ⟨h3, h4⟩ := ih (insM out m) (insM_up out m h (fun y hy => hx y hy m (List.mem_cons_self ..))) h2 (by
      intro a ha b hb
      rcases (insM_mem out m a).1 ha with rfl | ha
      · exact h1 b hb
      · exact hx a ha b (List.mem_cons_of_mem _ hb))
    refine ⟨h3, fun z => ?_⟩
    rw [h4, insM_mem, List.mem_cons]
    constructor
    · rintro ((h | h) | h)
      · exact Or.inr (Or.inl h)
      · exact Or.inl h
      · exact Or.inr (Or.inr h)
    · rintro (h | h | h)
      · exact Or.inl (Or.inr h)
      · exact Or.inl (Or.inl h)
      · exact Or.inr h

theorem known_neg (ms : List (Int × Int)) (x : Int) : knownIn ms x < 0 ↔ ∀ p ∈ ms, p.1 ≠ x := by
  unfold knownIn
  constructor
  · intro h p hp e
    have h9 : placeIn (ms.map Prod.fst) x < ms.length := by
      have h8 : (ms.map Prod.fst).findIdx (· == x) < (ms.map Prod.fst).length := List.findIdx_lt_length_of_exists ⟨p.1, List.mem_map_of_mem hp, by simp [e]⟩
      simpa [placeIn] using h8
    rw [if_pos h9] at h
    omega
  · intro h
    have h9 := placeIn_none (met := ms.map Prod.fst) (x := x) (fun i hi => by
      rw [List.getElem_map]
      exact h _ (List.getElem_mem _))
    rw [h9, if_neg (by simp)]
    decide

theorem unkTo_facts (t : List Nd) (k : Nat) (h : k ≤ t.length) : (unkTo t k).Pairwise (fun a b => a.1 ≠ b.1) ∧ ∀ x, (∃ p ∈ unkTo t k, p.1 = x) ↔ ∃ n ∈ t.take k, n.kind = 61 ∧ n.num = x := by
  induction k with
  | zero => simp [unkTo]
  | succ k ih =>
    obtain ⟨h1, h2⟩ := ih (by omega)
    have hlt : k < t.length := by omega
    rw [unkTo_succ t k hlt, List.take_succ_eq_append_getElem hlt]
    generalize unkTo t k = ms at *
    generalize t[k] = n at *
    unfold unkStep
    split
    · rename_i hc
      obtain ⟨hk, hn⟩ := hc
      have hn' := (known_neg ms n.num).1 hn
      refine ⟨?_, fun x => ?_⟩
      · rw [List.pairwise_append]
        refine ⟨h1, by simp, ?_⟩
        intro a ha b hb
        simp at hb
        subst hb
        exact hn' a ha
      · constructor
        · rintro ⟨p, hp, rfl⟩
          rcases List.mem_append.1 hp with hp | hp
          · obtain ⟨q, hq, h3⟩ := (h2 p.1).1 ⟨p, hp, rfl⟩
            exact ⟨q, List.mem_append_left _ hq, h3⟩
          · simp at hp
            subst hp
            exact ⟨n, by simp, hk, rfl⟩
        · rintro ⟨q, hq, h3, rfl⟩
          rcases List.mem_append.1 hq with hq | hq
          · obtain ⟨p, hp, h4⟩ := (h2 q.num).2 ⟨q, hq, h3, rfl⟩
            exact ⟨p, List.mem_append_left _ hp, h4⟩
          · simp at hq
            subst hq
            exact ⟨(q.num, 0), by simp, rfl⟩
    · rename_i hc
      refine ⟨h1, fun x => ?_⟩
      rw [h2]
      constructor
      · rintro ⟨q, hq, h3⟩
        exact ⟨q, List.mem_append_left _ hq, h3⟩
      · rintro ⟨q, hq, h3, h4⟩
        rcases List.mem_append.1 hq with hq | hq
        · exact ⟨q, hq, h3, h4⟩
        · simp at hq
          subst hq
          subst h4
          by_cases hkn : knownIn ms q.num < 0
          · exact absurd ⟨h3, hkn⟩ hc
          · obtain ⟨p, hp, h5⟩ : ∃ p ∈ ms, p.1 = q.num := by
              by_cases hex : ∃ p ∈ ms, p.1 = q.num
              · exact hex
              · exact absurd ((known_neg ms q.num).2 (fun p hp e => hex ⟨p, hp, e⟩)) hkn
            exact (h2 q.num).1 ⟨p, hp, h5⟩

/-- The unknowns of a type: rising, and just those that stand in it. -/
theorem unkOf_facts (t : List Nd) (ht : typeb t = true) : (unkOf t).Pairwise (· < ·) ∧ ∀ x, x ∈ unkOf t ↔ ∃ n ∈ t, n.kind = 61 ∧ n.num = x := by
  obtain ⟨h1, h2⟩ := unkTo_facts t t.length (Nat.le_refl _)
  obtain ⟨h3, h4⟩ := sorted_up (unkTo t t.length) [] List.Pairwise.nil h1 (fun a ha => by simp at ha)
  rw [List.take_length] at h2
  have e : unkOf t = (sortedM (unkTo t t.length)).map Prod.fst := by simp [unkOf, ht]
  rw [e]
  refine ⟨List.pairwise_map.2 h3, fun x => ?_⟩
  rw [List.mem_map, ← h2]
  constructor
  · rintro ⟨p, hp, h5⟩
    rcases (h4 p).1 hp with h | h
    · simp at h
    · exact ⟨p, h, h5⟩
  · rintro ⟨p, hp, h5⟩
    exact ⟨p, (h4 p).2 (Or.inr hp), h5⟩

/-- Rising lists with the same numbers are the same. -/
theorem rising_same {a b : List Int} (ha : a.Pairwise (· < ·)) (hb : b.Pairwise (· < ·)) (h : ∀ x, x ∈ a ↔ x ∈ b) : a = b := by
  induction a generalizing b with
  | nil =>
    cases b with
    | nil => rfl
    | cons y ys => exact absurd ((h y).2 (List.mem_cons_self ..)) (by simp)
  | cons x xs ih =>
    cases b with
    | nil => exact absurd ((h x).1 (List.mem_cons_self ..)) (by simp)
    | cons y ys =>
      obtain ⟨a1, a2⟩ := List.pairwise_cons.1 ha
      obtain ⟨b1, b2⟩ := List.pairwise_cons.1 hb
      have hxy : x = y := by
        rcases List.mem_cons.1 ((h x).1 (List.mem_cons_self ..)) with e | hx
        · exact e
        · rcases List.mem_cons.1 ((h y).2 (List.mem_cons_self ..)) with e | hy
          · exact e.symm
          · have := b1 x hx
            have := a1 y hy
            omega
      subst hxy
      rw [ih a2 b2]
      intro z
      constructor
      · intro hz
        rcases List.mem_cons.1 ((h z).1 (List.mem_cons_of_mem _ hz)) with e | h9
        · have := a1 z hz
          omega
        · exact h9
      · intro hz
        rcases List.mem_cons.1 ((h z).2 (List.mem_cons_of_mem _ hz)) with e | h9
        · have := b1 z hz
          omega
        · exact h9

end Go.Proofs.YthioecjcnajmgaaGreatDoor

namespace Go.Proofs.YthioecjcnajmgaaGreatDoor
open Go.RowKit

/-- What Binds have for a number: of several the first. -/
def fsAt (bs : List (Int × List Nd)) (x : Int) : Option (List Nd) := (bs[placeIn (bs.map Prod.fst) x]?).map Prod.snd

theorem fsAt_lt {bs : List (Int × List Nd)} {x : Int} {t : List Nd} (h : fsAt bs x = some t) : ∃ hl : placeIn (bs.map Prod.fst) x < bs.length, bs[placeIn (bs.map Prod.fst) x].2 = t := by
  unfold fsAt at h
  obtain ⟨b, hb, e⟩ := Option.map_eq_some_iff.1 h
  obtain ⟨hl, e9⟩ := List.getElem?_eq_some_iff.1 hb
  exact ⟨hl, by rw [e9]; exact e⟩

theorem fsAt_mem {bs : List (Int × List Nd)} {x : Int} {t : List Nd} (h : fsAt bs x = some t) : ∃ b ∈ bs, b.2 = t := by
  obtain ⟨hl, e⟩ := fsAt_lt h
  exact ⟨_, List.getElem_mem hl, e⟩

end Go.Proofs.YthioecjcnajmgaaGreatDoor

namespace Go.Proofs.YthioecjcnajmgaaGreatDoor
open Go.RowKit

/-- An unknown as a node. -/
def metaC (x : Int) : Nd := ⟨61, x, ByteArray.empty, 0, 0⟩

theorem plain_metaC {n : Nd} (h : n.plainb = true) (hk : n.kind = 61) : n = metaC n.num := by
  obtain ⟨a, b, c, d, e⟩ := n
  simp only at hk
  subst hk
  unfold Nd.plainb at h
  simp at h
  obtain ⟨h1, h2⟩ := h
  obtain ⟨⟨h3, _⟩, h4⟩ := h2
  simp only [metaC]
  subst h4
  subst h1
  subst h3
  rfl

theorem metaC_one (x : Int) : One [metaC x] := One.join (A := []) (n := metaC x) (by simp) (by simp [metaC])

theorem plain_leafyC {t : List Nd} (h : t.all Nd.plainb = true) : Leafy t := by
  intro n hn h61
  have := List.all_eq_true.1 h n hn
  unfold Nd.plainb at this
  simp [h61] at this
  exact this.2.1.1

theorem flatMap_congrC {α β : Type} {l : List α} {f g : α → List β} (h : ∀ x ∈ l, f x = g x) : l.flatMap f = l.flatMap g := by
  induction l with
  | nil => rfl
  | cons a l ih => simp only [List.flatMap_cons]; rw [h a (by simp), ih (fun x hx => h x (by simp [hx]))]

theorem deep_one {a : List Nd} (h : One a) (hl : a.length ≤ 300) : 0 < deepOf a := by
  obtain ⟨s, ys, ha⟩ := h
  have hf := after_fine ha
  have hlen := hf.len
  have hmem := hf.mem 0 (by simp)
  simp only [List.getElem_cons_zero] at hmem
  obtain ⟨hrl, hrs⟩ := List.getElem?_eq_some_iff.1 hmem
  obtain ⟨h1, h2⟩ := hf.chain.2.2.1 (by simp)
  simp only [List.getElem_cons_zero, List.length_cons, List.length_nil, Nat.zero_add, Nat.sub_self] at h1 h2
  have hroot := hf.root s.rt hrl
  rw [hrs] at hroot
  have hlast : ys.getLast? = some s := by
    rw [List.getLast?_eq_getElem?]
    have e : ys.length - 1 = s.rt := by omega
    rw [e]
    exact hmem
  unfold deepOf
  rw [if_neg (by omega), ha]
  simp only
  rw [hlast]
  simp only
  rw [if_pos ⟨h1, by omega⟩]
  omega

theorem one_deep {t : List Nd} (h : 0 < deepOf t) : One t := by
  obtain ⟨h0, h6, S, ys, ha, hl⟩ := deep_after rfl h
  unfold deepOf at h
  rw [if_neg (by omega), ha] at h
  simp only at h
  cases hg : ys.getLast? with
  | none => rw [hg] at h; simp at h
  | some s =>
    rw [hg] at h
    simp only at h
    by_cases hc : s.fr = 0 ∧ s.dp ≤ 300
    · rw [List.getLast?_eq_getElem?] at hg
      have h9 := sub_one ha (i := ys.length - 1) (by omega) hg
      rw [hc.1, hl] at h9
      have e : span t 0 (t.length - 1) = t := by
        unfold span
        rw [List.take_of_length_le (by omega)]
        simp
      rw [e] at h9
      exact h9
    · rw [if_neg hc] at h
      omega

theorem type_one {t : List Nd} (h : typeb t = true) : One t := by
  simp only [typeb, Bool.and_eq_true, decide_eq_true_eq] at h
  exact one_deep h.1.2

theorem type_plain {t : List Nd} (h : typeb t = true) : t.all Nd.plainb = true := by
  simp only [typeb, Bool.and_eq_true, decide_eq_true_eq] at h
  exact h.2

theorem one_type {a : List Nd} (h : One a) (hl : a.length ≤ 300) (hp : a.all Nd.plainb = true) : typeb a = true := by
  simp only [typeb, Bool.and_eq_true, decide_eq_true_eq]
  exact ⟨⟨hl, deep_one h hl⟩, hp⟩

theorem putSub_fsAt (bs : List (Int × List Nd)) (n : Nd) : putSub bs n = if n.kind = 61 then (fsAt bs n.num).getD [n] else [n] := rfl

/-- Put is a filling. -/
theorem putAll_fill (ts : List (Int × List Nd)) {b : List Nd} (hp : b.all Nd.plainb = true) : putAll ts b = fill (fun x => (fsAt ts x).getD [metaC x]) b := by
  unfold putAll fill
  apply flatMap_congrC
  intro n hn
  rw [putSub_fsAt, fillN]
  have hpn : n.plainb = true := List.all_eq_true.1 hp n hn
  by_cases hk : n.kind = 61
  · rw [if_pos hk, if_pos hk, ← plain_metaC hpn hk]
  · rw [if_neg hk, if_neg hk]

theorem fsAt_type {ts : List (Int × List Nd)} (ht : typesb ts = true) {x : Int} {t : List Nd} (h : fsAt ts x = some t) : typeb t = true := by
  obtain ⟨b, hb, rfl⟩ := fsAt_mem h
  exact (typesb_iff ts).1 ht b hb

theorem putAll_type {ts : List (Int × List Nd)} {b : List Nd} (ht : typesb ts = true) (hb : typeb b = true) (hl : (putAll ts b).length ≤ 300) : typeb (putAll ts b) = true := by
  have hp := type_plain hb
  refine one_type ?_ hl ?_
  · rw [putAll_fill ts hp]
    refine fill_one (fun x => ?_) (plain_leafyC hp) (type_one hb)
    cases hx : fsAt ts x with
    | none => exact metaC_one x
    | some t => exact type_one (fsAt_type ht hx)
  · rw [List.all_eq_true]
    intro n hn
    obtain ⟨m, hm, hn⟩ := List.mem_flatMap.1 hn
    have hpm : m.plainb = true := List.all_eq_true.1 hp m hm
    rw [putSub_fsAt] at hn
    by_cases hk : m.kind = 61
    · rw [if_pos hk] at hn
      cases hx : fsAt ts m.num with
      | none =>
        rw [hx] at hn
        simp at hn
        rw [hn]
        exact hpm
      | some t =>
        rw [hx] at hn
        exact List.all_eq_true.1 (type_plain (fsAt_type ht hx)) n hn
    · rw [if_neg hk] at hn
      simp at hn
      rw [hn]
      exact hpm

theorem putOf_ne {bs : List (Int × List Nd)} {t : List Nd} (h : putOf bs t ≠ []) : typeb t = true ∧ typesb bs = true ∧ (putAll bs t).length ≤ 300 ∧ putOf bs t = putAll bs t := by
  unfold putOf at h ⊢
  by_cases hc : typeb t = true ∧ (∀ b ∈ bs, typeb b.2 = true) ∧ (putAll bs t).length ≤ 300
  · rw [if_pos hc] at h ⊢
    exact ⟨hc.1, (typesb_iff bs).2 hc.2.1, hc.2.2, rfl⟩
  · rw [if_neg hc] at h
    exact absurd rfl h

theorem putOf_eq {bs : List (Int × List Nd)} {t : List Nd} (h1 : typeb t = true) (h2 : typesb bs = true) (h3 : (putAll bs t).length ≤ 300) : putOf bs t = putAll bs t := by
  rw [putOf, if_pos ⟨h1, (typesb_iff bs).1 h2, h3⟩]

end Go.Proofs.YthioecjcnajmgaaGreatDoor

namespace Go.Proofs.YthioecjcnajmgaaGreatDoor

/-- The number that is renamed to this one. -/
noncomputable def back (ρ : Int → Int) (y : Int) : Option Int := by
  classical
  exact if h : ∃ x, ρ x = y then some h.choose else none

end Go.Proofs.YthioecjcnajmgaaGreatDoor

namespace Go.Proofs.YthioecjcnajmgaaGreatDoor

end Go.Proofs.YthioecjcnajmgaaGreatDoor

namespace Go.Proofs.YthioecjcnajmgaaGreatDoor

end Go.Proofs.YthioecjcnajmgaaGreatDoor
