import Derived.Test.YthioecjcnajmgaaGreatDoorWBG
import Derived.Test.YthioecjcnajmgaaGreatDoorWBF
import Derived.Maps.OwnSet
import Derived.Test.YthioecjcnajmgaaGreatDoorSUnk
import Derived.Test.YthioecjcnajmgaaGreatDoorWBH
import Derived.Test.YthioecjcnajmgaaGreatDoorWAH
import Derived.Test.YthioecjcnajmgaaGreatDoorWAS
import Derived.Test.YthioecjcnajmgaaGreatDoorProg
import Derived.Test.YthioecjcnajmgaaGreatDoorWAA
import Derived.Laws.BitsAllLaws
import Derived.Test.YthioecjcnajmgaaGreatDoorWBM
import Derived.Test.YthioecjcnajmgaaGreatDoorWAQ
namespace Go.Proofs.YthioecjcnajmgaaGreatDoor

open Go.RowKit Go.Maps

/-- All types of Binds are types. -/
def typesb (bs : List (Int × List Nd)) : Bool := bs.all (fun b => typeb b.2)

theorem typesb_iff (bs : List (Int × List Nd)) : typesb bs = true ↔ ∀ b ∈ bs, typeb b.2 = true := by
  unfold typesb
  rw [List.all_eq_true]

/-- What put's closure sees: the map of types, and the types. -/
structure PutAt (W : World) (bx mb n : Nat) (D : DataW Value) (bs : List (Int × List Nd)) (ps : List (Int × (Option Addr × Nat × Nat))) : Prop where
  box : Box1 W bx 72 (.map (some mb))
  own : W.ownsMap Tryz.prog 2 heldE mb n D
  first : FirstD ps D
  len : ps.length = bs.length
  nums : ps.map Prod.fst = bs.map Prod.fst
  at' : ∀ i (hp : i < ps.length) (hb : i < bs.length), ps[i].2.2.1 = bs[i].2.length ∧ Nodes W ps[i].2.1 bs[i].2

theorem PutAt.below {W W' : World} {bx mb n : Nat} {D : DataW Value} {bs : List (Int × List Nd)} {ps : List (Int × (Option Addr × Nat × Nat))} (h : PutAt W bx mb n D bs ps) (hb : Below W.heap.size W W') : PutAt W' bx mb n D bs ps :=
  ⟨h.box.below hb h.box.lt, owns_same h.own (hb.block mb h.own.lt), h.first, h.len, h.nums, fun i hp hl => ⟨(h.at' i hp hl).1, (h.at' i hp hl).2.below hb⟩⟩

end Go.Proofs.YthioecjcnajmgaaGreatDoor

namespace Go.Proofs.YthioecjcnajmgaaGreatDoor

open Go.RowKit

theorem insR_mem (x z : Int × Int) (l : List (Int × Int)) : z ∈ insR x l ↔ z = x ∨ z ∈ l := by
  induction l with
  | nil => simp [insR]
  | cons y ys ih =>
    unfold insR
    split
    · simp only [List.mem_cons, ih]
      constructor
      · rintro (h | h | h)
        · exact Or.inr (Or.inl h)
        · exact Or.inl h
        · exact Or.inr (Or.inr h)
      · rintro (h | h | h)
        · exact Or.inr (Or.inl h)
        · exact Or.inl h
        · exact Or.inr (Or.inr h)
    · simp only [List.mem_cons]

theorem insR_down (x : Int × Int) (l : List (Int × Int)) (h : l.Pairwise (fun a b => b.1 < a.1)) (hx : ∀ y ∈ l, y.1 ≠ x.1) : (insR x l).Pairwise (fun a b => b.1 < a.1) := by
  induction l with
  | nil => simp [insR]
  | cons y ys ih =>
    obtain ⟨h1, h2⟩ := List.pairwise_cons.1 h
    unfold insR
    split
    · rename_i hlt
      refine List.pairwise_cons.2 ⟨?_, ih h2 (fun z hz => hx z (List.mem_cons_of_mem _ hz))⟩
      intro z hz
      rcases (insR_mem x z ys).1 hz with rfl | hz
      · exact hlt
      · exact h1 z hz
    · rename_i hge
      have hy := hx y (List.mem_cons_self ..)
      refine List.pairwise_cons.2 ⟨?_, h⟩
      intro z hz
      rcases List.mem_cons.1 hz with rfl | hz
      · omega
      · have := h1 z hz
        omega

theorem insM_mem (out : List (Int × Int)) (x z : Int × Int) : z ∈ insM out x ↔ z = x ∨ z ∈ out := by simp [insM, insR_mem]

theorem insM_up (out : List (Int × Int)) (x : Int × Int) (h : out.Pairwise (fun a b => a.1 < b.1)) (hx : ∀ y ∈ out, y.1 ≠ x.1) : (insM out x).Pairwise (fun a b => a.1 < b.1) := by
  unfold insM
  rw [List.pairwise_reverse]
  exact insR_down x _ (List.pairwise_reverse.2 h) (fun y hy => hx y (List.mem_reverse.1 hy))

theorem sorted_up (ms out : List (Int × Int)) (h : out.Pairwise (fun a b => a.1 < b.1)) (hd : ms.Pairwise (fun a b => a.1 ≠ b.1)) (hx : ∀ a ∈ out, ∀ b ∈ ms, a.1 ≠ b.1) :
    (ms.foldl insM out).Pairwise (fun a b => a.1 < b.1) ∧ ∀ z, z ∈ ms.foldl insM out ↔ z ∈ out ∨ z ∈ ms := by
  induction ms generalizing out with
  | nil => exact ⟨h, fun z => by simp⟩
  | cons m ms ih =>
    obtain ⟨h1, h2⟩ := List.pairwise_cons.1 hd
    rw [List.foldl_cons]
    obtain ⟨h3, h4⟩ := ih (insM out m) (insM_up out m h (fun y hy => hx y hy m (List.mem_cons_self ..))) h2 (by
      intro a ha b hb
      rcases (insM_mem out m a).1 ha with rfl | ha
      · exact h1 b hb
      · exact hx a ha b (List.mem_cons_of_mem _ hb))
    refine ⟨h3, fun z => ?_⟩
    rw [h4, insM_mem, List.mem_cons]
    constructor
    · rintro ((h | h) | h)
      · exact Or.inr (Or.inl h)
      · exact Or.inl h
      · exact Or.inr (Or.inr h)
    · rintro (h | h | h)
      · exact Or.inl (Or.inr h)
      · exact Or.inl (Or.inl h)
      · exact Or.inr h

theorem known_neg (ms : List (Int × Int)) (x : Int) : knownIn ms x < 0 ↔ ∀ p ∈ ms, p.1 ≠ x := by
  unfold knownIn
  constructor
  · intro h p hp e
    have h9 : placeIn (ms.map Prod.fst) x < ms.length := by
      have h8 : (ms.map Prod.fst).findIdx (· == x) < (ms.map Prod.fst).length := List.findIdx_lt_length_of_exists ⟨p.1, List.mem_map_of_mem hp, by simp [e]⟩
      simpa [placeIn] using h8
    rw [if_pos h9] at h
    omega
  · intro h
    have h9 := placeIn_none (met := ms.map Prod.fst) (x := x) (fun i hi => by
      rw [List.getElem_map]
      exact h _ (List.getElem_mem _))
    rw [h9, if_neg (by simp)]
    decide

theorem unkTo_facts (t : List Nd) (k : Nat) (h : k ≤ t.length) : (unkTo t k).Pairwise (fun a b => a.1 ≠ b.1) ∧ ∀ x, (∃ p ∈ unkTo t k, p.1 = x) ↔ ∃ n ∈ t.take k, n.kind = 61 ∧ n.num = x := by
  induction k with
  | zero => simp [unkTo]
  | succ k ih =>
    obtain ⟨h1, h2⟩ := ih (by omega)
    have hlt : k < t.length := by omega
    rw [unkTo_succ t k hlt, List.take_succ_eq_append_getElem hlt]
    generalize unkTo t k = ms at *
    generalize t[k] = n at *
    unfold unkStep
    split
    · rename_i hc
      obtain ⟨hk, hn⟩ := hc
      have hn' := (known_neg ms n.num).1 hn
      refine ⟨?_, fun x => ?_⟩
      · rw [List.pairwise_append]
        refine ⟨h1, by simp, ?_⟩
        intro a ha b hb
        simp at hb
        subst hb
        exact hn' a ha
      · constructor
        · rintro ⟨p, hp, rfl⟩
          rcases List.mem_append.1 hp with hp | hp
          · obtain ⟨q, hq, h3⟩ := (h2 p.1).1 ⟨p, hp, rfl⟩
            exact ⟨q, List.mem_append_left _ hq, h3⟩
          · simp at hp
            subst hp
            exact ⟨n, by simp, hk, rfl⟩
        · rintro ⟨q, hq, h3, rfl⟩
          rcases List.mem_append.1 hq with hq | hq
          · obtain ⟨p, hp, h4⟩ := (h2 q.num).2 ⟨q, hq, h3, rfl⟩
            exact ⟨p, List.mem_append_left _ hp, h4⟩
          · simp at hq
            subst hq
            exact ⟨(q.num, 0), by simp, rfl⟩
    · rename_i hc
      refine ⟨h1, fun x => ?_⟩
      rw [h2]
      constructor
      · rintro ⟨q, hq, h3⟩
        exact ⟨q, List.mem_append_left _ hq, h3⟩
      · rintro ⟨q, hq, h3, h4⟩
        rcases List.mem_append.1 hq with hq | hq
        · exact ⟨q, hq, h3, h4⟩
        · simp at hq
          subst hq
          subst h4
          by_cases hkn : knownIn ms q.num < 0
          · exact absurd ⟨h3, hkn⟩ hc
          · obtain ⟨p, hp, h5⟩ : ∃ p ∈ ms, p.1 = q.num := by
              by_cases hex : ∃ p ∈ ms, p.1 = q.num
              · exact hex
              · exact absurd ((known_neg ms q.num).2 (fun p hp e => hex ⟨p, hp, e⟩)) hkn
            exact (h2 q.num).1 ⟨p, hp, h5⟩

/-- The unknowns of a type: rising, and just those that stand in it. -/
theorem unkOf_facts (t : List Nd) (ht : typeb t = true) : (unkOf t).Pairwise (· < ·) ∧ ∀ x, x ∈ unkOf t ↔ ∃ n ∈ t, n.kind = 61 ∧ n.num = x := by
  obtain ⟨h1, h2⟩ := unkTo_facts t t.length (Nat.le_refl _)
  obtain ⟨h3, h4⟩ := sorted_up (unkTo t t.length) [] List.Pairwise.nil h1 (fun a ha => by simp at ha)
  rw [List.take_length] at h2
  have e : unkOf t = (sortedM (unkTo t t.length)).map Prod.fst := by simp [unkOf, ht]
  rw [e]
  refine ⟨List.pairwise_map.2 h3, fun x => ?_⟩
  rw [List.mem_map, ← h2]
  constructor
  · rintro ⟨p, hp, h5⟩
    rcases (h4 p).1 hp with h | h
    · simp at h
    · exact ⟨p, h, h5⟩
  · rintro ⟨p, hp, h5⟩
    exact ⟨p, (h4 p).2 (Or.inr hp), h5⟩

/-- Rising lists with the same numbers are the same. -/
theorem rising_same {a b : List Int} (ha : a.Pairwise (· < ·)) (hb : b.Pairwise (· < ·)) (h : ∀ x, x ∈ a ↔ x ∈ b) : a = b := by
  induction a generalizing b with
  | nil =>
    cases b with
    | nil => rfl
    | cons y ys => exact absurd ((h y).2 (List.mem_cons_self ..)) (by simp)
  | cons x xs ih =>
    cases b with
    | nil => exact absurd ((h x).1 (List.mem_cons_self ..)) (by simp)
    | cons y ys =>
      obtain ⟨a1, a2⟩ := List.pairwise_cons.1 ha
      obtain ⟨b1, b2⟩ := List.pairwise_cons.1 hb
      have hxy : x = y := by
        rcases List.mem_cons.1 ((h x).1 (List.mem_cons_self ..)) with e | hx
        · exact e
        · rcases List.mem_cons.1 ((h y).2 (List.mem_cons_self ..)) with e | hy
          · exact e.symm
          · have := b1 x hx
            have := a1 y hy
            omega
      subst hxy
      rw [ih a2 b2]
      intro z
      constructor
      · intro hz
        rcases List.mem_cons.1 ((h z).1 (List.mem_cons_of_mem _ hz)) with e | h9
        · have := a1 z hz
          omega
        · exact h9
      · intro hz
        rcases List.mem_cons.1 ((h z).2 (List.mem_cons_of_mem _ hz)) with e | h9
        · have := b1 z hz
          omega
        · exact h9

/-- What Binds have for a number: of several the first. -/
def fsAt (bs : List (Int × List Nd)) (x : Int) : Option (List Nd) := (bs[placeIn (bs.map Prod.fst) x]?).map Prod.snd

theorem fsAt_lt {bs : List (Int × List Nd)} {x : Int} {t : List Nd} (h : fsAt bs x = some t) : ∃ hl : placeIn (bs.map Prod.fst) x < bs.length, bs[placeIn (bs.map Prod.fst) x].2 = t := by
  unfold fsAt at h
  obtain ⟨b, hb, e⟩ := Option.map_eq_some_iff.1 h
  obtain ⟨hl, e9⟩ := List.getElem?_eq_some_iff.1 hb
  exact ⟨hl, by rw [e9]; exact e⟩

theorem fsAt_mem {bs : List (Int × List Nd)} {x : Int} {t : List Nd} (h : fsAt bs x = some t) : ∃ b ∈ bs, b.2 = t := by
  obtain ⟨hl, e⟩ := fsAt_lt h
  exact ⟨_, List.getElem_mem hl, e⟩

/-- An unknown as a node. -/
def metaC (x : Int) : Nd := ⟨61, x, ByteArray.empty, 0, 0⟩

theorem plain_metaC {n : Nd} (h : n.plainb = true) (hk : n.kind = 61) : n = metaC n.num := by
  obtain ⟨a, b, c, d, e⟩ := n
  simp only at hk
  subst hk
  unfold Nd.plainb at h
  simp at h
  obtain ⟨h1, h2⟩ := h
  obtain ⟨⟨h3, _⟩, h4⟩ := h2
  simp only [metaC]
  subst h4
  subst h1
  subst h3
  rfl

theorem metaC_one (x : Int) : One [metaC x] := One.join (A := []) (n := metaC x) (by simp) (by simp [metaC])

theorem plain_leafyC {t : List Nd} (h : t.all Nd.plainb = true) : Leafy t := by
  intro n hn h61
  have := List.all_eq_true.1 h n hn
  unfold Nd.plainb at this
  simp [h61] at this
  exact this.2.1.1

theorem flatMap_congrC {α β : Type} {l : List α} {f g : α → List β} (h : ∀ x ∈ l, f x = g x) : l.flatMap f = l.flatMap g := by
  induction l with
  | nil => rfl
  | cons a l ih => simp only [List.flatMap_cons]; rw [h a (by simp), ih (fun x hx => h x (by simp [hx]))]

theorem deep_one {a : List Nd} (h : One a) (hl : a.length ≤ 300) : 0 < deepOf a := by
  obtain ⟨s, ys, ha⟩ := h
  have hf := after_fine ha
  have hlen := hf.len
  have hmem := hf.mem 0 (by simp)
  simp only [List.getElem_cons_zero] at hmem
  obtain ⟨hrl, hrs⟩ := List.getElem?_eq_some_iff.1 hmem
  obtain ⟨h1, h2⟩ := hf.chain.2.2.1 (by simp)
  simp only [List.getElem_cons_zero, List.length_cons, List.length_nil, Nat.zero_add, Nat.sub_self] at h1 h2
  have hroot := hf.root s.rt hrl
  rw [hrs] at hroot
  have hlast : ys.getLast? = some s := by
    rw [List.getLast?_eq_getElem?]
    have e : ys.length - 1 = s.rt := by omega
    rw [e]
    exact hmem
  unfold deepOf
  rw [if_neg (by omega), ha]
  simp only
  rw [hlast]
  simp only
  rw [if_pos ⟨h1, by omega⟩]
  omega

theorem one_deep {t : List Nd} (h : 0 < deepOf t) : One t := by
  obtain ⟨h0, h6, S, ys, ha, hl⟩ := deep_after rfl h
  unfold deepOf at h
  rw [if_neg (by omega), ha] at h
  simp only at h
  cases hg : ys.getLast? with
  | none => rw [hg] at h; simp at h
  | some s =>
    rw [hg] at h
    simp only at h
    by_cases hc : s.fr = 0 ∧ s.dp ≤ 300
    · rw [List.getLast?_eq_getElem?] at hg
      have h9 := sub_one ha (i := ys.length - 1) (by omega) hg
      rw [hc.1, hl] at h9
      have e : span t 0 (t.length - 1) = t := by
        unfold span
        rw [List.take_of_length_le (by omega)]
        simp
      rw [e] at h9
      exact h9
    · rw [if_neg hc] at h
      omega

theorem type_one {t : List Nd} (h : typeb t = true) : One t := by
  simp only [typeb, Bool.and_eq_true, decide_eq_true_eq] at h
  exact one_deep h.1.2

theorem type_plain {t : List Nd} (h : typeb t = true) : t.all Nd.plainb = true := by
  simp only [typeb, Bool.and_eq_true, decide_eq_true_eq] at h
  exact h.2

theorem one_type {a : List Nd} (h : One a) (hl : a.length ≤ 300) (hp : a.all Nd.plainb = true) : typeb a = true := by
  simp only [typeb, Bool.and_eq_true, decide_eq_true_eq]
  exact ⟨⟨hl, deep_one h hl⟩, hp⟩

theorem putSub_fsAt (bs : List (Int × List Nd)) (n : Nd) : putSub bs n = if n.kind = 61 then (fsAt bs n.num).getD [n] else [n] := rfl

/-- Put is a filling. -/
theorem putAll_fill (ts : List (Int × List Nd)) {b : List Nd} (hp : b.all Nd.plainb = true) : putAll ts b = fill (fun x => (fsAt ts x).getD [metaC x]) b := by
  unfold putAll fill
  apply flatMap_congrC
  intro n hn
  rw [putSub_fsAt, fillN]
  have hpn : n.plainb = true := List.all_eq_true.1 hp n hn
  by_cases hk : n.kind = 61
  · rw [if_pos hk, if_pos hk, ← plain_metaC hpn hk]
  · rw [if_neg hk, if_neg hk]

theorem fsAt_type {ts : List (Int × List Nd)} (ht : typesb ts = true) {x : Int} {t : List Nd} (h : fsAt ts x = some t) : typeb t = true := by
  obtain ⟨b, hb, rfl⟩ := fsAt_mem h
  exact (typesb_iff ts).1 ht b hb

theorem putAll_type {ts : List (Int × List Nd)} {b : List Nd} (ht : typesb ts = true) (hb : typeb b = true) (hl : (putAll ts b).length ≤ 300) : typeb (putAll ts b) = true := by
  have hp := type_plain hb
  refine one_type ?_ hl ?_
  · rw [putAll_fill ts hp]
    refine fill_one (fun x => ?_) (plain_leafyC hp) (type_one hb)
    cases hx : fsAt ts x with
    | none => exact metaC_one x
    | some t => exact type_one (fsAt_type ht hx)
  · rw [List.all_eq_true]
    intro n hn
    obtain ⟨m, hm, hn⟩ := List.mem_flatMap.1 hn
    have hpm : m.plainb = true := List.all_eq_true.1 hp m hm
    rw [putSub_fsAt] at hn
    by_cases hk : m.kind = 61
    · rw [if_pos hk] at hn
      cases hx : fsAt ts m.num with
      | none =>
        rw [hx] at hn
        simp at hn
        rw [hn]
        exact hpm
      | some t =>
        rw [hx] at hn
        exact List.all_eq_true.1 (type_plain (fsAt_type ht hx)) n hn
    · rw [if_neg hk] at hn
      simp at hn
      rw [hn]
      exact hpm

theorem putOf_ne {bs : List (Int × List Nd)} {t : List Nd} (h : putOf bs t ≠ []) : typeb t = true ∧ typesb bs = true ∧ (putAll bs t).length ≤ 300 ∧ putOf bs t = putAll bs t := by
  unfold putOf at h ⊢
  by_cases hc : typeb t = true ∧ (∀ b ∈ bs, typeb b.2 = true) ∧ (putAll bs t).length ≤ 300
  · rw [if_pos hc] at h ⊢
    exact ⟨hc.1, (typesb_iff bs).2 hc.2.1, hc.2.2, rfl⟩
  · rw [if_neg hc] at h
    exact absurd rfl h

theorem putOf_eq {bs : List (Int × List Nd)} {t : List Nd} (h1 : typeb t = true) (h2 : typesb bs = true) (h3 : (putAll bs t).length ≤ 300) : putOf bs t = putAll bs t := by
  rw [putOf, if_pos ⟨h1, (typesb_iff bs).1 h2, h3⟩]

end Go.Proofs.YthioecjcnajmgaaGreatDoor

namespace Go.Proofs.YthioecjcnajmgaaGreatDoor

/-- The number that is renamed to this one. -/
def back (dec : ∀ p : Prop, Decidable p) (ep : (Int → Prop) → Int) (rh : Int → Int) (y : Int) : Option Int := @ite _ (∃ x, rh x = y) (dec _) (some (ep fun x => rh x = y)) none

end Go.Proofs.YthioecjcnajmgaaGreatDoor

namespace Go.Proofs.YthioecjcnajmgaaGreatDoor

open Go.RowKit

/-- A slice of n bytes. -/
def Code (w : World) (ao : Option Addr) (n : Nat) : Prop :=
  ∀ i, i < n → ∃ b o v, ao = some ⟨b, o, none⟩ ∧ w.cell? ⟨b, o + i, none⟩ = some (.int .u8 ((v : Nat) : Int)) ∧ v < 256

theorem Code.below {w w' : World} {ao : Option Addr} {n : Nat} (h : Code w ao n) (hb : Below w.heap.size w w') : Code w' ao n := by
  intro i hi
  obtain ⟨b, o, v, e, hc, hv⟩ := h i hi
  exact ⟨b, o, v, e, (hb.cell (p := ⟨b, o + i, none⟩) (lt_of_cell hc)).trans hc, hv⟩

theorem i64_xor (a b : Nat) (ha : a < 4611686018427387904) (hb : b < 4611686018427387904) : bits .xor .i64 (a : Int) (b : Int) = ((a ^^^ b : Nat) : Int) := by
  show IntKind.i64.wrap ((BitVec.ofInt 64 (a : Int) ^^^ BitVec.ofInt 64 (b : Int)).toNat : Int) = _
  have hx : a ^^^ b < 2 ^ 62 := Nat.xor_lt_two_pow (by omega) (by omega)
  rw [BitVec.toNat_xor, ofInt_u64 a (by omega), ofInt_u64 b (by omega)]
  simp [IntKind.wrap, IntKind.bits, IntKind.signed]
  omega

theorem xor_rem {x y : Int} {k : Nat} (hx : 0 ≤ x) (hx2 : x < 4611686018427387904) (hy : 0 ≤ y) (hy2 : y < 4611686018427387904) (hk : 1 ≤ k) :
    0 ≤ (bits .xor .i64 x y).tmod (k : Int) ∧ (bits .xor .i64 x y).tmod (k : Int) < (k : Int) := by
  obtain ⟨a, rfl⟩ := Int.eq_ofNat_of_zero_le hx
  obtain ⟨b, rfl⟩ := Int.eq_ofNat_of_zero_le hy
  rw [i64_xor a b (by omega) (by omega)]
  exact ⟨Int.tmod_nonneg _ (by omega), Int.tmod_lt_of_pos _ (by omega)⟩

/-- What l1Take answers. -/
def Took (k p : Nat) (e : Ending) : Prop := ∃ r : Nat, r < k ∧ e = .returned (.tuple #[.int .i64 (r : Int), .int .i64 ((p + 1 : Nat) : Int)])

theorem took_of {k p : Nat} {x : Int} (h0 : 0 ≤ x) (h1 : x < (k : Int)) : Took k p (.returned (.tuple #[.int .i64 x, .int .i64 ((p : Int) + 1)])) :=
  ⟨x.toNat, by omega, by have : ((x.toNat : Nat) : Int) = x := by omega
                         rw [this]; simp⟩

theorem rem_in {x : Int} {k : Nat} (_ : 0 ≤ x) (hk : 1 ≤ k) : 0 ≤ x % (k : Int) ∧ x % (k : Int) < (k : Int) := ⟨Int.emod_nonneg _ (by omega), Int.emod_lt_of_pos _ (by omega)⟩

set_option maxHeartbeats 1000000 in
theorem take_in (n : Nat) (hn : n ≤ 1048576) (ao : Option Addr) (cap : Nat) (w : World) (hc : Code w ao n) (p k : Nat) (hk : 1 ≤ k) (hk2 : k ≤ 64) (hp : p < n) :
    Calls Tryz.prog 13 #[.slice ao n cap, .int .i64 (p : Int), .int .i64 (k : Int)] w fun e w' => Took k p e ∧ Below w.heap.size w w' := by
  obtain ⟨b, o, v, rfl, hv, hv2⟩ := hc p hp
  clear hc
  go_enter Tryz.func13, Tryz.ntmps13
  go_wp2
  all_goals
    go_ret2
    refine ⟨took_of ?_ ?_, Below.refl _ _⟩
    · first | omega | exact (rem_in (by omega) hk).1
    · first | omega | exact (rem_in (by omega) hk).2

set_option maxHeartbeats 1000000 in
theorem take_none (ao : Option Addr) (cap : Nat) (w : World) (p k : Nat) (hk : 1 ≤ k) (hk2 : k ≤ 64) (hp : p ≤ 1000) :
    Calls Tryz.prog 13 #[.slice ao 0 cap, .int .i64 (p : Int), .int .i64 (k : Int)] w fun e w' => Took k p e ∧ Below w.heap.size w w' := by
  go_enter Tryz.func13, Tryz.ntmps13
  go_wp2
  all_goals (go_ret2; exact ⟨took_of (by omega) (by omega), Below.refl _ _⟩)

set_option maxHeartbeats 2000000 in
theorem take_past (n : Nat) (hn : n ≤ 1048576) (h0 : 0 < n) (ao : Option Addr) (cap : Nat) (w : World) (hc : Code w ao n) (p k : Nat) (hk : 1 ≤ k) (hk2 : k ≤ 64) (hp : p ≤ 1000) (hpn : n ≤ p) :
    Calls Tryz.prog 13 #[.slice ao n cap, .int .i64 (p : Int), .int .i64 (k : Int)] w fun e w' => Took k p e ∧ Below w.heap.size w w' := by
  have e0 : (0 : Int) < (n : Int) := by omega
  have e1 := rem_in (x := (p : Int)) (k := n) (by omega) h0
  have e2 := rem_in (x := (p : Int) * 7 + 3) (k := n) (by omega) h0
  obtain ⟨e1a, e1b⟩ := e1
  obtain ⟨e2a, e2b⟩ := e2
  have e3a : (0 : Int) ≤ (p : Int) / (n : Int) := Int.ediv_nonneg (by omega) (by omega)
  have e3b : (p : Int) / (n : Int) ≤ (p : Int) := Int.ediv_le_self _ (by omega)
  obtain ⟨b, o, v, rfl, hv, hv2⟩ := hc (p % n) (Nat.mod_lt _ h0)
  obtain ⟨b', o', u, he, hu, hu2⟩ := hc ((p * 7 + 3) % n) (Nat.mod_lt _ h0)
  cases he
  clear hc
  go_enter Tryz.func13, Tryz.ntmps13
  go_wp2
  all_goals
    go_ret2
    refine ⟨took_of ?_ ?_, Below.refl _ _⟩
    · first | omega | exact (xor_rem (by omega) (by omega) (by omega) (by omega) hk).1
    · first | omega | exact (xor_rem (by omega) (by omega) (by omega) (by omega) hk).2

theorem takeB_any (n : Nat) (hn : n ≤ 1048576) (ao : Option Addr) (cap : Nat) (w : World) (hc : Code w ao n) (p k : Nat) (hk : 1 ≤ k) (hk2 : k ≤ 64) (hp : p ≤ 1000) :
    Calls Tryz.prog 13 #[.slice ao n cap, .int .i64 (p : Int), .int .i64 (k : Int)] w fun e w' => Took k p e ∧ Below w.heap.size w w' := by
  by_cases h0 : n = 0
  · subst h0
    exact take_none ao cap w p k hk hk2 hp
  · by_cases h : p < n
    · exact take_in n hn ao cap w hc p k hk hk2 h
    · exact take_past n hn (by omega) ao cap w hc p k hk hk2 hp (by omega)

end Go.Proofs.YthioecjcnajmgaaGreatDoor

namespace Go.Proofs.YthioecjcnajmgaaGreatDoor





end Go.Proofs.YthioecjcnajmgaaGreatDoor

namespace Go.Proofs.YthioecjcnajmgaaGreatDoor

open Go.RowKit

/-! Pairs that a law copies and marks. -/

/-- The Pairs that lead to the rows gs, two each. -/
def leadQ (gs : List (Nat × Nat)) (ps : List (List Nd × List Nd)) : List (Value × Value) := List.zipWith (fun h p => (.slice (some ⟨h.1, 0, none⟩) p.1.length p.1.length, .slice (some ⟨h.2, 0, none⟩) p.2.length p.2.length)) gs ps

/-- Block g is a row of Pairs of the call's own. -/
def OwnQ (w : World) (g : Nat) (qs : List (Value × Value)) : Prop := OwnT 30 w g (cells2 qs)

theorem OwnQ.ne {w : World} {g h : Nat} {qs : List (Value × Value)} {ds : List Value} (a : OwnQ w g qs) (b : Own w h ds) : h ≠ g := by
  rintro rfl
  obtain ⟨cur, _, hg, _⟩ := a
  obtain ⟨cur', _, hg', _⟩ := b
  rw [hg] at hg'
  simp at hg'

theorem OwnQ.at {w : World} {g : Nat} {qs : List (Value × Value)} (h : OwnQ w g qs) (i : Nat) (hi : i < qs.length) : w.cell? ⟨g, i * 2, none⟩ = some qs[i].1 ∧ w.cell? ⟨g, i * 2 + 1, none⟩ = some qs[i].2 := by
  have hl := cells2_length qs
  obtain ⟨h1, h2⟩ := cells2_get qs i hi
  exact ⟨(OwnT.at h _ (by omega)).trans h1, (OwnT.at h _ (by omega)).trans h2⟩

theorem OwnQ.put {w : World} {g : Nat} {qs : List (Value × Value)} (h : OwnQ w g qs) (j : Nat) (hj : j < qs.length) (a b : Value) : OwnQ ((w.setCell ⟨g, j * 2, none⟩ a).setCell ⟨g, j * 2 + 1, none⟩ b) g (qs.set j (a, b)) := by
  have hl := cells2_length qs
  have h9 := OwnT.set (OwnT.set h (j * 2) a (by omega)) (j * 2 + 1) b (by simp; omega)
  rw [cells2_set qs j (a, b)] at h9
  exact h9

/-- The rows of k Pairs, no two of them one. -/
structure RowsQ (w : World) (gs : List (Nat × Nat)) (ps : List (List Nd × List Nd)) (lo hi : Nat) : Prop where
  len : gs.length = ps.length
  rows : ∀ i (h : i < gs.length) (h' : i < ps.length), Row w gs[i].1 ps[i].1 ∧ Row w gs[i].2 ps[i].2
  inn : ∀ i (h : i < gs.length), (lo ≤ gs[i].1 ∧ gs[i].1 < hi) ∧ lo ≤ gs[i].2 ∧ gs[i].2 < hi
  two : ∀ i (h : i < gs.length), gs[i].1 ≠ gs[i].2
  apart : ∀ i j (h : i < gs.length) (h' : j < gs.length), i < j → gs[i].1 ≠ gs[j].1 ∧ gs[i].1 ≠ gs[j].2 ∧ gs[i].2 ≠ gs[j].1 ∧ gs[i].2 ≠ gs[j].2

theorem RowsQ.below {w w' : World} {gs : List (Nat × Nat)} {ps : List (List Nd × List Nd)} {lo hi : Nat} (h : RowsQ w gs ps lo hi) (hb : Below w.heap.size w w') : RowsQ w' gs ps lo hi :=
  ⟨h.len, fun i a b => ⟨(h.rows i a b).1.below hb, (h.rows i a b).2.below hb⟩, h.inn, h.two, h.apart⟩

theorem RowsQ.snoc {w : World} {gs : List (Nat × Nat)} {ps : List (List Nd × List Nd)} {lo hi hi' : Nat} {p : List Nd × List Nd} {g : Nat × Nat} (h : RowsQ w gs ps lo hi) (hlo : lo ≤ hi) (r1 : Row w g.1 p.1) (r2 : Row w g.2 p.2) (h1 : hi ≤ g.1 ∧ g.1 < hi') (h2 : hi ≤ g.2 ∧ g.2 < hi') (hne : g.1 ≠ g.2) : RowsQ w (gs ++ [g]) (ps ++ [p]) lo hi' := by
  have key : ∀ i (hi1 : i < (gs ++ [g]).length), (∃ h0 : i < gs.length, (gs ++ [g])[i] = gs[i]) ∨ (i = gs.length ∧ (gs ++ [g])[i] = g) := by
    intro i hi1
    by_cases h0 : i < gs.length
    · exact .inl ⟨h0, List.getElem_append_left h0⟩
    · have e : i = gs.length := by simp at hi1; omega
      subst e
      exact .inr ⟨rfl, by simp⟩
  refine ⟨by simp [h.len], fun i a b => ?_, fun i a => ?_, fun i a => ?_, fun i j a b hij => ?_⟩
  · rcases key i a with ⟨h0, e⟩ | ⟨h0, e⟩
    · have h0' : i < ps.length := by have := h.len; omega
      have e2 : (ps ++ [p])[i] = ps[i] := List.getElem_append_left h0'
      rw [e, e2]
      exact h.rows i h0 h0'
    · have e2 : (ps ++ [p])[i] = p := by
        have e3 : i = ps.length := by have := h.len; omega
        subst e3
        simp
      rw [e, e2]
      exact ⟨r1, r2⟩
  · rcases key i a with ⟨h0, e⟩ | ⟨h0, e⟩
    · rw [e]
      have := h.inn i h0
      omega
    · rw [e]
      omega
  · rcases key i a with ⟨h0, e⟩ | ⟨h0, e⟩
    · rw [e]
      exact h.two i h0
    · rw [e]
      exact hne
  · rcases key i a with ⟨h0, e⟩ | ⟨h0, e⟩
    · rcases key j b with ⟨h3, e3⟩ | ⟨h3, e3⟩
      · rw [e, e3]
        exact h.apart i j h0 h3 hij
      · rw [e, e3]
        have := h.inn i h0
        omega
    · rcases key j b with ⟨h3, e3⟩ | ⟨h3, e3⟩ <;> omega

/-- All of it. -/
structure TwoQ (w : World) (g : Nat) (gs : List (Nat × Nat)) (ps : List (List Nd × List Nd)) (lo hi : Nat) : Prop where
  lead : OwnQ w g (leadQ gs ps)
  rows : RowsQ w gs ps lo hi
  gin : lo ≤ g ∧ g < hi

theorem TwoQ.below {w w' : World} {g : Nat} {gs : List (Nat × Nat)} {ps : List (List Nd × List Nd)} {lo hi : Nat} (h : TwoQ w g gs ps lo hi) (hb : Below w.heap.size w w') : TwoQ w' g gs ps lo hi :=
  ⟨OwnT.below h.lead hb, h.rows.below hb, h.gin⟩

theorem TwoQ.get {w : World} {g : Nat} {gs : List (Nat × Nat)} {ps : List (List Nd × List Nd)} {lo hi : Nat} (h : TwoQ w g gs ps lo hi) (i : Nat) (hi' : i < ps.length) (hg : i < gs.length) :
    w.cell? ⟨g, i * 2, none⟩ = some (.slice (some ⟨gs[i].1, 0, none⟩) ps[i].1.length ps[i].1.length) ∧ w.cell? ⟨g, i * 2 + 1, none⟩ = some (.slice (some ⟨gs[i].2, 0, none⟩) ps[i].2.length ps[i].2.length) := by
  obtain ⟨h1, h2⟩ := h.lead.at i (by simp [leadQ]; omega)
  refine ⟨?_, ?_⟩
  · rw [h1]; simp [leadQ]
  · rw [h2]; simp [leadQ]

theorem TwoQ.pairs {w : World} {g : Nat} {gs : List (Nat × Nat)} {ps : List (List Nd × List Nd)} {lo hi : Nat} (h : TwoQ w g gs ps lo hi) : Pairs w (some ⟨g, 0, none⟩) ps := by
  intro i hi'
  have hg : i < gs.length := by have := h.rows.len; omega
  obtain ⟨h1, h2⟩ := h.get i hi' hg
  obtain ⟨r1, r2⟩ := h.rows.rows i hg hi'
  exact ⟨g, 0, _, _, _, _, rfl, by rw [Nat.zero_add]; exact h1, by rw [Nat.zero_add]; exact h2, r1.nodes, r2.nodes⟩



theorem solve_len {ps : List (List Nd × List Nd)} {ok : Bool} {at' : Int} {bs : List (Int × List Nd)} (h : SolveRes ps ok at' bs) : bs.length ≤ 20000 ∧ ∀ b ∈ bs, b.2.length ≤ 300 := by
  cases h using SolveRes.inv with
  | bad _ => exact ⟨by simp, by simp⟩
  | no _ _ _ _ _ => exact ⟨by simp, by simp⟩
  | large _ _ _ _ _ _ => exact ⟨by simp, by simp⟩
  | ok σ _ hv _ hup hocc hlen =>
    refine ⟨?_, fun b hb => (hlen b hb).2⟩
    have h1 : (nums bs).length ≤ (ps.flatMap fun p => metas p.1 ++ metas p.2).length := by
      refine nodup_len (hup.imp (fun {a b} hab e => by omega)) (fun x hx => ?_)
      obtain ⟨p, hp, h⟩ := (hocc x).1 hx
      refine List.mem_flatMap.2 ⟨p, hp, ?_⟩
      exact List.mem_append.2 h
    have h2 : ∀ qs : List (List Nd × List Nd), (qs.flatMap fun p => metas p.1 ++ metas p.2).length ≤ (qs.map fun p => p.1.length + p.2.length).sum := by
      intro qs
      induction qs with
      | nil => simp
      | cons q qs ih =>
        have h3 := metas_len q.1
        have h4 := metas_len q.2
        simp only [List.flatMap_cons, List.length_append, List.map_cons, List.sum_cons]
        omega
    have h3 := h2 ps
    have h4 := hv.1
    have h5 : (nums bs).length = bs.length := by simp [nums]
    omega

end Go.Proofs.YthioecjcnajmgaaGreatDoor
