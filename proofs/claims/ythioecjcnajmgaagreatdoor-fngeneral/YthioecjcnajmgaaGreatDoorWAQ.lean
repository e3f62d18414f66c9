import Derived.Test.YthioecjcnajmgaaGreatDoorWAP
import Derived.Test.YthioecjcnajmgaaGreatDoorWAE
import Derived.Test.YthioecjcnajmgaaGreatDoorWAK
import Derived.Test.YthioecjcnajmgaaGreatDoorWAO
import Derived.Test.YthioecjcnajmgaaGreatDoorProg
import Derived.Test.YthioecjcnajmgaaGreatDoorWAA
import Derived.Laws.BitsAllLaws
import Derived.Test.YthioecjcnajmgaaGreatDoorWAB
namespace Go.Proofs.YthioecjcnajmgaaGreatDoor

open Go.RowKit

/-- An unknown as a node. -/
def metaC (x : Int) : Nd := ⟨61, x, ByteArray.empty, 0, 0⟩

theorem plain_metaC {n : Nd} (h : n.plainb = true) (hk : n.kind = 61) : n = metaC n.num := by
  obtain ⟨a, b, c, d, e⟩ := n
  simp only at hk
  subst hk
  unfold Nd.plainb at h
  simp at h
  obtain ⟨h1, h2⟩ := h
  obtain ⟨⟨h3, _⟩, h4⟩ := h2
  simp only [metaC]
  subst h4
  subst h1
  subst h3
  rfl

theorem metaC_one (x : Int) : One [metaC x] := One.join (A := []) (n := metaC x) (by simp) (by simp [metaC])

theorem plain_leafyC {t : List Nd} (h : t.all Nd.plainb = true) : Leafy t := by
  intro n hn h61
  have := List.all_eq_true.1 h n hn
  unfold Nd.plainb at this
  simp [h61] at this
  exact this.2.1.1

theorem flatMap_congrC {α β : Type} {l : List α} {f g : α → List β} (h : ∀ x ∈ l, f x = g x) : l.flatMap f = l.flatMap g := by
  induction l with
  | nil => rfl
  | cons a l ih => simp only [List.flatMap_cons]; rw [h a (by simp), ih (fun x hx => h x (by simp [hx]))]

theorem deep_one {a : List Nd} (h : One a) (hl : a.length ≤ 300) : 0 < deepOf a := by
  obtain ⟨s, ys, ha⟩ := h
  have hf := after_fine ha
  have hlen := hf.len
  have hmem := hf.mem 0 (by simp)
  simp only [List.getElem_cons_zero] at hmem
  obtain ⟨hrl, hrs⟩ := List.getElem?_eq_some_iff.1 hmem
  obtain ⟨h1, h2⟩ := hf.chain.2.2.1 (by simp)
  simp only [List.getElem_cons_zero, List.length_cons, List.length_nil, Nat.zero_add, Nat.sub_self] at h1 h2
  have hroot := hf.root s.rt hrl
  rw [hrs] at hroot
  have hlast : ys.getLast? = some s := by
    rw [List.getLast?_eq_getElem?]
    have e : ys.length - 1 = s.rt := by omega
    rw [e]
    exact hmem
  unfold deepOf
  rw [if_neg (by omega), ha]
  simp only
  rw [hlast]
  simp only
  rw [if_pos ⟨h1, by omega⟩]
  omega

theorem one_deep {t : List Nd} (h : 0 < deepOf t) : One t := by
  obtain ⟨h0, h6, S, ys, ha, hl⟩ := deep_after rfl h
  unfold deepOf at h
  rw [if_neg (by omega), ha] at h
  simp only at h
  cases hg : ys.getLast? with
  | none => rw [hg] at h; simp at h
  | some s =>
    rw [hg] at h
    simp only at h
    by_cases hc : s.fr = 0 ∧ s.dp ≤ 300
    · rw [List.getLast?_eq_getElem?] at hg
      have h9 := sub_one ha (i := ys.length - 1) (by omega) hg
      rw [hc.1, hl] at h9
      have e : span t 0 (t.length - 1) = t := by
        unfold span
        rw [List.take_of_length_le (by omega)]
        simp
      rw [e] at h9
      exact h9
    · rw [if_neg hc] at h
      omega

theorem type_one {t : List Nd} (h : typeb t = true) : One t := by
  simp only [typeb, Bool.and_eq_true, decide_eq_true_eq] at h
  exact one_deep h.1.2

theorem type_plain {t : List Nd} (h : typeb t = true) : t.all Nd.plainb = true := by
  simp only [typeb, Bool.and_eq_true, decide_eq_true_eq] at h
  exact h.2

theorem one_type {a : List Nd} (h : One a) (hl : a.length ≤ 300) (hp : a.all Nd.plainb = true) : typeb a = true := by
  simp only [typeb, Bool.and_eq_true, decide_eq_true_eq]
  exact ⟨⟨hl, deep_one h hl⟩, hp⟩

theorem putSub_fsAt (bs : List (Int × List Nd)) (n : Nd) : putSub bs n = if n.kind = 61 then (fsAt bs n.num).getD [n] else [n] := rfl

/-- Put is a filling. -/
theorem putAll_fill (ts : List (Int × List Nd)) {b : List Nd} (hp : b.all Nd.plainb = true) : putAll ts b = fill (fun x => (fsAt ts x).getD [metaC x]) b := by
  unfold putAll fill
  apply flatMap_congrC
  intro n hn
  rw [putSub_fsAt, fillN]
  have hpn : n.plainb = true := List.all_eq_true.1 hp n hn
  by_cases hk : n.kind = 61
  · rw [if_pos hk, if_pos hk, ← plain_metaC hpn hk]
  · rw [if_neg hk, if_neg hk]

theorem fsAt_type {ts : List (Int × List Nd)} (ht : typesb ts = true) {x : Int} {t : List Nd} (h : fsAt ts x = some t) : typeb t = true := by
  obtain ⟨b, hb, rfl⟩ := fsAt_mem h
  exact (typesb_iff ts).1 ht b hb

theorem putAll_type {ts : List (Int × List Nd)} {b : List Nd} (ht : typesb ts = true) (hb : typeb b = true) (hl : (putAll ts b).length ≤ 300) : typeb (putAll ts b) = true := by
  have hp := type_plain hb
  refine one_type ?_ hl ?_
  · rw [putAll_fill ts hp]
    refine fill_one (fun x => ?_) (plain_leafyC hp) (type_one hb)
    cases hx : fsAt ts x with
    | none => exact metaC_one x
    | some t => exact type_one (fsAt_type ht hx)
  · rw [List.all_eq_true]
    intro n hn
    obtain ⟨m, hm, hn⟩ := List.mem_flatMap.1 hn
    have hpm : m.plainb = true := List.all_eq_true.1 hp m hm
    rw [putSub_fsAt] at hn
    by_cases hk : m.kind = 61
    · rw [if_pos hk] at hn
      cases hx : fsAt ts m.num with
      | none =>
        rw [hx] at hn
        simp at hn
        rw [hn]
        exact hpm
      | some t =>
        rw [hx] at hn
        exact List.all_eq_true.1 (type_plain (fsAt_type ht hx)) n hn
    · rw [if_neg hk] at hn
      simp at hn
      rw [hn]
      exact hpm

theorem putOf_ne {bs : List (Int × List Nd)} {t : List Nd} (h : putOf bs t ≠ []) : typeb t = true ∧ typesb bs = true ∧ (putAll bs t).length ≤ 300 ∧ putOf bs t = putAll bs t := by
  unfold putOf at h ⊢
  by_cases hc : typeb t = true ∧ (∀ b ∈ bs, typeb b.2 = true) ∧ (putAll bs t).length ≤ 300
  · rw [if_pos hc] at h ⊢
    exact ⟨hc.1, (typesb_iff bs).2 hc.2.1, hc.2.2, rfl⟩
  · rw [if_neg hc] at h
    exact absurd rfl h

theorem putOf_eq {bs : List (Int × List Nd)} {t : List Nd} (h1 : typeb t = true) (h2 : typesb bs = true) (h3 : (putAll bs t).length ≤ 300) : putOf bs t = putAll bs t := by
  rw [putOf, if_pos ⟨h1, (typesb_iff bs).1 h2, h3⟩]

end Go.Proofs.YthioecjcnajmgaaGreatDoor

namespace Go.Proofs.YthioecjcnajmgaaGreatDoor

/-- The number that is renamed to this one. -/
def back (dec : ∀ p : Prop, Decidable p) (ep : (Int → Prop) → Int) (rh : Int → Int) (y : Int) : Option Int := @ite _ (∃ x, rh x = y) (dec _) (some (ep fun x => rh x = y)) none

end Go.Proofs.YthioecjcnajmgaaGreatDoor

namespace Go.Proofs.YthioecjcnajmgaaGreatDoor

open Go.RowKit

/-- A slice of n bytes. -/
def Code (w : World) (ao : Option Addr) (n : Nat) : Prop :=
  ∀ i, i < n → ∃ b o v, ao = some ⟨b, o, none⟩ ∧ w.cell? ⟨b, o + i, none⟩ = some (.int .u8 ((v : Nat) : Int)) ∧ v < 256

theorem Code.below {w w' : World} {ao : Option Addr} {n : Nat} (h : Code w ao n) (hb : Below w.heap.size w w') : Code w' ao n := by
  intro i hi
  obtain ⟨b, o, v, e, hc, hv⟩ := h i hi
  exact ⟨b, o, v, e, (hb.cell (p := ⟨b, o + i, none⟩) (lt_of_cell hc)).trans hc, hv⟩

theorem i64_xor (a b : Nat) (ha : a < 4611686018427387904) (hb : b < 4611686018427387904) : bits .xor .i64 (a : Int) (b : Int) = ((a ^^^ b : Nat) : Int) := by
  show IntKind.i64.wrap ((BitVec.ofInt 64 (a : Int) ^^^ BitVec.ofInt 64 (b : Int)).toNat : Int) = _
  have hx : a ^^^ b < 2 ^ 62 := Nat.xor_lt_two_pow (by omega) (by omega)
  rw [BitVec.toNat_xor, ofInt_u64 a (by omega), ofInt_u64 b (by omega)]
  simp [IntKind.wrap, IntKind.bits, IntKind.signed]
  omega

theorem xor_rem {x y : Int} {k : Nat} (hx : 0 ≤ x) (hx2 : x < 4611686018427387904) (hy : 0 ≤ y) (hy2 : y < 4611686018427387904) (hk : 1 ≤ k) :
    0 ≤ (bits .xor .i64 x y).tmod (k : Int) ∧ (bits .xor .i64 x y).tmod (k : Int) < (k : Int) := by
  obtain ⟨a, rfl⟩ := Int.eq_ofNat_of_zero_le hx
  obtain ⟨b, rfl⟩ := Int.eq_ofNat_of_zero_le hy
  rw [i64_xor a b (by omega) (by omega)]
  exact ⟨Int.tmod_nonneg _ (by omega), Int.tmod_lt_of_pos _ (by omega)⟩

/-- What l1Take answers. -/
def Took (k p : Nat) (e : Ending) : Prop := ∃ r : Nat, r < k ∧ e = .returned (.tuple #[.int .i64 (r : Int), .int .i64 ((p + 1 : Nat) : Int)])

theorem took_of {k p : Nat} {x : Int} (h0 : 0 ≤ x) (h1 : x < (k : Int)) : Took k p (.returned (.tuple #[.int .i64 x, .int .i64 ((p : Int) + 1)])) :=
  ⟨x.toNat, by omega, by have : ((x.toNat : Nat) : Int) = x := by omega
                         rw [this]; simp⟩

theorem rem_in {x : Int} {k : Nat} (_ : 0 ≤ x) (hk : 1 ≤ k) : 0 ≤ x % (k : Int) ∧ x % (k : Int) < (k : Int) := ⟨Int.emod_nonneg _ (by omega), Int.emod_lt_of_pos _ (by omega)⟩

set_option maxHeartbeats 1000000 in
theorem take_in (n : Nat) (hn : n ≤ 1048576) (ao : Option Addr) (cap : Nat) (w : World) (hc : Code w ao n) (p k : Nat) (hk : 1 ≤ k) (hk2 : k ≤ 64) (hp : p < n) :
    Calls Tryz.prog 13 #[.slice ao n cap, .int .i64 (p : Int), .int .i64 (k : Int)] w fun e w' => Took k p e ∧ Below w.heap.size w w' := by
  obtain ⟨b, o, v, rfl, hv, hv2⟩ := hc p hp
  clear hc
  go_enter Tryz.func13, Tryz.ntmps13
  go_wp2
  all_goals
    go_ret2
    refine ⟨took_of ?_ ?_, Below.refl _ _⟩
    · first | omega | exact (rem_in (by omega) hk).1
    · first | omega | exact (rem_in (by omega) hk).2

set_option maxHeartbeats 1000000 in
theorem take_none (ao : Option Addr) (cap : Nat) (w : World) (p k : Nat) (hk : 1 ≤ k) (hk2 : k ≤ 64) (hp : p ≤ 1000) :
    Calls Tryz.prog 13 #[.slice ao 0 cap, .int .i64 (p : Int), .int .i64 (k : Int)] w fun e w' => Took k p e ∧ Below w.heap.size w w' := by
  go_enter Tryz.func13, Tryz.ntmps13
  go_wp2
  all_goals (go_ret2; exact ⟨took_of (by omega) (by omega), Below.refl _ _⟩)

set_option maxHeartbeats 2000000 in
theorem take_past (n : Nat) (hn : n ≤ 1048576) (h0 : 0 < n) (ao : Option Addr) (cap : Nat) (w : World) (hc : Code w ao n) (p k : Nat) (hk : 1 ≤ k) (hk2 : k ≤ 64) (hp : p ≤ 1000) (hpn : n ≤ p) :
    Calls Tryz.prog 13 #[.slice ao n cap, .int .i64 (p : Int), .int .i64 (k : Int)] w fun e w' => Took k p e ∧ Below w.heap.size w w' := by
  have e0 : (0 : Int) < (n : Int) := by omega
  have e1 := rem_in (x := (p : Int)) (k := n) (by omega) h0
  have e2 := rem_in (x := (p : Int) * 7 + 3) (k := n) (by omega) h0
  obtain ⟨e1a, e1b⟩ := e1
  obtain ⟨e2a, e2b⟩ := e2
  have e3a : (0 : Int) ≤ (p : Int) / (n : Int) := Int.ediv_nonneg (by omega) (by omega)
  have e3b : (p : Int) / (n : Int) ≤ (p : Int) := Int.ediv_le_self _ (by omega)
  obtain ⟨b, o, v, rfl, hv, hv2⟩ := hc (p % n) (Nat.mod_lt _ h0)
  obtain ⟨b', o', u, he, hu, hu2⟩ := hc ((p * 7 + 3) % n) (Nat.mod_lt _ h0)
  cases he
  clear hc
  go_enter Tryz.func13, Tryz.ntmps13
  go_wp2
  all_goals
    go_ret2
    refine ⟨took_of ?_ ?_, Below.refl _ _⟩
    · first | omega | exact (xor_rem (by omega) (by omega) (by omega) (by omega) hk).1
    · first | omega | exact (xor_rem (by omega) (by omega) (by omega) (by omega) hk).2

theorem takeB_any (n : Nat) (hn : n ≤ 1048576) (ao : Option Addr) (cap : Nat) (w : World) (hc : Code w ao n) (p k : Nat) (hk : 1 ≤ k) (hk2 : k ≤ 64) (hp : p ≤ 1000) :
    Calls Tryz.prog 13 #[.slice ao n cap, .int .i64 (p : Int), .int .i64 (k : Int)] w fun e w' => Took k p e ∧ Below w.heap.size w w' := by
  by_cases h0 : n = 0
  · subst h0
    exact take_none ao cap w p k hk hk2 hp
  · by_cases h : p < n
    · exact take_in n hn ao cap w hc p k hk hk2 h
    · exact take_past n hn (by omega) ao cap w hc p k hk hk2 hp (by omega)

theorem new_cells (w : World) (n : Nd) : ∀ j u, n.row[j]? = some u →
    (w.alloc (.cells #[.int .i64 n.kind, .int .i64 n.num, .string n.text, .int .i64 n.kids, .int .i64 n.place] 40)).cell? (Addr.add ⟨w.heap.size, 0, none⟩ j) = some u := by
  intro j u hj
  have hl : j < n.row.length := (List.getElem?_eq_some_iff.1 hj).1
  have ad : Addr.add ⟨w.heap.size, 0, none⟩ j = ⟨w.heap.size, j, none⟩ := by
    unfold Addr.add
    split
    · simp_all
    · simp
  rw [ad, cell_of_row _ w.heap.size j _ 40 (0, 0) (heap_alloc_new _ _), ← hj]
  simp [Nd.row]

theorem row_one (n : Nd) : ∀ u ∈ n.row, u.oneCell' = true := by
  intro u hu
  simp [Nd.row] at hu
  rcases hu with rfl | rfl | rfl | rfl | rfl <;> rfl

/-- A slice that owns the nodes zs. -/
def HoldsJ (w : World) (B : Nat) (v : Value) (zs : List Nd) : Prop := w.ownsRow B 40 5 v zs.length (flat zs)

theorem HoldsJ.length {w : World} {B : Nat} {v : Value} {zs : List Nd} (_ : HoldsJ w B v zs) : (flat zs).length = zs.length * 5 := flat_length zs

theorem HoldsJ.push {w : World} {B : Nat} {v : Value} {zs : List Nd} {x : Nd} {m : Nat} (h : w.ownsRow B 40 5 v m (flat zs ++ x.row)) (hm : m = zs.length + 1) : HoldsJ w B v (zs ++ [x]) := by
  subst hm
  unfold HoldsJ
  rw [flat_append, List.length_append]
  exact h

theorem HoldsJ.block {w : World} {B : Nat} {v : Value} {zs : List Nd} (h : HoldsJ w B v zs) : ∀ k, v.ownBlock = some k → B ≤ k := by
  intro k hk
  rcases h.2 with ⟨rfl, _⟩ | ⟨g, cap, cur, rfl, hg, _⟩
  · simp [Value.ownBlock] at hk
  · simp [Value.ownBlock] at hk
    omega

theorem HoldsJ.mono {w : World} {B B' : Nat} {v : Value} {zs : List Nd} (h : HoldsJ w B v zs) (hb : B' ≤ B) : HoldsJ w B' v zs := by
  refine ⟨h.1, ?_⟩
  rcases h.2 with h2 | ⟨g, cap, cur, e, hg, r⟩
  · exact Or.inl h2
  · exact Or.inr ⟨g, cap, cur, e, Nat.le_trans hb hg, r⟩

/-- What a slice that owns nodes is: a row of nodes. -/
theorem HoldsJ.row {w : World} {B : Nat} {v : Value} {zs : List Nd} (h : HoldsJ w B v zs) (hne : zs ≠ []) : ∃ g cap, v = .slice (some ⟨g, 0, none⟩) zs.length cap ∧ B ≤ g ∧ Row w g zs := by
  rcases h.2 with ⟨_, h0⟩ | ⟨g, cap, cur, e, hg, hh, _, _, _, ht⟩
  · exact absurd (List.length_eq_zero_iff.1 h0) hne
  · refine ⟨g, cap, e, hg, cur, cur.toList.drop (zs.length * 5), hh, ?_⟩
    rw [← ht, List.take_append_drop]

theorem flatten_take_succ (kss : List (List Nd)) (k : Nat) (h : k < kss.length) : (kss.take (k + 1)).flatten = (kss.take k).flatten ++ kss[k] := by
  rw [List.take_succ_eq_append_getElem h, List.flatten_append]
  simp only [List.flatten_cons, List.flatten_nil, List.append_nil]

theorem length_flatten_take (kss : List (List Nd)) (k : Nat) : (kss.take k).flatten.length ≤ total kss := by
  have := total_take_le kss k
  rw [List.length_flatten]
  exact this

set_option maxHeartbeats 1000000 in
theorem specJoin_any (x : Nd) (kss : List (List Nd)) (n : Nat) (HN : Hid (kss.length = n)) (ao : Option Addr) (cap : Nat) (w : World) (hx : Lists w ao kss) (ht : total kss ≤ 1048576) (hlen : n ≤ 1048576) :
    Calls Tryz.prog 15 #[.agg #[.int .i64 x.kind, .int .i64 x.num, .string x.text, .int .i64 x.kids, .int .i64 x.place], .slice ao n cap] w fun e w' =>
      ∃ v, e = .returned v ∧ HoldsJ w' w.heap.size v (kss.flatten ++ [{ x with kids := (n : Int) }]) ∧ Below w.heap.size w w' := by
  obtain ⟨i0, hi, hz0, hz1, hz2⟩ := info_parts Tryz.infoN
  go_enter Tryz.func15, Tryz.ntmps15
  go_wp2
  obtain ⟨W1, hW1⟩ : ∃ W1, W1 = w.alloc (.cells #[.int .i64 x.kind, .int .i64 x.num, .string x.text, .int .i64 x.kids, .int .i64 x.place] 40) := ⟨_, rfl⟩
  have HW1 : Hid (W1 = w.alloc (.cells #[.int .i64 x.kind, .int .i64 x.num, .string x.text, .int .i64 x.kids, .int .i64 x.place] 40)) := hW1
  have HB1 : Below w.heap.size w W1 := by rw [hW1]; exact (Below.refl _ _).alloc (Nat.le_refl _) _
  have HS1 : Hid (W1.heap.size = w.heap.size + 1) := by show W1.heap.size = w.heap.size + 1; rw [hW1]; simp
  have hx1 := hx.below HB1
  clear hx hW1
  go_loopw [5, 6] (fun v i wr => ∃ (k : Nat), k ≤ n ∧ i = .int .i64 k ∧ HoldsJ wr (w.heap.size + 1) v (kss.take k).flatten ∧ Below W1.heap.size W1 wr) (fun _ i _ => n - (intOf i).toNat)
  case atStart =>
    refine ⟨0, Nat.zero_le _, rfl, ⟨by simp [flat], Or.inr ⟨w.heap.size + 1, 0, #[], rfl, Nat.le_refl _, ?_, Nat.le_refl _, by simp [maxLen], rfl, by simp [flat]⟩⟩, ?_⟩
    · rw [← HW1.out, ← HS1.out]; exact heap_alloc_new _ _
    · rw [← HW1.out]; exact (Below.refl _ _).alloc (Nat.le_refl _) _
  case round =>
    obtain ⟨k, hk, rfl, hown, hb⟩ := hrel
    by_cases hlt : k < n
    · have hltk : k < kss.length := by have := HN.out; omega
      obtain ⟨b, o, ai, ci, rfl, hc, hn⟩ := hx1 k hltk
      obtain ⟨ks, hks⟩ : ∃ ks, kss[k] = ks := ⟨_, rfl⟩
      have HKS : Hid (kss[k] = ks) := hks
      have hml : ks.length ≤ 1048576 := by have := length_le_total kss k hltk; rw [hks] at this; omega
      have hdl := length_flatten_take kss k
      have HFT : Hid ((kss.take (k + 1)).flatten = (kss.take k).flatten ++ ks) := by have := flatten_take_succ kss k hltk; rw [hks] at this; exact this
      have htl : (kss.take k).flatten.length + ks.length ≤ total kss := by
        have := length_flatten_take kss (k + 1)
        rw [HFT.out, List.length_append] at this
        exact this
      obtain ⟨dn, hdn⟩ : ∃ dn, (kss.take k).flatten = dn := ⟨_, rfl⟩
      have HDN : Hid ((kss.take k).flatten = dn) := hdn
      rw [hdn] at hown hdl htl
      rw [hks] at hc hn
      clear hks hx1 hdn
      go_wp2
      go_loopw [5, 7] (fun v i wr => ∃ (j : Nat), j ≤ ks.length ∧ i = .int .i64 j ∧ HoldsJ wr (w.heap.size + 1) v (dn ++ ks.take j) ∧ Below W1.heap.size W1 wr) (fun _ i _ => ks.length - (intOf i).toNat)
      case atStart => exact ⟨0, Nat.zero_le _, rfl, by simpa using hown, hb⟩
      case round =>
        clear hown hb
        obtain ⟨j, hj, rfl, hown, hb⟩ := hrel
        have hcc := (hb.cell (p := ⟨b, o + k, none⟩) (lt_of_cell hc)).trans hc
        by_cases hjl : j < ks.length
        · obtain ⟨b', o', rfl, hnj⟩ := hn.below hb j hjl
          obtain ⟨y, hy⟩ : ∃ y, ks[j] = y := ⟨_, rfl⟩
          have HY : Hid (ks[j] = y) := hy
          rw [hy] at hnj
          obtain ⟨e0, e1, e2, e3, e4⟩ := hnj
          clear hy hn hc
          have hlen2 : (dn ++ ks.take j).length = dn.length + j := by simp; omega
          have HL2 : Hid ((dn ++ ks.take j).length = dn.length + j) := hlen2
          clear hlen2
          go_wp2_with (at_builtin; refine wpList_append_own _ rfl _ _ 27 rfl (w.heap.size + 1) 40 i0 _ 5 48 Tryz.underlying27 hi hz0 hz1 hz2 rfl (by decide) _ _ _ rfl (hown.alloc _) ⟨_, 0, none⟩ 1 1 y.row rfl rfl ?c1 ?c2 ?c3 ?c4 ?c5 ?_)
          case c1 => exact new_cells _ y
          case c2 => exact row_one y
          case c3 => rw [HL2.out]; unfold maxLen; omega
          case c4 => rw [HL2.out]; omega
          case c5 => have := hb.size; have := HS1.out; simp; omega
          intro v' w1 hown' hgrow _
          have H2 : HoldsJ w1 (w.heap.size + 1) v' (dn ++ ks.take (j + 1)) := by
            have := HoldsJ.push hown' (by rw [HL2.out])
            rw [List.take_succ_eq_append_getElem hjl, HY.out, ← List.append_assoc]
            exact this
          have hbb : Below W1.heap.size W1 w1 := (hb.alloc hb.size _).grown hgrow (by have := hb.size; simp; omega) (fun q hq => by have := HoldsJ.block hown q hq; have := HS1.out; omega)
          clear hown hown' hgrow hb hcc e0 e1 e2 e3 e4
          go_wp2
          go_roundw
          case rel => exact ⟨j + 1, by omega, by go_num, H2, hbb⟩
          case measure => simp [intOf]; omega
        · have hje : ks.take j = ks := List.take_of_length_le (by omega)
          have H2 : HoldsJ wr (w.heap.size + 1) u5 (kss.take (k + 1)).flatten := by
            rw [HFT.out, HDN.out]
            rw [hje] at hown
            exact hown
          clear hown hje hn hc
          go_wp2
          go_roundw
          case rel => exact ⟨k + 1, by omega, by go_num, H2, hb⟩
          case measure => simp [intOf]; omega
    · have hke : k = n := by omega
      subst hke
      have HE : Hid (kss.take k = kss) := List.take_of_length_le (by have := HN.out; omega)
      rw [HE.out] at hown
      have hfl : kss.flatten.length ≤ 1048576 := by have := length_flatten_take kss k; rw [HE.out] at this; omega
      have hz : ∀ j, wr.cell? ⟨w.heap.size, j, none⟩ = W1.cell? ⟨w.heap.size, j, none⟩ := fun j => hb.cell (p := ⟨w.heap.size, j, none⟩) (by have := HS1.out; show w.heap.size < _; omega)
      have hf3 : wr.frozen? ⟨w.heap.size, 3, none⟩ = false := by
        rw [hb.frozen (p := ⟨w.heap.size, 3, none⟩) (by have := HS1.out; show w.heap.size < _; omega), HW1.out]
        exact frozen_of_row _ w.heap.size 3 _ 40 (heap_alloc_new _ _)
      have g0 : wr.cell? ⟨w.heap.size, 0, none⟩ = some (.int .i64 x.kind) := by rw [hz, HW1.out, cell_of_row _ w.heap.size 0 _ 40 (0, 0) (heap_alloc_new _ _)]; rfl
      have g1 : wr.cell? ⟨w.heap.size, 1, none⟩ = some (.int .i64 x.num) := by rw [hz, HW1.out, cell_of_row _ w.heap.size 1 _ 40 (0, 0) (heap_alloc_new _ _)]; rfl
      have g2 : wr.cell? ⟨w.heap.size, 2, none⟩ = some (.string x.text) := by rw [hz, HW1.out, cell_of_row _ w.heap.size 2 _ 40 (0, 0) (heap_alloc_new _ _)]; rfl
      have g3 : wr.cell? ⟨w.heap.size, 3, none⟩ = some (.int .i64 x.kids) := by rw [hz, HW1.out, cell_of_row _ w.heap.size 3 _ 40 (0, 0) (heap_alloc_new _ _)]; rfl
      have g4 : wr.cell? ⟨w.heap.size, 4, none⟩ = some (.int .i64 x.place) := by rw [hz, HW1.out, cell_of_row _ w.heap.size 4 _ 40 (0, 0) (heap_alloc_new _ _)]; rfl
      have hown3 := ownsRow_setCell_below hown (a := ⟨w.heap.size, 3, none⟩) (Nat.lt_succ_self _) (.int .i64 (k : Int))
      clear hz hx1
      go_wp2_with (at_builtin; refine wpList_append_own _ rfl _ _ 27 rfl (w.heap.size + 1) 40 i0 _ 5 48 Tryz.underlying27 hi hz0 hz1 hz2 rfl (by decide) _ _ _ rfl (hown3.alloc _) ⟨_, 0, none⟩ 1 1 (Nd.row { x with kids := (k : Int) }) rfl rfl ?d1 ?d2 ?d3 ?d4 ?d5 ?_)
      case d1 =>
        have := new_cells (wr.setCell ⟨w.heap.size, 3, none⟩ (.int .i64 (k : Int))) { x with kids := (k : Int) }
        rw [size_setCell] at this
        exact this
      case d2 => exact row_one _
      case d3 => unfold maxLen; omega
      case d4 => omega
      case d5 => have := hb.size; have := HS1.out; simp; omega
      intro v' w1 hown' hgrow _
      have H2 := HoldsJ.push hown' (by rw [List.length_flatten])
      have hb2 : Below w.heap.size w wr := HB1.trans (hb.mono HB1.size)
      have hbb : Below w.heap.size w w1 := ((hb2.setCell (p := ⟨w.heap.size, 3, none⟩) (Nat.le_refl _) (.int .i64 (k : Int))).alloc (by rw [size_setCell]; exact hb2.size) _).grown hgrow (by have := hb2.size; simp; omega) (fun q hq => by have := HoldsJ.block hown q hq; omega)
      clear hown hown' hgrow hb hown3 g0 g1 g2 g3 g4
      go_wp2
      go_ret
      exact ⟨_, rfl, H2.mono (Nat.le_succ _), hbb⟩

end Go.Proofs.YthioecjcnajmgaaGreatDoor

namespace Go.Proofs.YthioecjcnajmgaaGreatDoor





end Go.Proofs.YthioecjcnajmgaaGreatDoor
