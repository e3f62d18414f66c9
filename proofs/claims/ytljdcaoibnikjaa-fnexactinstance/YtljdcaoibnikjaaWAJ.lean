import Derived.Test.YtljdcaoibnikjaaWAF
import Derived.Test.YtljdcaoibnikjaaRoots
import Derived.Test.YtljdcaoibnikjaaWAI
import Derived.Test.YtljdcaoibnikjaaRag
namespace Go.Proofs.Ytljdcaoibnikjaa

open Go.RowKit

theorem nd_new_cells (w : World) (n : Nd) : ∀ j u, n.row[j]? = some u →
    (w.alloc (.cells #[.int .i64 n.kind, .int .i64 n.num, .string n.text, .int .i64 n.kids, .int .i64 n.place] 53)).cell? (Addr.add ⟨w.heap.size, 0, none⟩ j) = some u := by
  intro j u hj
  have ad : Addr.add ⟨w.heap.size, 0, none⟩ j = ⟨w.heap.size, j, none⟩ := by
    unfold Addr.add
    split
    · simp_all
    · simp
  rw [ad, cell_of_row _ w.heap.size j _ 53 (0, 0) (heap_alloc_new _ _), ← hj]
  simp [Nd.row]

theorem nd_row_one (n : Nd) : ∀ u ∈ n.row, u.oneCell' = true := by
  intro u hu
  simp [Nd.row] at hu
  rcases hu with rfl | rfl | rfl | rfl | rfl <;> rfl

theorem nd_flat_one (ks : List Nd) : ∀ u ∈ flat ks, u.oneCell' = true := by
  intro u hu
  unfold flat at hu
  obtain ⟨n, _, hn⟩ := List.mem_flatMap.1 hu
  exact nd_row_one n u hn

/-- A slice of nodes of the call's own. -/
def OwnN (w : World) (B g c l : Nat) (zs : List Nd) : Prop := zs.length = l ∧ w.ownsRow B 53 5 (.slice (some ⟨g, 0, none⟩) l c) l (flat zs)

theorem OwnN.row {w : World} {B g c l : Nat} {zs : List Nd} (h : OwnN w B g c l zs) : B ≤ g ∧ Row w g zs := by
  obtain ⟨hl, ho⟩ := h
  rcases ho.2 with ⟨h', _⟩ | ⟨g2, cap2, cur, he, hb, hh, _, _, _, htake⟩
  · cases h'
  · simp only [Value.slice.injEq, Option.some.injEq, Addr.mk.injEq, and_true, true_and] at he
    obtain ⟨rfl, rfl⟩ := he
    exact ⟨hb, cur, cur.toList.drop (l * 5), hh, by rw [← htake, List.take_append_drop]⟩

theorem OwnN.empty {w : World} {B : Nat} (hB : B ≤ w.heap.size) : OwnN (w.alloc (.cells #[] 53)) B w.heap.size 0 0 [] :=
  ⟨rfl, rfl, Or.inr ⟨_, 0, #[], rfl, hB, heap_alloc_new _ _, Nat.le_refl _, by simp [maxLen], rfl, rfl⟩⟩

theorem OwnN.alloc {w : World} {B g c l : Nat} {zs : List Nd} (h : OwnN w B g c l zs) (o : Obj) : OwnN (w.alloc o) B g c l zs := ⟨h.1, h.2.alloc o⟩

theorem OwnN.below {w w' : World} {B g c l : Nat} {zs : List Nd} (h : OwnN w B g c l zs) (hb : Below w.heap.size w w') : OwnN w' B g c l zs :=
  ⟨h.1, owns_but (S := fun _ => False) h.2 (But.ofBelow hb) (fun h => h)⟩

theorem OwnN.push {w : World} {B g c l m : Nat} {zs : List Nd} {x : Nd} (h : w.ownsRow B 53 5 (.slice (some ⟨g, 0, none⟩) m c) m (flat zs ++ x.row)) (hl : zs.length = l) (hm : m = l + 1) : OwnN w B g c (l + 1) (zs ++ [x]) := by
  subst hm
  refine ⟨by simp [hl], ?_⟩
  rw [flat_append]
  have e : flat [x] = x.row := by simp [flat]
  rw [e]
  exact h

set_option maxHeartbeats 1000000 in
theorem copy_any (xs : List Nd) (m : Nat) (HM : Hid (xs.length = m)) (hm : m ≤ 1048576) (ao : Option Addr) (cap : Nat) (w : World) (hx : Nodes w ao xs) :
    Calls Try.prog 65 #[.slice ao m cap] w fun e w' => ∃ g c, e = .returned (.slice (some ⟨g, 0, none⟩) m c) ∧ w.heap.size ≤ g ∧ Row w' g xs ∧ Below w.heap.size w w' := by
  obtain ⟨i0, hi, hz0, hz1, hz2⟩ := info_parts Try.infoN
  go_enter Try.func65, Try.ntmps65
  go_wp2
  go_loopw [3, 4] (fun v p wr => ∃ (k g c : Nat), k ≤ m ∧ p = .int .i64 k ∧ v = .slice (some ⟨g, 0, none⟩) k c ∧ OwnN wr w.heap.size g c k (xs.take k) ∧ Below w.heap.size w wr) (fun _ p _ => m - (intOf p).toNat)
  case atStart => exact ⟨0, w.heap.size, 0, Nat.zero_le _, rfl, rfl, OwnN.empty (Nat.le_refl _), (Below.refl _ w).alloc (Nat.le_refl _) _⟩
  case round =>
    obtain ⟨k, g, c, hk, rfl, rfl, hown, hb⟩ := hrel
    by_cases hlt : k < m
    · have hltk : k < xs.length := by have := HM.out; omega
      obtain ⟨b, o, rfl, hn⟩ := hx.below hb k hltk
      obtain ⟨x, hxk⟩ : ∃ x, xs[k] = x := ⟨_, rfl⟩
      rw [hxk] at hn
      obtain ⟨c0, c1, c2, c3, c4⟩ := hn
      have HT : Hid (xs.take (k + 1) = xs.take k ++ [x]) := by show xs.take (k + 1) = _; rw [List.take_succ_eq_append_getElem hltk, hxk]
      have hob := owns_block hown.2
      clear hx hxk
      go_wp2_with (at_builtin; refine wpList_append2 _ rfl (.tmp 12) (.tmp 17) 27 rfl w.heap.size 53 i0 _ 5 48 Try.underlying27 hi hz0 hz1 hz2 rfl (by decide) g k c _ rfl (hown.alloc _).2 ⟨_, 0, none⟩ 1 1 x.row rfl rfl (nd_new_cells _ x) (nd_row_one x) ?a3 ?a4 ?a5 ?_)
      case a3 => unfold maxLen; omega
      case a4 => omega
      case a5 => have := hb.size; simp; omega
      intro g2 c2' w2 hown2 hgrow2 hwh
      have hO := OwnN.push hown2 hown.1 rfl
      rw [← HT.out] at hO
      have hbb : Below w.heap.size w w2 := (hb.alloc hb.size _).grown hgrow2 (by have := hb.size; simp; omega) (fun q hq => by cases hq; exact hob.1)
      clear hown2 hgrow2 hwh hown hb c0 c1 c2 c3 c4
      go_wp2
      go_roundw
      case rel => exact ⟨k + 1, g2, c2', by omega, by go_num, rfl, hO, hbb⟩
      case measure => simp [intOf]; omega
    · have hke : k = m := by omega
      subst hke
      rw [List.take_of_length_le (by have := HM.out; omega)] at hown
      obtain ⟨hg, hr⟩ := hown.row
      clear hx hown
      go_wp2
      go_ret
      exact ⟨_, _, rfl, hg, hr, hb⟩

/-- The nodes from f on up to i. -/
def span (t : List Nd) (f i : Nat) : List Nd := (t.take (i + 1)).drop f

theorem span_length (t : List Nd) (f i : Nat) (hi : i < t.length) : (span t f i).length = i + 1 - f := by simp [span]; omega

theorem span_nodes {w : World} {g : Nat} {t : List Nd} (h : Row w g t) (f i : Nat) (hi : i < t.length) : Nodes w (some ⟨g, f * 5, none⟩) (span t f i) := by
  intro j hj
  have hl := span_length t f i hi
  refine ⟨g, f * 5, rfl, ?_⟩
  have h1 := h.node (f + j) (by omega)
  have e : (f + j) * 5 = f * 5 + j * 5 := by omega
  rw [e] at h1
  have e2 : (span t f i)[j] = t[f + j]'(by omega) := by simp [span]
  rw [e2]
  exact h1

set_option maxHeartbeats 1000000 in
theorem sub_any (t : List Nd) (ys S : List Sp) (m i : Nat) (s : Sp) (HM : Hid (t.length = m)) (hm : m ≤ 6000) (HA : Hid (after t m = some (S, ys))) (HS : Hid (ys[i]? = some s)) (him : i < m) (g gz cz B : Nat) (w : World) (hx : Row w g t) (hz : Ints w B gz cz m (ys.map szOf)) :
    Calls Try.prog 43 #[.slice (some ⟨g, 0, none⟩) m m, .slice (some ⟨gz, 0, none⟩) m cz, .int .i64 (i : Int)] w fun e w' => ∃ g' c, e = .returned (.slice (some ⟨g', 0, none⟩) (i + 1 - s.fr) c) ∧ w.heap.size ≤ g' ∧ Row w' g' (span t s.fr i) ∧ Below w.heap.size w w' := by
  have hf := after_fine HA.out
  have hyl := hf.len
  obtain ⟨hlt, he⟩ := List.getElem?_eq_some_iff.1 HS.out
  have hr := hf.root i hlt
  rw [he] at hr
  obtain ⟨hrt, hfr, _, _⟩ := hr
  have cz1 : w.cell? ⟨gz, i, none⟩ = some (.int .i64 ((i : Int) - (s.fr : Int) + 1)) := by
    rw [hz.at i (by simp; omega)]
    simp [szOf, he, hrt]
  have hit : i < t.length := by have := HM.out; omega
  have hn := span_nodes hx s.fr i hit
  have HL : Hid ((span t s.fr i).length = i + 1 - s.fr) := span_length t s.fr i hit
  obtain ⟨f, hfe⟩ : ∃ f, s.fr = f := ⟨_, rfl⟩
  rw [hfe] at cz1 hn HL hfr ⊢
  clear hx hz hf he hyl hfe hrt
  go_enter Try.func43, Try.ntmps43
  go_wp2_with fail
  have e1 : ((i : Int) - ((i : Int) - (f : Int) + 1) + 1).toNat = f := by omega
  rw [e1]
  refine (copy_any (span t f i) (i + 1 - f) HL (by omega) _ _ w hn).mono ?_
  rintro e w1 ⟨g', c, rfl, hg', hr, hb⟩
  clear hn cz1
  go_wp2
  go_ret
  exact ⟨_, _, rfl, hg', hr, hb⟩

theorem deep_after {t : List Nd} {m : Nat} (hm : t.length = m) (hd : 0 < deepOf t) : 0 < m ∧ m ≤ 6000 ∧ ∃ S ys, after t m = some (S, ys) ∧ ys.length = m := by
  have h6 : m ≤ 6000 := by
    by_cases h : m ≤ 6000
    · exact h
    · have := deepOf_great (t := t) (by omega)
      omega
  have h0 : 0 < m := by
    by_cases h : m = 0
    · have := deepOf_nil (t := t) (by omega)
      omega
    · omega
  cases hA : after t m with
  | none =>
    have := deepOf_none (t := t) (by rw [hm]; exact hA)
    omega
  | some p =>
    obtain ⟨S, ys⟩ := p
    exact ⟨h0, h6, S, ys, rfl, (after_fine hA).len⟩

/-- The kids themselves. -/
def kidsIn (t : List Nd) (K : List Sp) : List (List Nd) := K.map fun s => span t s.fr s.rt

end Go.Proofs.Ytljdcaoibnikjaa
