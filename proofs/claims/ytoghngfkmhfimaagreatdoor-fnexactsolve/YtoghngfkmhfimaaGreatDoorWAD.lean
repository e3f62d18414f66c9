import Derived.Test.YtoghngfkmhfimaaGreatDoorWAC
import Derived.Test.YtoghngfkmhfimaaGreatDoorWAA
import Derived.WalkKit
namespace Go.Proofs.YtoghngfkmhfimaaGreatDoor

open Go.RowKit

set_option maxHeartbeats 1000000 in
theorem heldNodeS_any (n g cap k : Nat) (w : World) (hr : Row w g (marks k n)) (hn : n ≤ 1048577) (hk : k ≤ 100000000) (hk0 : 0 < k) :
    Calls Tryz.prog 60 #[.slice (some ⟨g, 0, none⟩) n cap, .int .i64 k] w fun e w' =>
      e = .returned (.int .i64 (k + 5 * n : Nat)) ∧ Below w.heap.size w w' := by
  go_enter Tryz.func60, Tryz.ntmps60
  go_wp2
  go_loopw [1, 5] (fun a i wr => ∃ (j : Nat), j ≤ n ∧ i = .int .i64 j ∧ a = .int .i64 (k + 5 * j : Nat) ∧ Below w.heap.size w wr) (fun _ i _ => n - (intOf i).toNat)
  case atStart => exact ⟨0, Nat.zero_le _, rfl, rfl, Below.refl _ _⟩
  case round =>
    obtain ⟨j, hj, rfl, rfl, hb⟩ := hrel
    by_cases hlt : j < n
    · have hrow := hr.below hb
      have hl : j < (marks k n).length := by rw [marks_length]; exact hlt
      obtain ⟨q, hq⟩ : ∃ q : Nat, k + 5 * j = q := ⟨_, rfl⟩
      have HQ : Hid (k + 5 * j = q) := hq
      have hq1 : q ≤ 200000000 := by omega
      obtain ⟨c0, c1, c2, c3, c4⟩ := hrow.node j hl
      rw [marks_get, hq] at c0 c1 c2 c3 c4
      simp only [mk] at c0 c1 c2 c3 c4
      have hlb : g < wr.heap.size := hrow.lt
      rw [hq]
      clear hl hq hr hrow
      go_wp2_with fail
      go_region_with (go_at_call 59; refine (markText_int ((q : Int) + 1 + 1) (q + 2) (by omega) (by omega) (by omega) _).mono ?_; rintro e w1 ⟨rfl, hb1⟩; have hc1 := bcell_drew hb1)
      all_goals
        have hbb := Below.step hb (undrew hb1)
        clear hb hb1
        go_wp2
        go_roundw
        case rel => exact ⟨j + 1, by omega, by go_num, by have := HQ.out; congr 1; omega, hbb⟩
        case measure => simp [intOf]; omega
    · have hje : j = n := by omega
      subst hje
      clear hr
      go_wp2
      go_ret
      exact ⟨rfl, hb⟩

set_option maxHeartbeats 1000000 in
theorem eqBindS_same (bs : List (Int × List Nd)) (n : Nat) (HN : Hid (bs.length = n)) (ao bo : Option Addr) (cap cbp : Nat) (w : World) (hx : Binds w ao bs) (hy : Binds w bo bs) (hm : ∀ b ∈ bs, b.2.length ≤ 1048576) (hlx : n ≤ 1048576) :
    Calls Tryz.prog 25 #[.slice ao n cap, .slice bo n cbp] w fun e w' => e = .returned (.bool true) ∧ Below w.heap.size w w' := by
  go_enter Tryz.func25, Tryz.ntmps25
  go_wp2
  go_loopw [5] (fun i wr => ∃ (k : Nat), k ≤ n ∧ i = .int .i64 k ∧ Below w.heap.size w wr) (fun i _ => n - (intOf i).toNat)
  case atStart => exact ⟨0, Nat.zero_le _, rfl, Below.refl _ _⟩
  case round =>
    obtain ⟨k, hk, rfl, hb⟩ := hrel
    by_cases hlt : k < n
    · have hltk : k < bs.length := by have := HN.out; omega
      obtain ⟨b, o, ai, ci, rfl, hc0, hc, hn⟩ := hx.below hb k hltk
      obtain ⟨b', o', ai', ci', rfl, hc0', hc', hn'⟩ := hy.below hb k hltk
      have hmk := hm bs[k] (List.getElem_mem hltk)
      obtain ⟨⟨bn, ks⟩, hks⟩ : ∃ p, bs[k] = p := ⟨_, rfl⟩
      rw [hks] at hc hc' hn hn' hmk hc0 hc0'
      simp only at hc hc' hn hn' hmk hc0 hc0'
      obtain ⟨l, hl⟩ : ∃ l, ks.length = l := ⟨_, rfl⟩
      have HL : Hid (ks.length = l) := hl
      rw [hl] at hc hc' hmk
      have hlb : b < wr.heap.size := lt_of_cell hc
      have hlb' : b' < wr.heap.size := lt_of_cell hc'
      have hB : Below wr.heap.size wr wr.drew := (Below.refl _ _).drew
      have hnd := hn.below hB
      have hnd' := hn'.below hB
      clear hx hy hm hks hl hn hn'
      go_wp2_with fail
      go_region_with (go_at_call 57; refine (eqBind_same bn ks l HL ai ai' ci ci' _ hnd hnd' (by omega)).mono ?_; rintro e w1 ⟨rfl, hb1⟩)
      all_goals
        have hbb := Below.step hb (undrew hb1)
        clear hb hb1 hc hc' hc0 hc0' hB hnd hnd'
        go_wp2
        go_roundw
        case rel => exact ⟨k + 1, by omega, by go_num, hbb⟩
        case measure => simp [intOf]; omega
    · clear hx hy hm
      go_wp2
      go_ret
      exact ⟨rfl, hb⟩

theorem set_same {α : Type} {xs : List α} {i : Nat} {v : α} (h : xs[i]? = some v) : xs.set i v = xs := by
  apply List.ext_getElem?
  intro j
  by_cases e : i = j
  · subst e
    have hl := (List.getElem?_eq_some_iff.1 h).1
    rw [List.getElem?_set_self hl, h]
  · rw [List.getElem?_set_ne e]

/-- Pairs in memory. -/
def Pairs (w : World) (ao : Option Addr) (ps : List (List Nd × List Nd)) : Prop := ∀ i (h : i < ps.length), ∃ b o a1 c1 a2 c2, ao = some ⟨b, o, none⟩ ∧ w.cell? ⟨b, o + i * 2, none⟩ = some (.slice a1 ps[i].1.length c1) ∧ w.cell? ⟨b, o + i * 2 + 1, none⟩ = some (.slice a2 ps[i].2.length c2) ∧ Nodes w a1 ps[i].1 ∧ Nodes w a2 ps[i].2

theorem Pairs.below {w w' : World} {ao : Option Addr} {ps : List (List Nd × List Nd)} (h : Pairs w ao ps) (hb : Below w.heap.size w w') : Pairs w' ao ps := by
  intro i hi
  obtain ⟨b, o, a1, c1, a2, c2, e, h1, h2, h3, h4⟩ := h i hi
  exact ⟨b, o, a1, c1, a2, c2, e, (hb.cell (lt_of_cell h1)).trans h1, (hb.cell (lt_of_cell h2)).trans h2, h3.below hb, h4.below hb⟩

def pairSum (ps : List (List Nd × List Nd)) (i : Nat) : Nat := ((ps.take i).map fun p => p.1.length + p.2.length).sum

theorem pairSum_succ {ps : List (List Nd × List Nd)} {i : Nat} (h : i < ps.length) : pairSum ps (i + 1) = pairSum ps i + ps[i].1.length + ps[i].2.length := by
  unfold pairSum
  rw [List.take_succ_eq_append_getElem h, List.map_append, List.sum_append]
  simp
  omega

theorem pairSum_le (ps : List (List Nd × List Nd)) (i : Nat) : pairSum ps i ≤ (ps.map fun p => p.1.length + p.2.length).sum := by
  unfold pairSum
  have h9 : ps.map (fun p => p.1.length + p.2.length) = (ps.take i).map (fun p => p.1.length + p.2.length) ++ (ps.drop i).map (fun p => p.1.length + p.2.length) := by rw [← List.map_append, List.take_append_drop]
  rw [h9, List.sum_append]
  omega

theorem rbox3 {w : World} {z : Nat} {a b c a' b' c' : Value} (h : w.heap[z]? = some (.cells #[a, b, c] 26 (0, 0))) : w.cell? ⟨z, 0, none⟩ = some a ∧ w.cell? ⟨z, 1, none⟩ = some b ∧ w.cell? ⟨z, 2, none⟩ = some c ∧ w.frozen? ⟨z, 0, none⟩ = false ∧ w.frozen? ⟨z, 1, none⟩ = false ∧ w.frozen? ⟨z, 2, none⟩ = false ∧ z < w.heap.size ∧ But (fun i => i = z) w (((w.setCell ⟨z, 0, none⟩ a').setCell ⟨z, 1, none⟩ b').setCell ⟨z, 2, none⟩ c') := by
  refine ⟨?_, ?_, ?_, frozen_of_row w z 0 _ 26 h, frozen_of_row w z 1 _ 26 h, frozen_of_row w z 2 _ 26 h, (Array.getElem?_eq_some_iff.1 h).1, (((But.refl (fun i => i = z) w).setCell (p := ⟨z, 0, none⟩) rfl _).setCell (p := ⟨z, 1, none⟩) rfl _).setCell (p := ⟨z, 2, none⟩) rfl _⟩ <;> (rw [cell_of_row _ _ _ _ _ _ h]; rfl)

/-! Pairs as the laws hold them: sizes, copies, equality. -/

set_option maxHeartbeats 400000 in
theorem szPair_any (ka kc : List Nd) (la lc : Nat) (HA : Hid (ka.length = la)) (HC : Hid (kc.length = lc)) (a1 a2 : Option Addr) (c1 c2 : Nat) (left : Int) (w : World) (hn1 : Nodes w a1 ka) (hn2 : Nodes w a2 kc) (hs1 : ∀ x ∈ ka, x.text.size ≤ maxLen) (hs2 : ∀ x ∈ kc, x.text.size ≤ maxLen) (hla : la ≤ 9223372036854775807) (hlc : lc ≤ 9223372036854775807) (h0 : 0 ≤ left) (h1 : left ≤ 1048576) :
    Calls Tryz.prog 13 #[.agg #[.slice a1 la c1, .slice a2 lc c2], .int .i64 left] w fun e w' =>
      (∃ r : Int, e = .returned (.int .i64 r) ∧ (r = -1 ∨ (0 ≤ r ∧ r ≤ left - la - lc))) ∧ Below w.heap.size w w' := by
  have HZ1 : Hid (∀ (w : World), Nodes w a1 ka → Calls Tryz.prog 30 #[.slice a1 la c1, .int .i64 left] w fun e w' => (∃ r : Int, e = .returned (.int .i64 r) ∧ (r = -1 ∨ (0 ≤ r ∧ r ≤ left - la))) ∧ Below w.heap.size w w') := by
    intro w hn
    have hz := szNodeS_any ka a1 c1 left
    rw [HA.out] at hz
    exact hz w hn hs1 hla h0 h1
  have HZ2 : Hid (∀ (r : Int) (w : World), Nodes w a2 kc → 0 ≤ r → r ≤ 1048576 → Calls Tryz.prog 30 #[.slice a2 lc c2, .int .i64 r] w fun e w' => (∃ r' : Int, e = .returned (.int .i64 r') ∧ (r' = -1 ∨ (0 ≤ r' ∧ r' ≤ r - lc))) ∧ Below w.heap.size w w') := by
    intro r w hn hr hr'
    have hz := szNodeS_any kc a2 c2 r
    rw [HC.out] at hz
    exact hz w hn hs2 hlc hr hr'
  have HN1 : Hid (Nodes w a1 ka) := hn1
  have HN2 : Hid (Nodes w a2 kc) := hn2
  clear hn1 hn2 hs1 hs2
  have hbA : Below w.heap.size w (w.alloc (.cells #[.slice a1 la c1, .slice a2 lc c2] 38)) := (Below.refl _ w).alloc (Nat.le_refl _) _
  have q1 : (w.alloc (.cells #[.slice a1 la c1, .slice a2 lc c2] 38)).cell? ⟨w.heap.size, 1, none⟩ = some (.slice a2 lc c2) := by
    rw [cell_of_row _ _ _ _ 38 (0, 0) (heap_alloc_new _ _)]; rfl
  have hq1 := lt_of_cell q1
  go_enter Tryz.func13, Tryz.ntmps13
  go_wp2_with fail
  refine (HZ1.out _ (HN1.out.below hbA)).mono ?_
  rintro e w1 ⟨⟨r, rfl, hr⟩, hb1⟩
  have hbb := Below.step hbA hb1
  have q1' := (hb1.cell (p := ⟨w.heap.size, 1, none⟩) hq1).trans q1
  have hq1' := lt_of_cell q1'
  clear hbA hb1 q1 hq1
  rcases hr with hr | ⟨hr2, hr3⟩
  · subst hr
    go_wp2
    go_ret
    exact ⟨⟨-1, rfl, Or.inl rfl⟩, hbb⟩
  · have tr : decide (r < 0) = false := decide_eq_false (by omega)
    go_wp2_with fail
    refine (HZ2.out r _ (HN2.out.below hbb) hr2 (by omega)).mono ?_
    rintro e w2 ⟨⟨r', rfl, hr'⟩, hb2⟩
    have hb3 := Below.step hbb hb2
    clear hbb hb2 q1' hq1'
    rcases hr' with hr' | ⟨hr4, hr5⟩
    · subst hr'
      go_wp2
      go_ret
      exact ⟨⟨-1, rfl, Or.inl rfl⟩, hb3⟩
    · have tr' : decide (r' < 0) = false := decide_eq_false (by omega)
      go_wp2
      go_ret
      exact ⟨⟨r', rfl, Or.inr ⟨hr4, by omega⟩⟩, hb3⟩

set_option maxHeartbeats 400000 in
theorem szPairS_any (ps : List (List Nd × List Nd)) (n : Nat) (HN : Hid (ps.length = n)) (ao : Option Addr) (cap : Nat) (left : Int) (w : World) (hx : Pairs w ao ps) (hs : ∀ p ∈ ps, (∀ x ∈ p.1, x.text.size ≤ maxLen) ∧ ∀ x ∈ p.2, x.text.size ≤ maxLen)
    (hm : ∀ p ∈ ps, p.1.length ≤ 9223372036854775807 ∧ p.2.length ≤ 9223372036854775807) (hlen : n ≤ 9223372036854775807) (h0 : 0 ≤ left) (h1 : left ≤ 1048576) :
    Calls Tryz.prog 4 #[.slice ao n cap, .int .i64 left] w fun e w' =>
      (∃ r : Int, e = .returned (.int .i64 r) ∧ (r = -1 ∨ (0 ≤ r ∧ r ≤ left - n - pairSum ps n))) ∧ Below w.heap.size w w' := by
  by_cases hl : left < n
  · clear hx hs hm
    go_enter Tryz.func4, Tryz.ntmps4
    go_wp2
    go_ret
    exact ⟨⟨-1, rfl, Or.inl rfl⟩, Below.refl _ _⟩
  · go_enter Tryz.func4, Tryz.ntmps4
    go_wp2
    go_loopw [1, 5] (fun l i wr => ∃ (k : Nat) (r : Int), k ≤ n ∧ i = .int .i64 k ∧ l = .int .i64 r ∧ 0 ≤ r ∧ r ≤ left - n - pairSum ps k ∧ Below w.heap.size w wr) (fun _ i _ => n - (intOf i).toNat)
    case atStart => exact ⟨0, _, Nat.zero_le _, rfl, rfl, by omega, by simp [pairSum], Below.refl _ _⟩
    case round =>
      obtain ⟨k, r, hk, rfl, rfl, hr0, hr1, hb⟩ := hrel
      by_cases hlt : k < n
      · have hltk : k < ps.length := by have := HN.out; omega
        obtain ⟨b, o, a1, c1, a2, c2, rfl, e1, e2, hn1, hn2⟩ := hx.below hb k hltk
        have hsk := hs ps[k] (List.getElem_mem hltk)
        have hmk := hm ps[k] (List.getElem_mem hltk)
        have HT : Hid (pairSum ps (k + 1) = pairSum ps k + ps[k].1.length + ps[k].2.length) := pairSum_succ hltk
        obtain ⟨⟨ka, kc⟩, hbk⟩ : ∃ p, ps[k] = p := ⟨_, rfl⟩
        rw [hbk] at e1 e2 hn1 hn2 hsk hmk HT
        simp only at e1 e2 hn1 hn2 hsk hmk HT
        obtain ⟨la, hla⟩ : ∃ l, ka.length = l := ⟨_, rfl⟩
        obtain ⟨lc, hlc⟩ : ∃ l, kc.length = l := ⟨_, rfl⟩
        have HLA : Hid (ka.length = la) := hla
        have HLC : Hid (kc.length = lc) := hlc
        rw [hla] at e1 hmk HT
        rw [hlc] at e2 hmk HT
        clear hx hs hm hbk hla hlc
        go_wp2_with fail
        refine (szPair_any ka kc la lc HLA HLC a1 a2 c1 c2 r wr hn1 hn2 hsk.1 hsk.2 hmk.1 hmk.2 hr0 (by omega)).mono ?_
        rintro e w1 ⟨⟨r', rfl, hr'⟩, hb1⟩
        rcases hr' with hr' | ⟨hr2, hr3⟩
        · subst hr'
          go_wp2
          go_ret
          exact ⟨⟨-1, rfl, Or.inl rfl⟩, Below.step hb hb1⟩
        · have hbb := Below.step hb hb1
          clear hb1 hb e1 e2 hn1 hn2
          go_wp2
          go_roundw
          case rel => exact ⟨k + 1, r', by omega, by go_num, rfl, hr2, by have := HT.out; omega, hbb⟩
          case measure => simp [intOf]; omega
      · have hke : k = n := by omega
        subst hke
        clear hx hs hm
        go_wp2
        go_ret
        exact ⟨⟨r, rfl, Or.inr ⟨hr0, hr1⟩⟩, hb⟩

set_option maxHeartbeats 400000 in
theorem eqPair_same (ka kc : List Nd) (la lc : Nat) (HA : Hid (ka.length = la)) (HC : Hid (kc.length = lc)) (a1 a2 b1 b2 : Option Addr) (c1 c2 d1 d2 : Nat) (w : World) (hn1 : Nodes w a1 ka) (hn2 : Nodes w a2 kc) (hm1 : Nodes w b1 ka) (hm2 : Nodes w b2 kc) (hla : la ≤ 1048576) (hlc : lc ≤ 1048576) :
    Calls Tryz.prog 26 #[.agg #[.slice a1 la c1, .slice a2 lc c2], .agg #[.slice b1 la d1, .slice b2 lc d2]] w fun e w' => e = .returned (.bool true) ∧ Below w.heap.size w w' := by
  have hA : Below w.heap.size w (w.alloc (.cells #[.slice a1 la c1, .slice a2 lc c2] 41)) := (Below.refl _ w).alloc (Nat.le_refl _) _
  have hB := hA.alloc hA.size (.cells #[.slice b1 la d1, .slice b2 lc d2] 41)
  have q1 : ((w.alloc (.cells #[.slice a1 la c1, .slice a2 lc c2] 41)).alloc (.cells #[.slice b1 la d1, .slice b2 lc d2] 41)).cell? ⟨w.heap.size, 1, none⟩ = some (.slice a2 lc c2) := by
    rw [World.cell?_alloc_lt _ _ ⟨w.heap.size, 1, none⟩ (by simp), cell_of_row _ _ _ _ 41 (0, 0) (heap_alloc_new _ _)]; rfl
  have q2 : ((w.alloc (.cells #[.slice a1 la c1, .slice a2 lc c2] 41)).alloc (.cells #[.slice b1 la d1, .slice b2 lc d2] 41)).cell? ⟨w.heap.size + 1, 1, none⟩ = some (.slice b2 lc d2) := by
    have h9 := heap_alloc_new (w.alloc (.cells #[.slice a1 la c1, .slice a2 lc c2] 41)) (.cells #[.slice b1 la d1, .slice b2 lc d2] 41)
    rw [World.size_alloc] at h9
    rw [cell_of_row _ _ _ _ 41 (0, 0) h9]; rfl
  have hl1 := lt_of_cell q1
  have hl2 := lt_of_cell q2
  have HN2 : Hid (Nodes w a2 kc) := hn2
  have HM2 : Hid (Nodes w b2 kc) := hm2
  have HE1 := eqNodeS_any ka ka la la HA HA a1 b1 c1 d1 _ (hn1.below hB) (hm1.below hB) (by omega) (by omega)
  clear hn1 hn2 hm1 hm2
  go_enter Tryz.func26, Tryz.ntmps26
  go_wp2_with fail
  refine HE1.mono ?_
  rintro e w1 ⟨⟨r, rfl, hr⟩, hb1⟩
  have hr1 : r = true := hr.2 ⟨rfl, fun _ _ _ => Nd.eqb_refl _⟩
  subst hr1
  have hbb := Below.step hB hb1
  have q1' := (hb1.cell (p := ⟨w.heap.size, 1, none⟩) hl1).trans q1
  have q2' := (hb1.cell (p := ⟨w.heap.size + 1, 1, none⟩) hl2).trans q2
  have hl1' := lt_of_cell q1'
  have hl2' := lt_of_cell q2'
  have HE2 := eqNodeS_any kc kc lc lc HC HC a2 b2 c2 d2 _ (HN2.out.below hbb) (HM2.out.below hbb) (by omega) (by omega)
  clear hA hB hb1 hr HE1 q1 q2 hl1 hl2
  go_wp2_with fail
  refine HE2.mono ?_
  rintro e w2 ⟨⟨r, rfl, hr⟩, hb2⟩
  have hr1 : r = true := hr.2 ⟨rfl, fun _ _ _ => Nd.eqb_refl _⟩
  subst hr1
  have hb3 := Below.step hbb hb2
  clear hbb hb2 hr HE2 q1' q2'
  go_wp2
  go_ret
  exact ⟨rfl, hb3⟩

set_option maxHeartbeats 1000000 in
theorem eqPairS_same (ps : List (List Nd × List Nd)) (n : Nat) (HN : Hid (ps.length = n)) (ao bo : Option Addr) (cap cbp : Nat) (w : World) (hx : Pairs w ao ps) (hy : Pairs w bo ps) (hm : ∀ p ∈ ps, p.1.length ≤ 1048576 ∧ p.2.length ≤ 1048576) (hlx : n ≤ 1048576) :
    Calls Tryz.prog 9 #[.slice ao n cap, .slice bo n cbp] w fun e w' => e = .returned (.bool true) ∧ Below w.heap.size w w' := by
  go_enter Tryz.func9, Tryz.ntmps9
  go_wp2
  go_loopw [5] (fun i wr => ∃ (k : Nat), k ≤ n ∧ i = .int .i64 k ∧ Below w.heap.size w wr) (fun i _ => n - (intOf i).toNat)
  case atStart => exact ⟨0, Nat.zero_le _, rfl, Below.refl _ _⟩
  case round =>
    obtain ⟨k, hk, rfl, hb⟩ := hrel
    by_cases hlt : k < n
    · have hltk : k < ps.length := by have := HN.out; omega
      obtain ⟨b, o, a1, c1, a2, c2, rfl, e1, e2, hn1, hn2⟩ := hx.below hb k hltk
      obtain ⟨b', o', a1', c1', a2', c2', rfl, e1', e2', hn1', hn2'⟩ := hy.below hb k hltk
      have hmk := hm ps[k] (List.getElem_mem hltk)
      obtain ⟨⟨ka, kc⟩, hks⟩ : ∃ p, ps[k] = p := ⟨_, rfl⟩
      rw [hks] at e1 e2 hn1 hn2 e1' e2' hn1' hn2' hmk
      simp only at e1 e2 hn1 hn2 e1' e2' hn1' hn2' hmk
      obtain ⟨la, hla⟩ : ∃ l, ka.length = l := ⟨_, rfl⟩
      obtain ⟨lc, hlc⟩ : ∃ l, kc.length = l := ⟨_, rfl⟩
      have HLA : Hid (ka.length = la) := hla
      have HLC : Hid (kc.length = lc) := hlc
      rw [hla] at e1 e1' hmk
      rw [hlc] at e2 e2' hmk
      have hlb : b < wr.heap.size := lt_of_cell e1
      have hlb' : b' < wr.heap.size := lt_of_cell e1'
      have hB : Below wr.heap.size wr wr.drew := (Below.refl _ _).drew
      have hd1 := hn1.below hB
      have hd2 := hn2.below hB
      have hd1' := hn1'.below hB
      have hd2' := hn2'.below hB
      clear hx hy hm hks hla hlc hn1 hn2 hn1' hn2'
      go_wp2_with fail
      go_region_with (go_at_call 26; refine (eqPair_same ka kc la lc HLA HLC a1 a2 a1' a2' c1 c2 c1' c2' _ hd1 hd2 hd1' hd2' (by omega) (by omega)).mono ?_; rintro e w1 ⟨rfl, hb1⟩)
      all_goals
        have hbb := Below.step hb (undrew hb1)
        clear hb hb1 e1 e2 e1' e2' hB hd1 hd2 hd1' hd2'
        go_wp2
        go_roundw
        case rel => exact ⟨k + 1, by omega, by go_num, hbb⟩
        case measure => simp [intOf]; omega
    · clear hx hy hm
      go_wp2
      go_ret
      exact ⟨rfl, hb⟩

end Go.Proofs.YtoghngfkmhfimaaGreatDoor
