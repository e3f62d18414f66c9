import Derived.Test.YtoghngfkmhfimaaGreatDoorGA
import Derived.WalkKit
import Derived.Test.YtoghngfkmhfimaaGreatDoorGB
import Derived.Test.YtoghngfkmhfimaaGreatDoorGF
namespace Go.Proofs.YtoghngfkmhfimaaGreatDoor
open Go.RowKit

/-- Pairs in memory. -/
def Pairs (w : World) (ao : Option Addr) (ps : List (List Nd × List Nd)) : Prop := ∀ i (h : i < ps.length), ∃ b o a1 c1 a2 c2, ao = some ⟨b, o, none⟩ ∧ w.cell? ⟨b, o + i * 2, none⟩ = some (.slice a1 ps[i].1.length c1) ∧ w.cell? ⟨b, o + i * 2 + 1, none⟩ = some (.slice a2 ps[i].2.length c2) ∧ Nodes w a1 ps[i].1 ∧ Nodes w a2 ps[i].2

theorem Pairs.below {w w' : World} {ao : Option Addr} {ps : List (List Nd × List Nd)} (h : Pairs w ao ps) (hb : Below w.heap.size w w') : Pairs w' ao ps := by
  intro i hi
  obtain ⟨b, o, a1, c1, a2, c2, e, h1, h2, h3, h4⟩ := h i hi
  exact ⟨b, o, a1, c1, a2, c2, e, (hb.cell (lt_of_cell h1)).trans h1, (hb.cell (lt_of_cell h2)).trans h2, h3.below hb, h4.below hb⟩

def pairSum (ps : List (List Nd × List Nd)) (i : Nat) : Nat := ((ps.take i).map fun p => p.1.length + p.2.length).sum

theorem pairSum_succ {ps : List (List Nd × List Nd)} {i : Nat} (h : i < ps.length) : pairSum ps (i + 1) = pairSum ps i + ps[i].1.length + ps[i].2.length := by
  unfold pairSum
  rw [List.take_succ_eq_append_getElem h, List.map_append, List.sum_append]
  simp
  omega

theorem pairSum_le (ps : List (List Nd × List Nd)) (i : Nat) : pairSum ps i ≤ (ps.map fun p => p.1.length + p.2.length).sum := by
  unfold pairSum
  have h9 : ps.map (fun p => p.1.length + p.2.length) = (ps.take i).map (fun p => p.1.length + p.2.length) ++ (ps.drop i).map (fun p => p.1.length + p.2.length) := by rw [← List.map_append, List.take_append_drop]
  rw [h9, List.sum_append]
  omega

theorem rbox3 {w : World} {z : Nat} {a b c a' b' c' : Value} (h : w.heap[z]? = some (.cells #[a, b, c] 26 (0, 0))) : w.cell? ⟨z, 0, none⟩ = some a ∧ w.cell? ⟨z, 1, none⟩ = some b ∧ w.cell? ⟨z, 2, none⟩ = some c ∧ w.frozen? ⟨z, 0, none⟩ = false ∧ w.frozen? ⟨z, 1, none⟩ = false ∧ w.frozen? ⟨z, 2, none⟩ = false ∧ z < w.heap.size ∧ But (fun i => i = z) w (((w.setCell ⟨z, 0, none⟩ a').setCell ⟨z, 1, none⟩ b').setCell ⟨z, 2, none⟩ c') := by
  refine ⟨?_, ?_, ?_, frozen_of_row w z 0 _ 26 h, frozen_of_row w z 1 _ 26 h, frozen_of_row w z 2 _ 26 h, (Array.getElem?_eq_some_iff.1 h).1, (((But.refl (fun i => i = z) w).setCell (p := ⟨z, 0, none⟩) rfl _).setCell (p := ⟨z, 1, none⟩) rfl _).setCell (p := ⟨z, 2, none⟩) rfl _⟩ <;> (rw [cell_of_row _ _ _ _ _ _ h]; rfl)

end Go.Proofs.YtoghngfkmhfimaaGreatDoor

namespace Go.Proofs.YtoghngfkmhfimaaGreatDoor
open Go.RowKit

/-! Pairs as the laws hold them: sizes, copies, equality. -/

set_option maxHeartbeats 400000 in
theorem szPair_any (ka kc : List Nd) (la lc : Nat) (HA : Hid (ka.length = la)) (HC : Hid (kc.length = lc)) (a1 a2 : Option Addr) (c1 c2 : Nat) (left : Int) (w : World) (hn1 : Nodes w a1 ka) (hn2 : Nodes w a2 kc) (hs1 : ∀ x ∈ ka, x.text.size ≤ maxLen) (hs2 : ∀ x ∈ kc, x.text.size ≤ maxLen) (hla : la ≤ 9223372036854775807) (hlc : lc ≤ 9223372036854775807) (h0 : 0 ≤ left) (h1 : left ≤ 1048576) :
    Calls Tryz.prog 13 #[.agg #[.slice a1 la c1, .slice a2 lc c2], .int .i64 left] w fun e w' =>
      (∃ r : Int, e = .returned (.int .i64 r) ∧ (r = -1 ∨ (0 ≤ r ∧ r ≤ left - la - lc))) ∧ Below w.heap.size w w' := by
  have HZ1 : Hid (∀ (w : World), Nodes w a1 ka → Calls Tryz.prog 30 #[.slice a1 la c1, .int .i64 left] w fun e w' => (∃ r : Int, e = .returned (.int .i64 r) ∧ (r = -1 ∨ (0 ≤ r ∧ r ≤ left - la))) ∧ Below w.heap.size w w') := by
    intro w hn
    have hz := szNodeS_any ka a1 c1 left
    rw [HA.out] at hz
    exact hz w hn hs1 hla h0 h1
  have HZ2 : Hid (∀ (r : Int) (w : World), Nodes w a2 kc → 0 ≤ r → r ≤ 1048576 → Calls Tryz.prog 30 #[.slice a2 lc c2, .int .i64 r] w fun e w' => (∃ r' : Int, e = .returned (.int .i64 r') ∧ (r' = -1 ∨ (0 ≤ r' ∧ r' ≤ r - lc))) ∧ Below w.heap.size w w') := by
    intro r w hn hr hr'
    have hz := szNodeS_any kc a2 c2 r
    rw [HC.out] at hz
    exact hz w hn hs2 hlc hr hr'
  have HN1 : Hid (Nodes w a1 ka) := hn1
  have HN2 : Hid (Nodes w a2 kc) := hn2
  clear hn1 hn2 hs1 hs2
  have hbA : Below w.heap.size w (w.alloc (.cells #[.slice a1 la c1, .slice a2 lc c2] 38)) := (Below.refl _ w).alloc (Nat.le_refl _) _
  have q1 : (w.alloc (.cells #[.slice a1 la c1, .slice a2 lc c2] 38)).cell? ⟨w.heap.size, 1, none⟩ = some (.slice a2 lc c2) := by
    rw [cell_of_row _ _ _ _ 38 (0, 0) (heap_alloc_new _ _)]; rfl
  have hq1 := lt_of_cell q1
  go_enter Tryz.func13, Tryz.ntmps13
  go_wp2_with fail
  refine (HZ1.out _ (HN1.out.below hbA)).mono ?_
  rintro e w1 ⟨⟨r, rfl, hr⟩, hb1⟩
  have hbb := Below.step hbA hb1
  have q1' := (hb1.cell (p := ⟨w.heap.size, 1, none⟩) hq1).trans q1
  have hq1' := lt_of_cell q1'
  clear hbA hb1 q1 hq1
  rcases hr with hr | ⟨hr2, hr3⟩
  · subst hr
    go_wp2
    go_ret
    exact ⟨⟨-1, rfl, Or.inl rfl⟩, hbb⟩
  · have tr : decide (r < 0) = false := decide_eq_false (by omega)
    go_wp2_with fail
    refine (HZ2.out r _ (HN2.out.below hbb) hr2 (by omega)).mono ?_
    rintro e w2 ⟨⟨r', rfl, hr'⟩, hb2⟩
    have hb3 := Below.step hbb hb2
    clear hbb hb2 q1' hq1'
    rcases hr' with hr' | ⟨hr4, hr5⟩
    · subst hr'
      go_wp2
      go_ret
      exact ⟨⟨-1, rfl, Or.inl rfl⟩, hb3⟩
    · have tr' : decide (r' < 0) = false := decide_eq_false (by omega)
      go_wp2
      go_ret
      exact ⟨⟨r', rfl, Or.inr ⟨hr4, by omega⟩⟩, hb3⟩

set_option maxHeartbeats 400000 in
theorem szPairS_any (ps : List (List Nd × List Nd)) (n : Nat) (HN : Hid (ps.length = n)) (ao : Option Addr) (cap : Nat) (left : Int) (w : World) (hx : Pairs w ao ps) (hs : ∀ p ∈ ps, (∀ x ∈ p.1, x.text.size ≤ maxLen) ∧ ∀ x ∈ p.2, x.text.size ≤ maxLen)
    (hm : ∀ p ∈ ps, p.1.length ≤ 9223372036854775807 ∧ p.2.length ≤ 9223372036854775807) (hlen : n ≤ 9223372036854775807) (h0 : 0 ≤ left) (h1 : left ≤ 1048576) :
    Calls Tryz.prog 4 #[.slice ao n cap, .int .i64 left] w fun e w' =>
      (∃ r : Int, e = .returned (.int .i64 r) ∧ (r = -1 ∨ (0 ≤ r ∧ r ≤ left - n - pairSum ps n))) ∧ Below w.heap.size w w' := by
  by_cases hl : left < n
  · clear hx hs hm
    go_enter Tryz.func4, Tryz.ntmps4
    go_wp2
    go_ret
    exact ⟨⟨-1, rfl, Or.inl rfl⟩, Below.refl _ _⟩
  · go_enter Tryz.func4, Tryz.ntmps4
    go_wp2
    go_loopw [1, 5] (fun l i wr => ∃ (k : Nat) (r : Int), k ≤ n ∧ i = .int .i64 k ∧ l = .int .i64 r ∧ 0 ≤ r ∧ r ≤ left - n - pairSum ps k ∧ Below w.heap.size w wr) (fun _ i _ => n - (intOf i).toNat)
    case atStart => exact ⟨0, _, Nat.zero_le _, rfl, rfl, by omega, by simp [pairSum], Below.refl _ _⟩
    case round =>
      obtain ⟨k, r, hk, rfl, rfl, hr0, hr1, hb⟩ := hrel
      by_cases hlt : k < n
      · have hltk : k < ps.length := by have := HN.out; omega
        obtain ⟨b, o, a1, c1, a2, c2, rfl, e1, e2, hn1, hn2⟩ := hx.below hb k hltk
        have hsk := hs ps[k] (List.getElem_mem hltk)
        have hmk := hm ps[k] (List.getElem_mem hltk)
        have HT : Hid (pairSum ps (k + 1) = pairSum ps k + ps[k].1.length + ps[k].2.length) := pairSum_succ hltk
        obtain ⟨⟨ka, kc⟩, hbk⟩ : ∃ p, ps[k] = p := ⟨_, rfl⟩
        rw [hbk] at e1 e2 hn1 hn2 hsk hmk HT
        simp only at e1 e2 hn1 hn2 hsk hmk HT
        obtain ⟨la, hla⟩ : ∃ l, ka.length = l := ⟨_, rfl⟩
        obtain ⟨lc, hlc⟩ : ∃ l, kc.length = l := ⟨_, rfl⟩
        have HLA : Hid (ka.length = la) := hla
        have HLC : Hid (kc.length = lc) := hlc
        rw [hla] at e1 hmk HT
        rw [hlc] at e2 hmk HT
        clear hx hs hm hbk hla hlc
        go_wp2_with fail
        refine (szPair_any ka kc la lc HLA HLC a1 a2 c1 c2 r wr hn1 hn2 hsk.1 hsk.2 hmk.1 hmk.2 hr0 (by omega)).mono ?_
        rintro e w1 ⟨⟨r', rfl, hr'⟩, hb1⟩
        rcases hr' with hr' | ⟨hr2, hr3⟩
        · subst hr'
          go_wp2
          go_ret
          exact ⟨⟨-1, rfl, Or.inl rfl⟩, Below.step hb hb1⟩
        · have hbb := Below.step hb hb1
          clear hb1 hb e1 e2 hn1 hn2
          go_wp2
          go_roundw
          case rel => exact ⟨k + 1, r', by omega, by go_num, rfl, hr2, by have := HT.out; omega, hbb⟩
          case measure => simp [intOf]; omega
      · have hke : k = n := by omega
        subst hke
        clear hx hs hm
        go_wp2
        go_ret
        exact ⟨⟨r, rfl, Or.inr ⟨hr0, hr1⟩⟩, hb⟩

set_option maxHeartbeats 400000 in
theorem eqPair_same (ka kc : List Nd) (la lc : Nat) (HA : Hid (ka.length = la)) (HC : Hid (kc.length = lc)) (a1 a2 b1 b2 : Option Addr) (c1 c2 d1 d2 : Nat) (w : World) (hn1 : Nodes w a1 ka) (hn2 : Nodes w a2 kc) (hm1 : Nodes w b1 ka) (hm2 : Nodes w b2 kc) (hla : la ≤ 1048576) (hlc : lc ≤ 1048576) :
    Calls Tryz.prog 26 #[.agg #[.slice a1 la c1, .slice a2 lc c2], .agg #[.slice b1 la d1, .slice b2 lc d2]] w fun e w' => e = .returned (.bool true) ∧ Below w.heap.size w w' := by
  have hA : Below w.heap.size w (w.alloc (.cells #[.slice a1 la c1, .slice a2 lc c2] 41)) := (Below.refl _ w).alloc (Nat.le_refl _) _
  have hB := hA.alloc hA.size (.cells #[.slice b1 la d1, .slice b2 lc d2] 41)
  have q1 : ((w.alloc (.cells #[.slice a1 la c1, .slice a2 lc c2] 41)).alloc (.cells #[.slice b1 la d1, .slice b2 lc d2] 41)).cell? ⟨w.heap.size, 1, none⟩ = some (.slice a2 lc c2) := by
    rw [World.cell?_alloc_lt _ _ ⟨w.heap.size, 1, none⟩ (by simp), cell_of_row _ _ _ _ 41 (0, 0) (heap_alloc_new _ _)]; rfl
  have q2 : ((w.alloc (.cells #[.slice a1 la c1, .slice a2 lc c2] 41)).alloc (.cells #[.slice b1 la d1, .slice b2 lc d2] 41)).cell? ⟨w.heap.size + 1, 1, none⟩ = some (.slice b2 lc d2) := by
    have h9 := heap_alloc_new (w.alloc (.cells #[.slice a1 la c1, .slice a2 lc c2] 41)) (.cells #[.slice b1 la d1, .slice b2 lc d2] 41)
    rw [World.size_alloc] at h9
    rw [cell_of_row _ _ _ _ 41 (0, 0) h9]; rfl
  have hl1 := lt_of_cell q1
  have hl2 := lt_of_cell q2
  have HN2 : Hid (Nodes w a2 kc) := hn2
  have HM2 : Hid (Nodes w b2 kc) := hm2
  have HE1 := eqNodeS_any ka ka la la HA HA a1 b1 c1 d1 _ (hn1.below hB) (hm1.below hB) (by omega) (by omega)
  clear hn1 hn2 hm1 hm2
  go_enter Tryz.func26, Tryz.ntmps26
  go_wp2_with fail
  refine HE1.mono ?_
  rintro e w1 ⟨⟨r, rfl, hr⟩, hb1⟩
  have hr1 : r = true := hr.2 ⟨rfl, fun _ _ _ => Nd.eqb_refl _⟩
  subst hr1
  have hbb := Below.step hB hb1
  have q1' := (hb1.cell (p := ⟨w.heap.size, 1, none⟩) hl1).trans q1
  have q2' := (hb1.cell (p := ⟨w.heap.size + 1, 1, none⟩) hl2).trans q2
  have hl1' := lt_of_cell q1'
  have hl2' := lt_of_cell q2'
  have HE2 := eqNodeS_any kc kc lc lc HC HC a2 b2 c2 d2 _ (HN2.out.below hbb) (HM2.out.below hbb) (by omega) (by omega)
  clear hA hB hb1 hr HE1 q1 q2 hl1 hl2
  go_wp2_with fail
  refine HE2.mono ?_
  rintro e w2 ⟨⟨r, rfl, hr⟩, hb2⟩
  have hr1 : r = true := hr.2 ⟨rfl, fun _ _ _ => Nd.eqb_refl _⟩
  subst hr1
  have hb3 := Below.step hbb hb2
  clear hbb hb2 hr HE2 q1' q2'
  go_wp2
  go_ret
  exact ⟨rfl, hb3⟩

set_option maxHeartbeats 1000000 in
theorem eqPairS_same (ps : List (List Nd × List Nd)) (n : Nat) (HN : Hid (ps.length = n)) (ao bo : Option Addr) (cap cbp : Nat) (w : World) (hx : Pairs w ao ps) (hy : Pairs w bo ps) (hm : ∀ p ∈ ps, p.1.length ≤ 1048576 ∧ p.2.length ≤ 1048576) (hlx : n ≤ 1048576) :
    Calls Tryz.prog 9 #[.slice ao n cap, .slice bo n cbp] w fun e w' => e = .returned (.bool true) ∧ Below w.heap.size w w' := by
  go_enter Tryz.func9, Tryz.ntmps9
  go_wp2
  go_loopw [5] (fun i wr => ∃ (k : Nat), k ≤ n ∧ i = .int .i64 k ∧ Below w.heap.size w wr) (fun i _ => n - (intOf i).toNat)
  case atStart => exact ⟨0, Nat.zero_le _, rfl, Below.refl _ _⟩
  case round =>
    obtain ⟨k, hk, rfl, hb⟩ := hrel
    by_cases hlt : k < n
    · have hltk : k < ps.length := by have := HN.out; omega
      obtain ⟨b, o, a1, c1, a2, c2, rfl, e1, e2, hn1, hn2⟩ := hx.below hb k hltk
      obtain ⟨b', o', a1', c1', a2', c2', rfl, e1', e2', hn1', hn2'⟩ := hy.below hb k hltk
      have hmk := hm ps[k] (List.getElem_mem hltk)
      obtain ⟨⟨ka, kc⟩, hks⟩ : ∃ p, ps[k] = p := ⟨_, rfl⟩
      rw [hks] at e1 e2 hn1 hn2 e1' e2' hn1' hn2' hmk
      simp only at e1 e2 hn1 hn2 e1' e2' hn1' hn2' hmk
      obtain ⟨la, hla⟩ : ∃ l, ka.length = l := ⟨_, rfl⟩
      obtain ⟨lc, hlc⟩ : ∃ l, kc.length = l := ⟨_, rfl⟩
      have HLA : Hid (ka.length = la) := hla
      have HLC : Hid (kc.length = lc) := hlc
      rw [hla] at e1 e1' hmk
      rw [hlc] at e2 e2' hmk
      have hlb : b < wr.heap.size := lt_of_cell e1
      have hlb' : b' < wr.heap.size := lt_of_cell e1'
      have hB : Below wr.heap.size wr wr.drew := (Below.refl _ _).drew
      have hd1 := hn1.below hB
      have hd2 := hn2.below hB
      have hd1' := hn1'.below hB
      have hd2' := hn2'.below hB
      clear hx hy hm hks hla hlc hn1 hn2 hn1' hn2'
      go_wp2_with fail
      go_region_with (go_at_call 26; refine (eqPair_same ka kc la lc HLA HLC a1 a2 a1' a2' c1 c2 c1' c2' _ hd1 hd2 hd1' hd2' (by omega) (by omega)).mono ?_; rintro e w1 ⟨rfl, hb1⟩)
      all_goals
        have hbb := Below.step hb (undrew hb1)
        clear hb hb1 e1 e2 e1' e2' hB hd1 hd2 hd1' hd2'
        go_wp2
        go_roundw
        case rel => exact ⟨k + 1, by omega, by go_num, hbb⟩
        case measure => simp [intOf]; omega
    · clear hx hy hm
      go_wp2
      go_ret
      exact ⟨rfl, hb⟩

end Go.Proofs.YtoghngfkmhfimaaGreatDoor

namespace Go.Proofs.YtoghngfkmhfimaaGreatDoor
open Go.RowKit

/-! Pairs that a law copies and marks. -/

set_option maxRecDepth 20000 in
set_option maxHeartbeats 1000000 in
theorem toPair_any (ka kc : List Nd) (la lc : Nat) (HA : Hid (ka.length = la)) (HC : Hid (kc.length = lc)) (a1 a2 : Option Addr) (c1 c2 : Nat) (w : World) (hn1 : Nodes w a1 ka) (hn2 : Nodes w a2 kc) (hla : la ≤ 1048576) (hlc : lc ≤ 1048576) :
    Calls Tryz.prog 18 #[.agg #[.slice a1 la c1, .slice a2 lc c2]] w fun e w' =>
      ∃ g h, e = .returned (.agg #[.slice (some ⟨g, 0, none⟩) la la, .slice (some ⟨h, 0, none⟩) lc lc]) ∧ w.heap.size ≤ g ∧ w.heap.size ≤ h ∧ g ≠ h ∧ Row w' g ka ∧ Row w' h kc ∧ Below w.heap.size w w' := by
  have HZ1 : Hid (∀ (w : World), Nodes w a1 ka → Calls Tryz.prog 41 #[.slice a1 la c1] w fun e w' => ∃ g, e = .returned (.slice (some ⟨g, 0, none⟩) la la) ∧ w.heap.size ≤ g ∧ Row w' g ka ∧ Below w.heap.size w w') := by
    intro w hn
    have hz := toNodeS_any ka a1 c1
    rw [HA.out] at hz
    exact hz w hn hla
  have HZ2 : Hid (∀ (w : World), Nodes w a2 kc → Calls Tryz.prog 41 #[.slice a2 lc c2] w fun e w' => ∃ g, e = .returned (.slice (some ⟨g, 0, none⟩) lc lc) ∧ w.heap.size ≤ g ∧ Row w' g kc ∧ Below w.heap.size w w') := by
    intro w hn
    have hz := toNodeS_any kc a2 c2
    rw [HC.out] at hz
    exact hz w hn hlc
  have HN1 : Hid (Nodes w a1 ka) := hn1
  have HN2 : Hid (Nodes w a2 kc) := hn2
  clear hn1 hn2
  have hA : Below w.heap.size w (w.alloc (.cells #[.slice a1 la c1, .slice a2 lc c2] 38)) := (Below.refl _ w).alloc (Nat.le_refl _) _
  have hB := hA.alloc hA.size (.cells #[.slice none 0 0, .slice none 0 0] 41)
  have hC := hB.alloc hB.size (.cells #[.slice none 0 0, .slice none 0 0] 41)
  go_enter Tryz.func18, Tryz.ntmps18
  go_wp2_with fail
  obtain ⟨z, hz⟩ : ∃ z, w.heap.size = z := ⟨_, rfl⟩
  have k0 : (((w.alloc (.cells #[.slice a1 la c1, .slice a2 lc c2] 38)).alloc (.cells #[.slice none 0 0, .slice none 0 0] 41)).alloc (.cells #[.slice none 0 0, .slice none 0 0] 41)).heap[z]? = some (.cells #[.slice a1 la c1, .slice a2 lc c2] 38 (0, 0)) := by
    rw [← hz, heap_alloc_old _ _ (by simp; omega), heap_alloc_old _ _ (by simp)]
    exact heap_alloc_new _ _
  have k1 : (((w.alloc (.cells #[.slice a1 la c1, .slice a2 lc c2] 38)).alloc (.cells #[.slice none 0 0, .slice none 0 0] 41)).alloc (.cells #[.slice none 0 0, .slice none 0 0] 41)).heap[z + 1]? = some (.cells #[.slice none 0 0, .slice none 0 0] 41 (0, 0)) := by
    rw [← hz, heap_alloc_old _ _ (by simp)]
    have h9 := heap_alloc_new (w.alloc (.cells #[.slice a1 la c1, .slice a2 lc c2] 38)) (.cells #[.slice none 0 0, .slice none 0 0] 41)
    simpa using h9
  have k2 : (((w.alloc (.cells #[.slice a1 la c1, .slice a2 lc c2] 38)).alloc (.cells #[.slice none 0 0, .slice none 0 0] 41)).alloc (.cells #[.slice none 0 0, .slice none 0 0] 41)).heap[z + 1 + 1]? = some (.cells #[.slice none 0 0, .slice none 0 0] 41 (0, 0)) := by
    rw [← hz]
    have h9 := heap_alloc_new ((w.alloc (.cells #[.slice a1 la c1, .slice a2 lc c2] 38)).alloc (.cells #[.slice none 0 0, .slice none 0 0] 41)) (.cells #[.slice none 0 0, .slice none 0 0] 41)
    simpa using h9
  have l0 := (Array.getElem?_eq_some_iff.1 k0).1
  have l1 := (Array.getElem?_eq_some_iff.1 k1).1
  have l2 := (Array.getElem?_eq_some_iff.1 k2).1
  refine (HZ1.out _ (HN1.out.below hC)).mono ?_
  rintro e w1 ⟨g, rfl, hg, hr, hb1⟩
  have k0 := (hb1.block z l0).trans k0
  have k1 := (hb1.block (z + 1) l1).trans k1
  have k2 := (hb1.block (z + 1 + 1) l2).trans k2
  have hbw1 : Below z w w1 := by rw [← hz]; exact Below.step hC hb1
  have hgs : z + 3 ≤ g := by rw [← hz]; simpa using hg
  have hs1 := hbw1.size
  clear hA hB hC hb1 l0 l1 l2 hg
  have u0 : w1.cell? ⟨z + 1 + 1, 0, none⟩ = some (.slice none 0 0) := by rw [cell_of_row _ _ _ _ 41 (0, 0) k2]; rfl
  have u1 : w1.frozen? ⟨z + 1 + 1, 0, none⟩ = false := frozen_of_row w1 (z + 1 + 1) 0 _ 41 k2
  have bS : But (· = z + 1 + 1) w1 (w1.setCell ⟨z + 1 + 1, 0, none⟩ (.slice (some ⟨g, 0, none⟩) la la)) := (But.refl (· = z + 1 + 1) w1).setCell (p := ⟨z + 1 + 1, 0, none⟩) rfl _
  obtain ⟨W, hW⟩ : ∃ W, w1.setCell ⟨z + 1 + 1, 0, none⟩ (.slice (some ⟨g, 0, none⟩) la la) = W := ⟨_, rfl⟩
  have k2S : W.heap[z + 1 + 1]? = some (.cells #[.slice (some ⟨g, 0, none⟩) la la, .slice none 0 0] 41 (0, 0)) := by
    rw [← hW]
    have h9 := heap_setCell_same w1 (z + 1 + 1) 0 _ 41 (.slice (some ⟨g, 0, none⟩) la la) k2
    simpa using h9
  rw [hW] at bS
  have l0 := (Array.getElem?_eq_some_iff.1 k0).1
  have l1 := (Array.getElem?_eq_some_iff.1 k1).1
  have k0 := (bS.block z l0 (by omega)).trans k0
  have k1 := (bS.block (z + 1) l1 (by omega)).trans k1
  have hr := bS.row hr (by omega)
  have hbW : Below z w W := hbw1.trans (bS.below (by omega) (fun q hq => by omega))
  have hsW := hbW.size
  have l0 := (Array.getElem?_eq_some_iff.1 k0).1
  have l1 := (Array.getElem?_eq_some_iff.1 k1).1
  have l2 := (Array.getElem?_eq_some_iff.1 k2S).1
  have v1 : W.cell? ⟨z, 1, none⟩ = some (.slice a2 lc c2) := by rw [cell_of_row _ _ _ _ 38 (0, 0) k0]; rfl
  have hl2 : g < W.heap.size := hr.lt
  clear k2 bS hbw1
  go_wp2_with fail
  refine (HZ2.out W (HN2.out.below (by rw [hz]; exact hbW))).mono ?_
  rintro e w2 ⟨h, rfl, hh, hr2, hb2⟩
  have k1 := (hb2.block (z + 1) l1).trans k1
  have k2 := (hb2.block (z + 1 + 1) l2).trans k2S
  have hr := hr.below hb2
  have hb3 : Below z w w2 := by rw [← hz] at hbW ⊢; exact Below.step hbW hb2
  have hs2 := hb2.size
  have o0 : w2.cell? ⟨z + 1 + 1, 0, none⟩ = some (.slice (some ⟨g, 0, none⟩) la la) := by rw [cell_of_row _ _ _ _ 41 (0, 0) k2]; rfl
  have o1 : w2.cell? ⟨z + 1 + 1, 1, none⟩ = some (.slice none 0 0) := by rw [cell_of_row _ _ _ _ 41 (0, 0) k2]; rfl
  have fo : w2.frozen? ⟨z + 1 + 1, 1, none⟩ = false := frozen_of_row w2 (z + 1 + 1) 1 _ 41 k2
  have y0 : w2.cell? ⟨z + 1, 0, none⟩ = some (.slice none 0 0) := by rw [cell_of_row _ _ _ _ 41 (0, 0) k1]; rfl
  have y1 : w2.cell? ⟨z + 1, 1, none⟩ = some (.slice none 0 0) := by rw [cell_of_row _ _ _ _ 41 (0, 0) k1]; rfl
  have fy0 : w2.frozen? ⟨z + 1, 0, none⟩ = false := frozen_of_row w2 (z + 1) 0 _ 41 k1
  have fy1 : w2.frozen? ⟨z + 1, 1, none⟩ = false := frozen_of_row w2 (z + 1) 1 _ 41 k1
  have hbu : But (fun q => q = z + 1 + 1 ∨ q = z + 1) w2 (((w2.setCell ⟨z + 1 + 1, 1, none⟩ (.slice (some ⟨h, 0, none⟩) lc lc)).setCell ⟨z + 1, 0, none⟩ (.slice (some ⟨g, 0, none⟩) la la)).setCell ⟨z + 1, 1, none⟩ (.slice (some ⟨h, 0, none⟩) lc lc)) :=
    (((But.refl (fun q => q = z + 1 + 1 ∨ q = z + 1) w2).setCell (p := ⟨z + 1 + 1, 1, none⟩) (Or.inl rfl) _).setCell (p := ⟨z + 1, 0, none⟩) (Or.inr rfl) _).setCell (p := ⟨z + 1, 1, none⟩) (Or.inr rfl) _
  have HR : Hid (Row (((w2.setCell ⟨z + 1 + 1, 1, none⟩ (.slice (some ⟨h, 0, none⟩) lc lc)).setCell ⟨z + 1, 0, none⟩ (.slice (some ⟨g, 0, none⟩) la la)).setCell ⟨z + 1, 1, none⟩ (.slice (some ⟨h, 0, none⟩) lc lc)) g ka) := hbu.row hr (by omega)
  have HR2 : Hid (Row (((w2.setCell ⟨z + 1 + 1, 1, none⟩ (.slice (some ⟨h, 0, none⟩) lc lc)).setCell ⟨z + 1, 0, none⟩ (.slice (some ⟨g, 0, none⟩) la la)).setCell ⟨z + 1, 1, none⟩ (.slice (some ⟨h, 0, none⟩) lc lc)) h kc) := hbu.row hr2 (by omega)
  have HB : Hid (Below z w (((w2.setCell ⟨z + 1 + 1, 1, none⟩ (.slice (some ⟨h, 0, none⟩) lc lc)).setCell ⟨z + 1, 0, none⟩ (.slice (some ⟨g, 0, none⟩) la la)).setCell ⟨z + 1, 1, none⟩ (.slice (some ⟨h, 0, none⟩) lc lc))) := hb3.trans (hbu.below (by omega) (fun q hq => by omega))
  have hlo := lt_of_cell o0
  have hly := lt_of_cell y0
  clear hr hr2 hbu hb3 hb2 hbW k0 k1 k2 k2S l0 l1 l2 v1 u0 u1 hW
  go_wp2
  refine bodyPost_ret (v := .agg #[.slice (some ⟨g, 0, none⟩) la la, .slice (some ⟨h, 0, none⟩) lc lc]) ?_ rfl ⟨g, h, rfl, by omega, by omega, by omega, HR.out, HR2.out, by rw [hz]; exact HB.out⟩
  simp only [results, Tryz.results18]
  simp [go_sem, y0, y1]

theorem Tryz.infoQ : (Tryz.prog.info? 41).map (fun i => (i.zero, i.size, i.bytes)) = some (some (.agg #[.slice none 0 0, .slice none 0 0]), 2, 48) := by kernel_rfl

theorem make_pairs (n : Nat) (h : n ≤ 1048576) (w : World) :
    (Instr.makeSlice 28 (.int .i64 (n : Int)) (.int .i64 (n : Int))).run Tryz.prog w = .ok (.slice (some ⟨w.heap.size, 0, none⟩) n n) (w.alloc (.cells (madeCells #[.slice none 0 0, .slice none 0 0] (n * 2)) 41)) := by
  obtain ⟨i, hi, hzz⟩ := Option.map_eq_some_iff.1 Tryz.infoQ
  simp only [Prod.mk.injEq] at hzz
  obtain ⟨hz, hs, hb⟩ := hzz
  have hr := run_make (P := Tryz.prog) w 28 41 i _ Tryz.underlying28 hi hz .i64 .i64 n n (by omega) (Int.le_refl _) (by rw [hb]; omega) (by omega)
  simp only [Int.toNat_natCast, hs] at hr
  exact hr

/-- A Pair that is not yet there. -/
def noPair : Value × Value := (.slice none 0 0, .slice none 0 0)

theorem made_pairs (n : Nat) : (madeCells #[.slice none 0 0, .slice none 0 0] (n * 2)).toList = cells2 (List.replicate n noPair) := by
  apply List.ext_getElem?
  intro j
  by_cases hj : j < n * 2
  · have e : j = (j / 2) * 2 + j % 2 := by omega
    have hq : j / 2 < n := by omega
    have hr : j % 2 < 2 := by omega
    generalize j / 2 = q at *
    generalize j % 2 = r at *
    subst e
    obtain ⟨g0, g1⟩ := cells2_get (List.replicate n noPair) q (by simpa using hq)
    have em : (q * 2 + r) % 2 = r := by omega
    simp only [madeCells, Array.toList_map, List.getElem?_map, Array.toList_range]
    rw [List.getElem?_range hj]
    match r, hr with
    | 0, _ => rw [Nat.add_zero, g0]; simp [noPair]
    | 1, _ => rw [g1]; simp [noPair, em]
  · rw [List.getElem?_eq_none (by simp [madeCells]; omega), List.getElem?_eq_none (by simp [cells2_length]; omega)]

/-- The Pairs that lead to the rows gs, two each. -/
def leadQ (gs : List (Nat × Nat)) (ps : List (List Nd × List Nd)) : List (Value × Value) := List.zipWith (fun h p => (.slice (some ⟨h.1, 0, none⟩) p.1.length p.1.length, .slice (some ⟨h.2, 0, none⟩) p.2.length p.2.length)) gs ps

theorem leadQ_step (gs : List (Nat × Nat)) (ps : List (List Nd × List Nd)) (k : Nat) (g' : Nat × Nat) (hk : k < ps.length) (hg : gs.length = k) :
    (leadQ gs (ps.take k) ++ List.replicate (ps.length - k) noPair).set k (.slice (some ⟨g'.1, 0, none⟩) ps[k].1.length ps[k].1.length, .slice (some ⟨g'.2, 0, none⟩) ps[k].2.length ps[k].2.length) =
      leadQ (gs ++ [g']) (ps.take (k + 1)) ++ List.replicate (ps.length - (k + 1)) noPair := by
  have hl : (leadQ gs (ps.take k)).length = k := by simp [leadQ]; omega
  rw [List.set_append_right _ _ (by omega), hl, Nat.sub_self]
  have e2 : ps.length - k = (ps.length - (k + 1)) + 1 := by omega
  rw [e2, List.replicate_succ, List.set_cons_zero, List.take_succ_eq_append_getElem hk]
  have e3 : leadQ (gs ++ [g']) (ps.take k ++ [ps[k]]) = leadQ gs (ps.take k) ++ [(.slice (some ⟨g'.1, 0, none⟩) ps[k].1.length ps[k].1.length, .slice (some ⟨g'.2, 0, none⟩) ps[k].2.length ps[k].2.length)] := by
    unfold leadQ
    rw [List.zipWith_append (by simp; omega)]
    rfl
  rw [e3, List.append_assoc]
  rfl

/-- Block g is a row of Pairs of the call's own. -/
def OwnQ (w : World) (g : Nat) (qs : List (Value × Value)) : Prop := OwnT 41 w g (cells2 qs)

theorem OwnQ.ne {w : World} {g h : Nat} {qs : List (Value × Value)} {ds : List Value} (a : OwnQ w g qs) (b : Own w h ds) : h ≠ g := by
  rintro rfl
  obtain ⟨cur, _, hg, _⟩ := a
  obtain ⟨cur', _, hg', _⟩ := b
  rw [hg] at hg'
  simp at hg'

theorem OwnQ.at {w : World} {g : Nat} {qs : List (Value × Value)} (h : OwnQ w g qs) (i : Nat) (hi : i < qs.length) : w.cell? ⟨g, i * 2, none⟩ = some qs[i].1 ∧ w.cell? ⟨g, i * 2 + 1, none⟩ = some qs[i].2 := by
  have hl := cells2_length qs
  obtain ⟨h1, h2⟩ := cells2_get qs i hi
  exact ⟨(OwnT.at h _ (by omega)).trans h1, (OwnT.at h _ (by omega)).trans h2⟩

theorem OwnQ.put {w : World} {g : Nat} {qs : List (Value × Value)} (h : OwnQ w g qs) (j : Nat) (hj : j < qs.length) (a b : Value) : OwnQ ((w.setCell ⟨g, j * 2, none⟩ a).setCell ⟨g, j * 2 + 1, none⟩ b) g (qs.set j (a, b)) := by
  have hl := cells2_length qs
  have h9 := OwnT.set (OwnT.set h (j * 2) a (by omega)) (j * 2 + 1) b (by simp; omega)
  rw [cells2_set qs j (a, b)] at h9
  exact h9

/-- The rows of k Pairs, no two of them one. -/
structure RowsQ (w : World) (gs : List (Nat × Nat)) (ps : List (List Nd × List Nd)) (lo hi : Nat) : Prop where
  len : gs.length = ps.length
  rows : ∀ i (h : i < gs.length) (h' : i < ps.length), Row w gs[i].1 ps[i].1 ∧ Row w gs[i].2 ps[i].2
  inn : ∀ i (h : i < gs.length), (lo ≤ gs[i].1 ∧ gs[i].1 < hi) ∧ lo ≤ gs[i].2 ∧ gs[i].2 < hi
  two : ∀ i (h : i < gs.length), gs[i].1 ≠ gs[i].2
  apart : ∀ i j (h : i < gs.length) (h' : j < gs.length), i < j → gs[i].1 ≠ gs[j].1 ∧ gs[i].1 ≠ gs[j].2 ∧ gs[i].2 ≠ gs[j].1 ∧ gs[i].2 ≠ gs[j].2

theorem RowsQ.below {w w' : World} {gs : List (Nat × Nat)} {ps : List (List Nd × List Nd)} {lo hi : Nat} (h : RowsQ w gs ps lo hi) (hb : Below w.heap.size w w') : RowsQ w' gs ps lo hi :=
  ⟨h.len, fun i a b => ⟨(h.rows i a b).1.below hb, (h.rows i a b).2.below hb⟩, h.inn, h.two, h.apart⟩

theorem RowsQ.snoc {w : World} {gs : List (Nat × Nat)} {ps : List (List Nd × List Nd)} {lo hi hi' : Nat} {p : List Nd × List Nd} {g : Nat × Nat} (h : RowsQ w gs ps lo hi) (hlo : lo ≤ hi) (r1 : Row w g.1 p.1) (r2 : Row w g.2 p.2) (h1 : hi ≤ g.1 ∧ g.1 < hi') (h2 : hi ≤ g.2 ∧ g.2 < hi') (hne : g.1 ≠ g.2) : RowsQ w (gs ++ [g]) (ps ++ [p]) lo hi' := by
  have key : ∀ i (hi1 : i < (gs ++ [g]).length), (∃ h0 : i < gs.length, (gs ++ [g])[i] = gs[i]) ∨ (i = gs.length ∧ (gs ++ [g])[i] = g) := by
    intro i hi1
    by_cases h0 : i < gs.length
    · exact .inl ⟨h0, List.getElem_append_left h0⟩
    · have e : i = gs.length := by simp at hi1; omega
      subst e
      exact .inr ⟨rfl, by simp⟩
  refine ⟨by simp [h.len], fun i a b => ?_, fun i a => ?_, fun i a => ?_, fun i j a b hij => ?_⟩
  · rcases key i a with ⟨h0, e⟩ | ⟨h0, e⟩
    · have h0' : i < ps.length := by have := h.len; omega
      have e2 : (ps ++ [p])[i] = ps[i] := List.getElem_append_left h0'
      rw [e, e2]
      exact h.rows i h0 h0'
    · have e2 : (ps ++ [p])[i] = p := by
        have e3 : i = ps.length := by have := h.len; omega
        subst e3
        simp
      rw [e, e2]
      exact ⟨r1, r2⟩
  · rcases key i a with ⟨h0, e⟩ | ⟨h0, e⟩
    · rw [e]
      have := h.inn i h0
      omega
    · rw [e]
      omega
  · rcases key i a with ⟨h0, e⟩ | ⟨h0, e⟩
    · rw [e]
      exact h.two i h0
    · rw [e]
      exact hne
  · rcases key i a with ⟨h0, e⟩ | ⟨h0, e⟩
    · rcases key j b with ⟨h3, e3⟩ | ⟨h3, e3⟩
      · rw [e, e3]
        exact h.apart i j h0 h3 hij
      · rw [e, e3]
        have := h.inn i h0
        omega
    · rcases key j b with ⟨h3, e3⟩ | ⟨h3, e3⟩ <;> omega

theorem RowsQ.putQ {w : World} {gs : List (Nat × Nat)} {ps : List (List Nd × List Nd)} {lo hi g : Nat} {qs : List (Value × Value)} (h : RowsQ w gs ps lo hi) (ho : OwnQ w g qs) (j : Nat) (a b : Value) : RowsQ ((w.setCell ⟨g, j * 2, none⟩ a).setCell ⟨g, j * 2 + 1, none⟩ b) gs ps lo hi := by
  have hb : But (· = g) w ((w.setCell ⟨g, j * 2, none⟩ a).setCell ⟨g, j * 2 + 1, none⟩ b) := ((But.refl (· = g) w).setCell (p := ⟨g, j * 2, none⟩) rfl a).setCell (p := ⟨g, j * 2 + 1, none⟩) rfl b
  exact ⟨h.len, fun i x y => ⟨hb.row (h.rows i x y).1 (ho.ne (h.rows i x y).1), hb.row (h.rows i x y).2 (ho.ne (h.rows i x y).2)⟩, h.inn, h.two, h.apart⟩

/-- All of it. -/
structure TwoQ (w : World) (g : Nat) (gs : List (Nat × Nat)) (ps : List (List Nd × List Nd)) (lo hi : Nat) : Prop where
  lead : OwnQ w g (leadQ gs ps)
  rows : RowsQ w gs ps lo hi
  gin : lo ≤ g ∧ g < hi

theorem TwoQ.below {w w' : World} {g : Nat} {gs : List (Nat × Nat)} {ps : List (List Nd × List Nd)} {lo hi : Nat} (h : TwoQ w g gs ps lo hi) (hb : Below w.heap.size w w') : TwoQ w' g gs ps lo hi :=
  ⟨OwnT.below h.lead hb, h.rows.below hb, h.gin⟩

theorem TwoQ.get {w : World} {g : Nat} {gs : List (Nat × Nat)} {ps : List (List Nd × List Nd)} {lo hi : Nat} (h : TwoQ w g gs ps lo hi) (i : Nat) (hi' : i < ps.length) (hg : i < gs.length) :
    w.cell? ⟨g, i * 2, none⟩ = some (.slice (some ⟨gs[i].1, 0, none⟩) ps[i].1.length ps[i].1.length) ∧ w.cell? ⟨g, i * 2 + 1, none⟩ = some (.slice (some ⟨gs[i].2, 0, none⟩) ps[i].2.length ps[i].2.length) := by
  obtain ⟨h1, h2⟩ := h.lead.at i (by simp [leadQ]; omega)
  refine ⟨?_, ?_⟩
  · rw [h1]; simp [leadQ]
  · rw [h2]; simp [leadQ]

theorem TwoQ.pairs {w : World} {g : Nat} {gs : List (Nat × Nat)} {ps : List (List Nd × List Nd)} {lo hi : Nat} (h : TwoQ w g gs ps lo hi) : Pairs w (some ⟨g, 0, none⟩) ps := by
  intro i hi'
  have hg : i < gs.length := by have := h.rows.len; omega
  obtain ⟨h1, h2⟩ := h.get i hi' hg
  obtain ⟨r1, r2⟩ := h.rows.rows i hg hi'
  exact ⟨g, 0, _, _, _, _, rfl, by rw [Nat.zero_add]; exact h1, by rw [Nat.zero_add]; exact h2, r1.nodes, r2.nodes⟩

set_option maxRecDepth 20000 in
set_option maxHeartbeats 1000000 in
theorem toPairS_any (ps : List (List Nd × List Nd)) (n : Nat) (HN : Hid (ps.length = n)) (ao : Option Addr) (cap : Nat) (w : World) (hx : Pairs w ao ps) (hm : ∀ p ∈ ps, p.1.length ≤ 1048576 ∧ p.2.length ≤ 1048576) (hlen : n ≤ 1048576) :
    Calls Tryz.prog 6 #[.slice ao n cap] w fun e w' =>
      ∃ g gs, e = .returned (.slice (some ⟨g, 0, none⟩) n n) ∧ TwoQ w' g gs ps w.heap.size w'.heap.size ∧ Below w.heap.size w w' := by
  have hmk := make_pairs n hlen
  go_enter Tryz.func6, Tryz.ntmps6
  go_wp2
  clear hmk
  go_loopw [4] (fun i wr => ∃ (k : Nat) (gs : List (Nat × Nat)), k ≤ n ∧ i = .int .i64 k ∧ OwnQ wr w.heap.size (leadQ gs (ps.take k) ++ List.replicate (ps.length - k) noPair) ∧ RowsQ wr gs (ps.take k) w.heap.size wr.heap.size ∧ Below w.heap.size w wr) (fun i _ => n - (intOf i).toNat)
  case atStart => exact ⟨0, [], Nat.zero_le _, rfl, ⟨_, [], heap_alloc_new _ _, by rw [made_pairs, HN.out]; simp [leadQ]⟩, ⟨by simp, fun i hi => by simp at hi, fun i hi => by simp at hi, fun i hi => by simp at hi, fun i j hi => by simp at hi⟩, (Below.refl _ _).alloc (Nat.le_refl _) _⟩
  case round =>
    obtain ⟨k, gs, hk, rfl, hown, hrows, hb⟩ := hrel
    by_cases hlt : k < n
    · have hltk : k < ps.length := by have := HN.out; omega
      obtain ⟨b, o, a1, c1, a2, c2, rfl, e1, e2, hn1, hn2⟩ := hx.below hb k hltk
      have hmk := hm ps[k] (List.getElem_mem hltk)
      have hgl : gs.length = k := by have := hrows.len; simp at this; omega
      have HST := leadQ_step gs ps k
      have HTK : Hid (ps.take (k + 1) = ps.take k ++ [ps[k]]) := List.take_succ_eq_append_getElem hltk
      obtain ⟨⟨ka, kc⟩, hbk⟩ : ∃ p, ps[k] = p := ⟨_, rfl⟩
      have HST2 : Hid (∀ g' : Nat × Nat, (leadQ gs (ps.take k) ++ List.replicate (ps.length - k) noPair).set k (.slice (some ⟨g'.1, 0, none⟩) ka.length ka.length, .slice (some ⟨g'.2, 0, none⟩) kc.length kc.length) = leadQ (gs ++ [g']) (ps.take (k + 1)) ++ List.replicate (ps.length - (k + 1)) noPair) := by
        intro g'
        have h9 := HST g' hltk hgl
        rw [hbk] at h9
        exact h9
      rw [hbk] at e1 e2 hn1 hn2 hmk HTK
      simp only at e1 e2 hn1 hn2 hmk
      obtain ⟨la, hla⟩ : ∃ l, ka.length = l := ⟨_, rfl⟩
      obtain ⟨lc, hlc⟩ : ∃ l, kc.length = l := ⟨_, rfl⟩
      have HLA : Hid (ka.length = la) := hla
      have HLC : Hid (kc.length = lc) := hlc
      rw [hla] at e1 hmk HST2
      rw [hlc] at e2 hmk HST2
      clear hx hm HST hla hlc hbk
      have HGL : Hid (gs.length = k) := hgl
      clear hgl
      go_wp2_with fail
      refine (toPair_any ka kc la lc HLA HLC a1 a2 c1 c2 wr hn1 hn2 hmk.1 hmk.2).mono ?_
      rintro e w1 ⟨g1, g2, rfl, hg1, hg2, hne, hr1, hr2, hb1⟩
      have o1 : OwnQ w1 w.heap.size _ := OwnT.below hown hb1
      have f0 := OwnT.frozen o1 (k * 2)
      have f1 := OwnT.frozen o1 (k * 2 + 1)
      have hll : k < (leadQ gs (ps.take k) ++ List.replicate (ps.length - k) noPair).length := by
        have := HGL.out; simp [leadQ]; omega
      obtain ⟨z0, z1⟩ := o1.at k hll
      have r1 := (hrows.below hb1).snoc (g := (g1, g2)) (p := (ka, kc)) (hi' := w1.heap.size) hb.size hr1 hr2 ⟨hg1, hr1.lt⟩ ⟨hg2, hr2.lt⟩ hne
      rw [← HTK.out] at r1
      have r2 := r1.putQ o1 k (.slice (some ⟨g1, 0, none⟩) la la) (.slice (some ⟨g2, 0, none⟩) lc lc)
      have o2 := o1.put k hll (.slice (some ⟨g1, 0, none⟩) la la) (.slice (some ⟨g2, 0, none⟩) lc lc)
      rw [HST2.out (g1, g2)] at o2
      have hbb := ((Below.step hb hb1).setCell (p := ⟨w.heap.size, k * 2, none⟩) (Nat.le_refl _) (.slice (some ⟨g1, 0, none⟩) la la)).setCell (p := ⟨w.heap.size, k * 2 + 1, none⟩) (Nat.le_refl _) (.slice (some ⟨g2, 0, none⟩) lc lc)
      have hsz : ((w1.setCell ⟨w.heap.size, k * 2, none⟩ (.slice (some ⟨g1, 0, none⟩) la la)).setCell ⟨w.heap.size, k * 2 + 1, none⟩ (.slice (some ⟨g2, 0, none⟩) lc lc)).heap.size = w1.heap.size := by rw [size_setCell, size_setCell]
      have HR2 : Hid (RowsQ ((w1.setCell ⟨w.heap.size, k * 2, none⟩ (.slice (some ⟨g1, 0, none⟩) la la)).setCell ⟨w.heap.size, k * 2 + 1, none⟩ (.slice (some ⟨g2, 0, none⟩) lc lc)) (gs ++ [(g1, g2)]) (ps.take (k + 1)) w.heap.size ((w1.setCell ⟨w.heap.size, k * 2, none⟩ (.slice (some ⟨g1, 0, none⟩) la la)).setCell ⟨w.heap.size, k * 2 + 1, none⟩ (.slice (some ⟨g2, 0, none⟩) lc lc)).heap.size) := by
        rw [hsz]
        exact r2
      generalize (leadQ gs (ps.take k) ++ List.replicate (ps.length - k) noPair)[k].1 = v0 at z0
      generalize (leadQ gs (ps.take k) ++ List.replicate (ps.length - k) noPair)[k].2 = v1 at z1
      clear hr1 hr2 hown hrows hb hb1 o1 r1 e1 e2 hn1 hn2 hll r2 hsz
      go_wp2
      go_roundw
      case rel => exact ⟨k + 1, gs ++ [(g1, g2)], by omega, by go_num, o2, HR2.out, hbb⟩
      case measure => simp [intOf]; omega
    · have hke : k = n := by omega
      subst hke
      have HE : Hid (ps.take k = ps) := List.take_of_length_le (by have := HN.out; omega)
      have HT : Hid (TwoQ wr w.heap.size gs ps w.heap.size wr.heap.size) := by
        rw [HE.out] at hown hrows
        have e : ps.length - k = 0 := by have := HN.out; omega
        rw [e] at hown
        exact ⟨by simpa using hown, hrows, Nat.le_refl _, OwnT.lt hown⟩
      clear hx hm hown hrows
      go_wp2
      go_ret
      exact ⟨_, gs, rfl, HT.out, hb⟩

end Go.Proofs.YtoghngfkmhfimaaGreatDoor

namespace Go.Proofs.YtoghngfkmhfimaaGreatDoor
open Go.RowKit

set_option maxRecDepth 20000 in
set_option maxHeartbeats 1000000 in
theorem markPairS_any (ps : List (List Nd × List Nd)) (n : Nat) (HN : Hid (ps.length = n)) (g : Nat) (gs : List (Nat × Nat)) (lo hi : Nat) (cap k : Nat) (w : World) (hx : TwoQ w g gs ps lo hi) (ht : pairSum ps n ≤ 1048576) (hlx : n ≤ 1048576) (hk : k ≤ 10000000) (hk0 : 0 < k) :
    Calls Tryz.prog 10 #[.slice (some ⟨g, 0, none⟩) n cap, .int .i64 k] w fun e w' => e = .returned (.int .i64 (k + 5 * pairSum ps n : Nat)) ∧ But (fun q => lo ≤ q ∧ q < hi) w w' := by
  have HG : Hid (gs.length = n) := hx.rows.len.trans HN.out
  have HPL : Hid (∀ j, j ≤ n → pairSum ps j ≤ pairSum ps n) := by
    intro j hj
    have h9 := pairSum_le (ps.take n) j
    have e1 : pairSum (ps.take n) j = pairSum ps j := by
      unfold pairSum
      rw [List.take_take, Nat.min_eq_left hj]
    rw [e1] at h9
    exact h9
  have HTWO : Hid (∀ i (h : i < gs.length), (lo ≤ gs[i].1 ∧ gs[i].1 < hi) ∧ (lo ≤ gs[i].2 ∧ gs[i].2 < hi) ∧ gs[i].1 ≠ gs[i].2) := fun i h => ⟨(hx.rows.inn i h).1, (hx.rows.inn i h).2, hx.rows.two i h⟩
  have HAP : Hid (∀ i j (h : i < gs.length) (h' : j < gs.length), i < j → gs[i].1 ≠ gs[j].1 ∧ gs[i].1 ≠ gs[j].2 ∧ gs[i].2 ≠ gs[j].1 ∧ gs[i].2 ≠ gs[j].2) := hx.rows.apart
  have hlead := hx.lead
  have hrows0 := hx.rows.rows
  have HGE : Hid (∀ W, OwnQ W g (leadQ gs ps) → ∀ i (hi' : i < ps.length) (hg : i < gs.length), W.cell? ⟨g, i * 2, none⟩ = some (.slice (some ⟨gs[i].1, 0, none⟩) ps[i].1.length ps[i].1.length) ∧ W.cell? ⟨g, i * 2 + 1, none⟩ = some (.slice (some ⟨gs[i].2, 0, none⟩) ps[i].2.length ps[i].2.length)) := by
    intro W h i hi' hg
    obtain ⟨h1, h2⟩ := h.at i (by simp [leadQ]; omega)
    refine ⟨?_, ?_⟩
    · rw [h1]; simp [leadQ]
    · rw [h2]; simp [leadQ]
  clear hx
  go_enter Tryz.func10, Tryz.ntmps10
  go_wp2
  go_loopw [1, 5] (fun a i wr => ∃ (j : Nat), j ≤ n ∧ i = .int .i64 j ∧ a = .int .i64 (k + 5 * pairSum ps j : Nat) ∧ OwnQ wr g (leadQ gs ps) ∧ (∀ i (h : i < gs.length) (h' : i < ps.length), j ≤ i → Row wr gs[i].1 ps[i].1 ∧ Row wr gs[i].2 ps[i].2) ∧ But (fun q => lo ≤ q ∧ q < hi) w wr) (fun _ i _ => n - (intOf i).toNat)
  case atStart => exact ⟨0, Nat.zero_le _, rfl, by simp [pairSum], hlead, fun i h h' _ => hrows0 i h h', But.refl _ _⟩
  case round =>
    clear hlead hrows0
    obtain ⟨j, hj, rfl, rfl, hown, hrows, hb⟩ := hrel
    by_cases hlt : j < n
    · have hltk : j < ps.length := by have := HN.out; omega
      have hltg : j < gs.length := by have := HG.out; omega
      obtain ⟨a0, a1⟩ := HGE.out wr hown j hltk hltg
      obtain ⟨hr1, hr2⟩ := hrows j hltg hltk (Nat.le_refl _)
      obtain ⟨i1, i2, i3⟩ := HTWO.out j hltg
      have hts := pairSum_succ hltk
      have htl := HPL.out (j + 1) (by omega)
      obtain ⟨q, hq⟩ : ∃ q, k + 5 * pairSum ps j = q := ⟨_, rfl⟩
      obtain ⟨la, hla⟩ : ∃ l, ps[j].1.length = l := ⟨_, rfl⟩
      obtain ⟨lc, hlc⟩ : ∃ l, ps[j].2.length = l := ⟨_, rfl⟩
      have HQ : Hid (k + 5 * pairSum ps (j + 1) = q + 5 * la + 5 * lc) := by show k + 5 * pairSum ps (j + 1) = q + 5 * la + 5 * lc; omega
      have hq1 : q ≤ 20000000 := by omega
      have hl1 : la ≤ 1048576 := by omega
      have hl2 : lc ≤ 1048576 := by omega
      have hq0 : 0 < q := by omega
      have HLA : Hid (ps[j].1.length = la) := hla
      have HLC : Hid (ps[j].2.length = lc) := hlc
      have hne1 := hown.ne hr1
      have hne2 := hown.ne hr2
      rw [hq]
      rw [hla] at a0
      rw [hlc] at a1
      have HRS : Hid (∀ i (h : i < gs.length) (h' : i < ps.length), j ≤ i → Row wr gs[i].1 ps[i].1 ∧ Row wr gs[i].2 ps[i].2) := hrows
      have HOW : Hid (OwnQ wr g (leadQ gs ps)) := hown
      have hgl := OwnT.lt hown
      clear hts htl hq hla hlc hrows hown
      go_wp2_with fail
      refine (markNodeS_any ps[j].1 la gs[j].1 la q _ HLA hr1 (by omega) (by omega) (by omega)).mono ?_
      rintro e w1 ⟨rfl, _, hb1⟩
      have o1 : OwnQ w1 g (leadQ gs ps) := OwnT.but HOW.out hb1 (fun e => hne1 e.symm)
      have hr2' := hb1.row hr2 (fun e => i3 e.symm)
      obtain ⟨_, a1'⟩ := HGE.out w1 o1 j hltk hltg
      rw [HLC.out] at a1'
      have hgl1 := OwnT.lt o1
      clear a0 a1 hr1 hr2 hgl
      go_wp2_with fail
      refine (markNodeS_any ps[j].2 lc gs[j].2 lc (q + 5 * la) _ HLC hr2' (by omega) (by omega) (by omega)).mono ?_
      rintro e w2 ⟨rfl, _, hb2⟩
      have o2 : OwnQ w2 g (leadQ gs ps) := OwnT.but o1 hb2 (fun e => hne2 e.symm)
      have bb : But (fun q => lo ≤ q ∧ q < hi) w w2 := (hb.trans (hb1.mono (fun q hq => by rw [hq]; exact i1))).trans (hb2.mono (fun q hq => by rw [hq]; exact i2))
      have HR2 : Hid (∀ i (h : i < gs.length) (h' : i < ps.length), j + 1 ≤ i → Row w2 gs[i].1 ps[i].1 ∧ Row w2 gs[i].2 ps[i].2) := by
        intro i h h' hij
        obtain ⟨x1, x2⟩ := HRS.out i h h' (by omega)
        obtain ⟨y1, y2, y3, y4⟩ := HAP.out j i hltg h (by omega)
        exact ⟨hb2.row (hb1.row x1 (fun e => y1 e.symm)) (fun e => y3 e.symm), hb2.row (hb1.row x2 (fun e => y2 e.symm)) (fun e => y4 e.symm)⟩
      clear hb hb1 hb2 o1 hr2' a1' HRS HOW hgl1
      go_wp2
      go_roundw
      case rel => exact ⟨j + 1, by omega, by go_num, by rw [HQ.out]; go_num, o2, HR2.out, bb⟩
      case measure => simp [intOf]; omega
    · have hje : j = n := by omega
      subst hje
      clear hrows hown
      go_wp2
      go_ret
      exact ⟨rfl, hb⟩

set_option maxRecDepth 20000 in
set_option maxHeartbeats 1000000 in
theorem eqSolution_same (ok : Bool) (at' : Int) (bs : List (Int × List Nd)) (n : Nat) (HN : Hid (bs.length = n)) (ao bo : Option Addr) (ca cb : Nat) (w : World) (hx : Binds w ao bs) (hy : Binds w bo bs) (hm : ∀ b ∈ bs, b.2.length ≤ 1048576) (hlx : n ≤ 1048576) :
    Calls Tryz.prog 8 #[.agg #[.bool ok, .int .i64 at', .slice ao n ca], .agg #[.bool ok, .int .i64 at', .slice bo n cb]] w fun e w' => e = .returned (.bool true) ∧ Below w.heap.size w w' := by
  have hA : Below w.heap.size w (w.alloc (.cells #[.bool ok, .int .i64 at', .slice ao n ca] 26)) := (Below.refl _ w).alloc (Nat.le_refl _) _
  have hB := hA.alloc hA.size (.cells #[.bool ok, .int .i64 at', .slice bo n cb] 26)
  have HE := eqBindS_same bs n HN ao bo ca cb _ (hx.below hB) (hy.below hB) hm hlx
  have tok0 : (ok != ok) = false := by simp
  have ta : (at' != at') = false := by simp
  clear hx hy hm
  go_enter Tryz.func8, Tryz.ntmps8
  go_wp2_with fail
  refine HE.mono ?_
  rintro e w1 ⟨rfl, hb1⟩
  have hbb := Below.step hB hb1
  clear HE hA hB hb1
  go_wp2
  go_ret
  exact ⟨rfl, hbb⟩

end Go.Proofs.YtoghngfkmhfimaaGreatDoor

namespace Go.Proofs.YtoghngfkmhfimaaGreatDoor
open Go.RowKit

set_option maxRecDepth 20000 in
set_option maxHeartbeats 1000000 in
theorem heldSolution_ans (ok : Bool) (at' : Int) (bs : List (Int × List Nd)) (n B : Nat) (ao : Option Addr) (cap k : Nat) (w : World) (HN : Hid (bs.length = n)) (ha : BAns w B ao (mB k bs)) (ht : total (tys bs) ≤ 8000000) (HMB : Hid (∀ b ∈ bs, b.2.length ≤ 1048576)) (hn : n ≤ 1048576) (hk : k ≤ 1000) (hk0 : 0 < k) :
    Calls Tryz.prog 12 #[.agg #[.bool ok, .int .i64 at', .slice ao n cap], .int .i64 k] w fun e w' => e = .returned (.int .i64 (k + n + 5 * total (tys bs) : Nat)) ∧ Below w.heap.size w w' := by
  have hA : Below w.heap.size w (w.alloc (.cells #[.bool ok, .int .i64 at', .slice ao n cap] 26)) := (Below.refl _ w).alloc (Nat.le_refl _) _
  have HM := heldBindS_gen bs n B ao cap k _ HN (ha.below hA) ht HMB hn hk hk0
  obtain ⟨t, htt⟩ : ∃ t, total (tys bs) = t := ⟨_, rfl⟩
  rw [htt] at HM ht ⊢
  have tr : decide (((k + n + 5 * t : Nat) : Int) < 0) = false := decide_eq_false (by omega)
  clear ha htt
  go_enter Tryz.func12, Tryz.ntmps12
  go_wp2_with fail
  refine HM.mono ?_
  rintro e w1 ⟨rfl, hb⟩
  have hbb := Below.step hA hb
  clear HM hA hb
  go_wp2
  go_ret
  exact ⟨rfl, hbb⟩

/-! How long Solve's answer can be. -/

theorem solve_len {ps : List (List Nd × List Nd)} {ok : Bool} {at' : Int} {bs : List (Int × List Nd)} (h : SolveRes ps ok at' bs) : bs.length ≤ 20000 ∧ ∀ b ∈ bs, b.2.length ≤ 300 := by
  cases h with
  | bad _ => exact ⟨by simp, by simp⟩
  | no _ _ _ _ _ => exact ⟨by simp, by simp⟩
  | large _ _ _ _ _ _ => exact ⟨by simp, by simp⟩
  | ok σ _ hv _ hup hocc hlen =>
    refine ⟨?_, fun b hb => (hlen b hb).2⟩
    have h1 : (nums bs).length ≤ (ps.flatMap fun p => metas p.1 ++ metas p.2).length := by
      refine nodup_len (hup.imp (fun {a b} hab e => by omega)) (fun x hx => ?_)
      obtain ⟨p, hp, h⟩ := (hocc x).1 hx
      refine List.mem_flatMap.2 ⟨p, hp, ?_⟩
      exact List.mem_append.2 h
    have h2 : ∀ qs : List (List Nd × List Nd), (qs.flatMap fun p => metas p.1 ++ metas p.2).length ≤ (qs.map fun p => p.1.length + p.2.length).sum := by
      intro qs
      induction qs with
      | nil => simp
      | cons q qs ih =>
        have h3 := metas_len q.1
        have h4 := metas_len q.2
        simp only [List.flatMap_cons, List.length_append, List.map_cons, List.sum_cons]
        omega
    have h3 := h2 ps
    have h4 := hv.1
    have h5 : (nums bs).length = bs.length := by simp [nums]
    omega

end Go.Proofs.YtoghngfkmhfimaaGreatDoor
