import Derived.Test.YtoiiibplkhedcaaGreatDoorProg
import Derived.Test.YtoiiibplkhedcaaGreatDoorGA
import Derived.Laws.BitsAllLaws
import Derived.Test.YtoiiibplkhedcaaGreatDoorGD
import Derived.Deep.Cut
import Derived.Test.YtoiiibplkhedcaaGreatDoorGE
namespace Go.Proofs.YtoiiibplkhedcaaGreatDoor
open Go.RowKit
def Code (w : World) (ao : Option Addr) (n : Nat) : Prop :=
  ∀ i, i < n → ∃ b o v, ao = some ⟨b, o, none⟩ ∧ w.cell? ⟨b, o + i, none⟩ = some (.int .u8 ((v : Nat) : Int)) ∧ v < 256
theorem Code.below {w w' : World} {ao : Option Addr} {n : Nat} (h : Code w ao n) (hb : Below w.heap.size w w') : Code w' ao n := by
  intro i hi
  obtain ⟨b, o, v, e, hc, hv⟩ := h i hi
  exact ⟨b, o, v, e, (hb.cell (p := ⟨b, o + i, none⟩) (lt_of_cell hc)).trans hc, hv⟩
theorem Jcb (a b : Nat) (ha : a < 4611686018427387904) (hb : b < 4611686018427387904) : bits .xor .i64 (a : Int) (b : Int) = ((a ^^^ b : Nat) : Int) := by
  show IntKind.i64.wrap ((BitVec.ofInt 64 (a : Int) ^^^ BitVec.ofInt 64 (b : Int)).toNat : Int) = _
  have hx : a ^^^ b < 2 ^ 62 := Nat.xor_lt_two_pow (by omega) (by omega)
  rw [BitVec.toNat_xor, ofInt_u64 a (by omega), ofInt_u64 b (by omega)]
  simp [IntKind.wrap, IntKind.bits, IntKind.signed]
  omega
theorem Qge {x y : Int} {k : Nat} (hx : 0 ≤ x) (hx2 : x < 4611686018427387904) (hy : 0 ≤ y) (hy2 : y < 4611686018427387904) (hk : 1 ≤ k) :
    0 ≤ (bits .xor .i64 x y).tmod (k : Int) ∧ (bits .xor .i64 x y).tmod (k : Int) < (k : Int) := by
  obtain ⟨a, rfl⟩ := Int.eq_ofNat_of_zero_le hx
  obtain ⟨b, rfl⟩ := Int.eq_ofNat_of_zero_le hy
  rw [Jcb a b (by omega) (by omega)]
  exact ⟨Int.tmod_nonneg _ (by omega), Int.tmod_lt_of_pos _ (by omega)⟩
def Took (k p : Nat) (e : Ending) : Prop := ∃ r : Nat, r < k ∧ e = .returned (.tuple #[.int .i64 (r : Int), .int .i64 ((p + 1 : Nat) : Int)])
theorem Qev {k p : Nat} {x : Int} (h0 : 0 ≤ x) (h1 : x < (k : Int)) : Took k p (.returned (.tuple #[.int .i64 x, .int .i64 ((p : Int) + 1)])) :=
  ⟨x.toNat, by omega, by have : ((x.toNat : Nat) : Int) = x := by omega
                         rw [this]; simp⟩
theorem Qce {x : Int} {k : Nat} (_ : 0 ≤ x) (hk : 1 ≤ k) : 0 ≤ x % (k : Int) ∧ x % (k : Int) < (k : Int) := ⟨Int.emod_nonneg _ (by omega), Int.emod_lt_of_pos _ (by omega)⟩
set_option maxHeartbeats 1000000 in
theorem Jbw (n : Nat) (hn : n ≤ 1048576) (ao : Option Addr) (cap : Nat) (w : World) (hc : Code w ao n) (p k : Nat) (hk : 1 ≤ k) (hk2 : k ≤ 64) (hp : p < n) :
    Calls Tryz.prog 12 #[.slice ao n cap, .int .i64 (p : Int), .int .i64 (k : Int)] w fun e w' => Took k p e ∧ Below w.heap.size w w' := by
  obtain ⟨b, o, v, rfl, hv, hv2⟩ := hc p hp
  clear hc
  go_enter Tryz.func12, Tryz.ntmps12
  go_wp2
  all_goals
    go_ret2
    refine ⟨Qev ?_ ?_, Below.refl _ _⟩
    · first | omega | exact (Qce (by omega) hk).1
    · first | omega | exact (Qce (by omega) hk).2
set_option maxHeartbeats 1000000 in
theorem Qgj (ao : Option Addr) (cap : Nat) (w : World) (p k : Nat) (hk : 1 ≤ k) (hk2 : k ≤ 64) (hp : p ≤ 1000) :
    Calls Tryz.prog 12 #[.slice ao 0 cap, .int .i64 (p : Int), .int .i64 (k : Int)] w fun e w' => Took k p e ∧ Below w.heap.size w w' := by
  go_enter Tryz.func12, Tryz.ntmps12
  go_wp2
  all_goals (go_ret2; exact ⟨Qev (by omega) (by omega), Below.refl _ _⟩)
set_option maxHeartbeats 2000000 in
theorem Qgi (n : Nat) (hn : n ≤ 1048576) (h0 : 0 < n) (ao : Option Addr) (cap : Nat) (w : World) (hc : Code w ao n) (p k : Nat) (hk : 1 ≤ k) (hk2 : k ≤ 64) (hp : p ≤ 1000) (hpn : n ≤ p) :
    Calls Tryz.prog 12 #[.slice ao n cap, .int .i64 (p : Int), .int .i64 (k : Int)] w fun e w' => Took k p e ∧ Below w.heap.size w w' := by
  have e0 : (0 : Int) < (n : Int) := by omega
  have e1 := Qce (x := (p : Int)) (k := n) (by omega) h0
  have e2 := Qce (x := (p : Int) * 7 + 3) (k := n) (by omega) h0
  obtain ⟨e1a, e1b⟩ := e1
  obtain ⟨e2a, e2b⟩ := e2
  have e3a : (0 : Int) ≤ (p : Int) / (n : Int) := Int.ediv_nonneg (by omega) (by omega)
  have e3b : (p : Int) / (n : Int) ≤ (p : Int) := Int.ediv_le_self _ (by omega)
  obtain ⟨b, o, v, rfl, hv, hv2⟩ := hc (p % n) (Nat.mod_lt _ h0)
  obtain ⟨b', o', u, he, hu, hu2⟩ := hc ((p * 7 + 3) % n) (Nat.mod_lt _ h0)
  cases he
  clear hc
  go_enter Tryz.func12, Tryz.ntmps12
  go_wp2
  all_goals
    go_ret2
    refine ⟨Qev ?_ ?_, Below.refl _ _⟩
    · first | omega | exact (Qge (by omega) (by omega) (by omega) (by omega) hk).1
    · first | omega | exact (Qge (by omega) (by omega) (by omega) (by omega) hk).2
theorem Qat (n : Nat) (hn : n ≤ 1048576) (ao : Option Addr) (cap : Nat) (w : World) (hc : Code w ao n) (p k : Nat) (hk : 1 ≤ k) (hk2 : k ≤ 64) (hp : p ≤ 1000) :
    Calls Tryz.prog 12 #[.slice ao n cap, .int .i64 (p : Int), .int .i64 (k : Int)] w fun e w' => Took k p e ∧ Below w.heap.size w w' := by
  by_cases h0 : n = 0
  · subst h0
    exact Qgj ao cap w p k hk hk2 hp
  · by_cases h : p < n
    · exact Jbw n hn ao cap w hc p k hk hk2 h
    · exact Qgi n hn (by omega) ao cap w hc p k hk hk2 hp (by omega)
end Go.Proofs.YtoiiibplkhedcaaGreatDoor

namespace Go.Proofs.YtoiiibplkhedcaaGreatDoor
open Go.RowKit
theorem Qed (w : World) (n : Nd) : ∀ j u, n.row[j]? = some u →
    (w.alloc (.cells #[.int .i64 n.kind, .int .i64 n.num, .string n.text, .int .i64 n.kids, .int .i64 n.place] 43)).cell? (Addr.add ⟨w.heap.size, 0, none⟩ j) = some u := by
  intro j u hj
  have hl : j < n.row.length := (List.getElem?_eq_some_iff.1 hj).1
  have ad : Addr.add ⟨w.heap.size, 0, none⟩ j = ⟨w.heap.size, j, none⟩ := by
    unfold Addr.add
    split
    · simp_all
    · simp
  rw [ad, cell_of_row _ w.heap.size j _ 43 (0, 0) (heap_alloc_new _ _), ← hj]
  simp [Nd.row]
theorem Qgm (n : Nd) : ∀ u ∈ n.row, u.oneCell' = true := by
  intro u hu
  simp [Nd.row] at hu
  rcases hu with rfl | rfl | rfl | rfl | rfl <;> rfl
def HoldsJ (w : World) (B : Nat) (v : Value) (zs : List Nd) : Prop := w.ownsRow B 43 5 v zs.length (flat zs)
theorem HoldsJ.push {w : World} {B : Nat} {v : Value} {zs : List Nd} {x : Nd} {m : Nat} (h : w.ownsRow B 43 5 v m (flat zs ++ x.row)) (hm : m = zs.length + 1) : HoldsJ w B v (zs ++ [x]) := by
  subst hm
  unfold HoldsJ
  rw [flat_append, List.length_append]
  exact h
theorem HoldsJ.block {w : World} {B : Nat} {v : Value} {zs : List Nd} (h : HoldsJ w B v zs) : ∀ k, v.ownBlock = some k → B ≤ k := by
  intro k hk
  rcases h.2 with ⟨rfl, _⟩ | ⟨g, cap, cur, rfl, hg, _⟩
  · simp [Value.ownBlock] at hk
  · simp [Value.ownBlock] at hk
    omega
theorem HoldsJ.mono {w : World} {B B' : Nat} {v : Value} {zs : List Nd} (h : HoldsJ w B v zs) (hb : B' ≤ B) : HoldsJ w B' v zs := by
  refine ⟨h.1, ?_⟩
  rcases h.2 with h2 | ⟨g, cap, cur, e, hg, r⟩
  · exact Or.inl h2
  · exact Or.inr ⟨g, cap, cur, e, Nat.le_trans hb hg, r⟩
theorem HoldsJ.row {w : World} {B : Nat} {v : Value} {zs : List Nd} (h : HoldsJ w B v zs) (hne : zs ≠ []) : ∃ g cap, v = .slice (some ⟨g, 0, none⟩) zs.length cap ∧ B ≤ g ∧ Row w g zs := by
  rcases h.2 with ⟨_, h0⟩ | ⟨g, cap, cur, e, hg, hh, _, _, _, ht⟩
  · exact absurd (List.length_eq_zero_iff.1 h0) hne
  · refine ⟨g, cap, e, hg, cur, cur.toList.drop (zs.length * 5), hh, ?_⟩
    rw [← ht, List.take_append_drop]
theorem Qbt (kss : List (List Nd)) (k : Nat) (h : k < kss.length) : (kss.take (k + 1)).flatten = (kss.take k).flatten ++ kss[k] := by
  rw [List.take_succ_eq_append_getElem h, List.flatten_append]
  simp only [List.flatten_cons, List.flatten_nil, List.append_nil]
theorem Qaf (kss : List (List Nd)) (k : Nat) : (kss.take k).flatten.length ≤ total kss := by
  have := total_take_le kss k
  rw [List.length_flatten]
  exact this
set_option maxHeartbeats 1000000 in
theorem Qam (x : Nd) (kss : List (List Nd)) (n : Nat) (HN : Hid (kss.length = n)) (ao : Option Addr) (cap : Nat) (w : World) (hx : Lists w ao kss) (ht : total kss ≤ 1048576) (hlen : n ≤ 1048576) :
    Calls Tryz.prog 35 #[.agg #[.int .i64 x.kind, .int .i64 x.num, .string x.text, .int .i64 x.kids, .int .i64 x.place], .slice ao n cap] w fun e w' =>
      ∃ v, e = .returned v ∧ HoldsJ w' w.heap.size v (kss.flatten ++ [{ x with kids := (n : Int) }]) ∧ Below w.heap.size w w' := by
  obtain ⟨i0, hi, hz0, hz1, hz2⟩ := info_parts Tryz.infoN
  go_enter Tryz.func35, Tryz.ntmps35
  go_wp2
  obtain ⟨W1, hW1⟩ : ∃ W1, W1 = w.alloc (.cells #[.int .i64 x.kind, .int .i64 x.num, .string x.text, .int .i64 x.kids, .int .i64 x.place] 43) := ⟨_, rfl⟩
  have HW1 : Hid (W1 = w.alloc (.cells #[.int .i64 x.kind, .int .i64 x.num, .string x.text, .int .i64 x.kids, .int .i64 x.place] 43)) := hW1
  have HB1 : Below w.heap.size w W1 := by rw [hW1]; exact (Below.refl _ _).alloc (Nat.le_refl _) _
  have HS1 : Hid (W1.heap.size = w.heap.size + 1) := by show W1.heap.size = w.heap.size + 1; rw [hW1]; simp
  have hx1 := hx.below HB1
  clear hx hW1
  go_loopw [5, 6] (fun v i wr => ∃ (k : Nat), k ≤ n ∧ i = .int .i64 k ∧ HoldsJ wr (w.heap.size + 1) v (kss.take k).flatten ∧ Below W1.heap.size W1 wr) (fun _ i _ => n - (intOf i).toNat)
  case atStart =>
    refine ⟨0, Nat.zero_le _, rfl, ⟨by simp [flat], Or.inr ⟨w.heap.size + 1, 0, #[], rfl, Nat.le_refl _, ?_, Nat.le_refl _, by simp [maxLen], rfl, by simp [flat]⟩⟩, ?_⟩
    · rw [← HW1.out, ← HS1.out]; exact heap_alloc_new _ _
    · rw [← HW1.out]; exact (Below.refl _ _).alloc (Nat.le_refl _) _
  case round =>
    obtain ⟨k, hk, rfl, hown, hb⟩ := hrel
    by_cases hlt : k < n
    · have hltk : k < kss.length := by have := HN.out; omega
      obtain ⟨b, o, ai, ci, rfl, hc, hn⟩ := hx1 k hltk
      obtain ⟨ks, hks⟩ : ∃ ks, kss[k] = ks := ⟨_, rfl⟩
      have HKS : Hid (kss[k] = ks) := hks
      have hml : ks.length ≤ 1048576 := by have := length_le_total kss k hltk; rw [hks] at this; omega
      have hdl := Qaf kss k
      have HFT : Hid ((kss.take (k + 1)).flatten = (kss.take k).flatten ++ ks) := by have := Qbt kss k hltk; rw [hks] at this; exact this
      have htl : (kss.take k).flatten.length + ks.length ≤ total kss := by
        have := Qaf kss (k + 1)
        rw [HFT.out, List.length_append] at this
        exact this
      obtain ⟨dn, hdn⟩ : ∃ dn, (kss.take k).flatten = dn := ⟨_, rfl⟩
      have HDN : Hid ((kss.take k).flatten = dn) := hdn
      rw [hdn] at hown hdl htl
      rw [hks] at hc hn
      clear hks hx1 hdn
      go_wp2
      go_loopw [5, 7] (fun v i wr => ∃ (j : Nat), j ≤ ks.length ∧ i = .int .i64 j ∧ HoldsJ wr (w.heap.size + 1) v (dn ++ ks.take j) ∧ Below W1.heap.size W1 wr) (fun _ i _ => ks.length - (intOf i).toNat)
      case atStart => exact ⟨0, Nat.zero_le _, rfl, by simpa using hown, hb⟩
      case round =>
        clear hown hb
        obtain ⟨j, hj, rfl, hown, hb⟩ := hrel
        have hcc := (hb.cell (p := ⟨b, o + k, none⟩) (lt_of_cell hc)).trans hc
        by_cases hjl : j < ks.length
        · obtain ⟨b', o', rfl, hnj⟩ := hn.below hb j hjl
          obtain ⟨y, hy⟩ : ∃ y, ks[j] = y := ⟨_, rfl⟩
          have HY : Hid (ks[j] = y) := hy
          rw [hy] at hnj
          obtain ⟨e0, e1, e2, e3, e4⟩ := hnj
          clear hy hn hc
          have hlen2 : (dn ++ ks.take j).length = dn.length + j := by simp; omega
          have HL2 : Hid ((dn ++ ks.take j).length = dn.length + j) := hlen2
          clear hlen2
          go_wp2_with (at_builtin; refine wpList_append_own _ rfl _ _ 23 rfl (w.heap.size + 1) 43 i0 _ 5 48 Tryz.underlying23 hi hz0 hz1 hz2 rfl (by decide) _ _ _ rfl (hown.alloc _) ⟨_, 0, none⟩ 1 1 y.row rfl rfl ?c1 ?c2 ?c3 ?c4 ?c5 ?_)
          case c1 => exact Qed _ y
          case c2 => exact Qgm y
          case c3 => rw [HL2.out]; unfold maxLen; omega
          case c4 => rw [HL2.out]; omega
          case c5 => have := hb.size; have := HS1.out; simp; omega
          intro v' w1 hown' hgrow _
          have H2 : HoldsJ w1 (w.heap.size + 1) v' (dn ++ ks.take (j + 1)) := by
            have := HoldsJ.push hown' (by rw [HL2.out])
            rw [List.take_succ_eq_append_getElem hjl, HY.out, ← List.append_assoc]
            exact this
          have hbb : Below W1.heap.size W1 w1 := (hb.alloc hb.size _).grown hgrow (by have := hb.size; simp; omega) (fun q hq => by have := HoldsJ.block hown q hq; have := HS1.out; omega)
          clear hown hown' hgrow hb hcc e0 e1 e2 e3 e4
          go_wp2
          go_roundw
          case rel => exact ⟨j + 1, by omega, by go_num, H2, hbb⟩
          case measure => simp [intOf]; omega
        · have hje : ks.take j = ks := List.take_of_length_le (by omega)
          have H2 : HoldsJ wr (w.heap.size + 1) u5 (kss.take (k + 1)).flatten := by
            rw [HFT.out, HDN.out]
            rw [hje] at hown
            exact hown
          clear hown hje hn hc
          go_wp2
          go_roundw
          case rel => exact ⟨k + 1, by omega, by go_num, H2, hb⟩
          case measure => simp [intOf]; omega
    · have hke : k = n := by omega
      subst hke
      have HE : Hid (kss.take k = kss) := List.take_of_length_le (by have := HN.out; omega)
      rw [HE.out] at hown
      have hfl : kss.flatten.length ≤ 1048576 := by have := Qaf kss k; rw [HE.out] at this; omega
      have hz : ∀ j, wr.cell? ⟨w.heap.size, j, none⟩ = W1.cell? ⟨w.heap.size, j, none⟩ := fun j => hb.cell (p := ⟨w.heap.size, j, none⟩) (by have := HS1.out; show w.heap.size < _; omega)
      have hf3 : wr.frozen? ⟨w.heap.size, 3, none⟩ = false := by
        rw [hb.frozen (p := ⟨w.heap.size, 3, none⟩) (by have := HS1.out; show w.heap.size < _; omega), HW1.out]
        exact frozen_of_row _ w.heap.size 3 _ 43 (heap_alloc_new _ _)
      have g0 : wr.cell? ⟨w.heap.size, 0, none⟩ = some (.int .i64 x.kind) := by rw [hz, HW1.out, cell_of_row _ w.heap.size 0 _ 43 (0, 0) (heap_alloc_new _ _)]; rfl
      have g1 : wr.cell? ⟨w.heap.size, 1, none⟩ = some (.int .i64 x.num) := by rw [hz, HW1.out, cell_of_row _ w.heap.size 1 _ 43 (0, 0) (heap_alloc_new _ _)]; rfl
      have g2 : wr.cell? ⟨w.heap.size, 2, none⟩ = some (.string x.text) := by rw [hz, HW1.out, cell_of_row _ w.heap.size 2 _ 43 (0, 0) (heap_alloc_new _ _)]; rfl
      have g3 : wr.cell? ⟨w.heap.size, 3, none⟩ = some (.int .i64 x.kids) := by rw [hz, HW1.out, cell_of_row _ w.heap.size 3 _ 43 (0, 0) (heap_alloc_new _ _)]; rfl
      have g4 : wr.cell? ⟨w.heap.size, 4, none⟩ = some (.int .i64 x.place) := by rw [hz, HW1.out, cell_of_row _ w.heap.size 4 _ 43 (0, 0) (heap_alloc_new _ _)]; rfl
      have hown3 := ownsRow_setCell_below hown (a := ⟨w.heap.size, 3, none⟩) (Nat.lt_succ_self _) (.int .i64 (k : Int))
      clear hz hx1
      go_wp2_with (at_builtin; refine wpList_append_own _ rfl _ _ 23 rfl (w.heap.size + 1) 43 i0 _ 5 48 Tryz.underlying23 hi hz0 hz1 hz2 rfl (by decide) _ _ _ rfl (hown3.alloc _) ⟨_, 0, none⟩ 1 1 (Nd.row { x with kids := (k : Int) }) rfl rfl ?d1 ?d2 ?d3 ?d4 ?d5 ?_)
      case d1 =>
        have := Qed (wr.setCell ⟨w.heap.size, 3, none⟩ (.int .i64 (k : Int))) { x with kids := (k : Int) }
        rw [size_setCell] at this
        exact this
      case d2 => exact Qgm _
      case d3 => unfold maxLen; omega
      case d4 => omega
      case d5 => have := hb.size; have := HS1.out; simp; omega
      intro v' w1 hown' hgrow _
      have H2 := HoldsJ.push hown' (by rw [List.length_flatten])
      have hb2 : Below w.heap.size w wr := HB1.trans (hb.mono HB1.size)
      have hbb : Below w.heap.size w w1 := ((hb2.setCell (p := ⟨w.heap.size, 3, none⟩) (Nat.le_refl _) (.int .i64 (k : Int))).alloc (by rw [size_setCell]; exact hb2.size) _).grown hgrow (by have := hb2.size; simp; omega) (fun q hq => by have := HoldsJ.block hown q hq; omega)
      clear hown hown' hgrow hb hown3 g0 g1 g2 g3 g4
      go_wp2
      go_ret
      exact ⟨_, rfl, H2.mono (Nat.le_succ _), hbb⟩
end Go.Proofs.YtoiiibplkhedcaaGreatDoor

namespace Go.Proofs.YtoiiibplkhedcaaGreatDoor
open Go.RowKit
def NumD (zs : List Nd) : Prop := ∀ z ∈ zs, 0 ≤ z.num ∧ z.num ≤ 1000
theorem NumD.append {xs ys : List Nd} (h : NumD xs) (h' : NumD ys) : NumD (xs ++ ys) := by
  intro z hz
  rcases List.mem_append.1 hz with hz | hz
  · exact h z hz
  · exact h' z hz
theorem NumD.one {n : Nd} (h0 : 0 ≤ n.num) (h1 : n.num ≤ 1000) : NumD [n] := by
  intro z hz
  simp at hz
  subst hz
  exact ⟨h0, h1⟩
theorem NumD.flatten {kss : List (List Nd)} (h : ∀ ks ∈ kss, NumD ks) : NumD kss.flatten := by
  intro z hz
  obtain ⟨ks, hk, hz⟩ := List.mem_flatten.1 hz
  exact h ks hk z hz
def Qaj : Nat → Nat
  | 0 => 3
  | d + 1 => 3 + 2 * Qaj d
def maxT : Nat → Nat
  | 0 => 1
  | d + 1 => 1 + 2 * maxT d
theorem Qaw (d : Nat) : 3 ≤ Qaj d := by
  cases d <;> simp [Qaj]
theorem Qcx (d : Nat) : 1 ≤ maxT d := by
  cases d <;> simp [maxT]
def Jay (w : World) (d p : Nat) (e : Ending) (w' : World) : Prop := ∃ (g c l p' : Nat) (zs : List Nd), e = .returned (.tuple #[.slice (some ⟨g, 0, none⟩) l c, .int .i64 (p' : Int)]) ∧ zs.length = l ∧ 0 < l ∧ l ≤ maxT d ∧ w.heap.size ≤ g ∧ OwnN w' w.heap.size g c l zs ∧ NumD zs ∧ p' ≤ p + Qaj d ∧ Below w.heap.size w w' ∧ One zs
theorem Jae (n : Nd) (h : n.kids = 0) : One [n] := One.join (A := []) (by simp) (by simp [h])
theorem OwnN.base {w : World} {B B' g c l : Nat} {zs : List Nd} (h : OwnN w B g c l zs) (hb : B' ≤ B) : OwnN w B' g c l zs := by
  obtain ⟨h1, h2, h3⟩ := h
  refine ⟨h1, h2, ?_⟩
  rcases h3 with h3 | ⟨g', cap, cur, e, h4, h5⟩
  · exact Or.inl h3
  · exact Or.inr ⟨g', cap, cur, e, by omega, h5⟩
set_option maxHeartbeats 400000 in
theorem Qbp (k v : Int) (w : World) :
    Calls Tryz.prog 33 #[.int .i64 k, .int .i64 v] w fun e w' => e = .returned (.slice (some ⟨w.heap.size, 0, none⟩) 1 1) ∧ OwnN w' w.heap.size w.heap.size 1 1 [⟨k, v, ByteArray.empty, 0, 0⟩] ∧ Below w.heap.size w w' := by
  have h := OwnN.one (w := w) (B := w.heap.size) (Nat.le_refl _) ⟨k, v, ByteArray.empty, 0, 0⟩
  go_enter Tryz.func33, Tryz.ntmps33
  go_wp2
  go_ret
  exact ⟨rfl, h, (Below.refl _ _).alloc (Nat.le_refl _) _⟩
set_option maxHeartbeats 400000 in
theorem Jau (s : ByteArray) (ao : Option Addr) (cap : Nat) (w : World) :
    Calls Tryz.prog 34 #[.string s, .slice ao 0 cap] w fun e w' => ∃ g c, e = .returned (.slice (some ⟨g, 0, none⟩) 1 c) ∧ w.heap.size ≤ g ∧ OwnN w' w.heap.size g c 1 [⟨12, 0, s, 0, 0⟩] ∧ Below w.heap.size w w' := by
  have HJ := Qam ⟨12, 0, s, 0, 0⟩ [] 0 rfl ao cap w (fun i hi => by simp at hi) (by simp [total]) (by omega)
  go_enter Tryz.func34, Tryz.ntmps34
  go_wp2_with fail
  refine HJ.mono ?_
  rintro e w1 ⟨v, rfl, hH, hb⟩
  obtain ⟨g, c, rfl, hg, _⟩ := hH.row (by simp)
  have hO : OwnN w1 w.heap.size g c 1 [⟨12, 0, s, 0, 0⟩] := ⟨rfl, by simpa [HoldsJ] using hH⟩
  clear HJ hH
  go_wp2
  go_ret
  exact ⟨g, c, rfl, hg, hO, hb⟩
theorem Tryz.infoV : (Tryz.prog.info? 23).map (fun i => (i.zero, i.size, i.bytes)) = some (some (.slice none 0 0), 1, 24) := by kernel_rfl
theorem Qeb (T : Nat) (w : World) (v : Value) : ∀ j u, [v][j]? = some u → (w.alloc (.cells #[v] T)).cell? (Addr.add ⟨w.heap.size, 0, none⟩ j) = some u := by
  intro j u hj
  match j, hj with
  | 0, hj =>
    simp at hj
    subst hj
    have ad : Addr.add ⟨w.heap.size, 0, none⟩ 0 = ⟨w.heap.size, 0, none⟩ := by unfold Addr.add; simp
    rw [ad, cell_of_row _ w.heap.size 0 _ T (0, 0) (heap_alloc_new _ _)]
    rfl
theorem Qdv (ao : Option Addr) (l c : Nat) : ∀ u ∈ [Value.slice ao l c], u.oneCell' = true := by
  intro u hu
  simp at hu
  subst hu
  rfl
structure Kds (w : World) (B g c i : Nat) (kss : List (List Nd)) (vs : List Value) : Prop where
  own : w.ownsRow B 23 1 (.slice (some ⟨g, 0, none⟩) i c) i vs
  len : kss.length = i
  rows : ∀ j (h : j < kss.length), ∃ gj cj, vs[j]? = some (.slice (some ⟨gj, 0, none⟩) kss[j].length cj) ∧ Row w gj kss[j]
theorem Kds.empty {w : World} {B : Nat} (hB : B ≤ w.heap.size) : Kds (w.alloc (.cells #[] 23)) B w.heap.size 0 0 [] [] :=
  ⟨⟨rfl, Or.inr ⟨_, 0, #[], rfl, hB, heap_alloc_new _ _, Nat.le_refl _, by simp [maxLen], rfl, rfl⟩⟩, rfl, fun j h => by simp at h⟩
theorem Kds.block {w : World} {B g c i : Nat} {kss : List (List Nd)} {vs : List Value} (h : Kds w B g c i kss vs) : B ≤ g ∧ g < w.heap.size := owns_block h.own
theorem Kds.ne {w : World} {B g c i gj : Nat} {kss : List (List Nd)} {vs : List Value} {ks : List Nd} (h : Kds w B g c i kss vs) (hr : Row w gj ks) : gj ≠ g := by
  intro e
  subst e
  obtain ⟨_, h9⟩ := h.own
  rcases h9 with ⟨h0, _⟩ | ⟨g2, cap2, cur, he, _, hh, _⟩
  · cases h0
  · simp only [Value.slice.injEq, Option.some.injEq, Addr.mk.injEq, and_true, true_and] at he
    obtain ⟨rfl, rfl⟩ := he
    obtain ⟨cur', rest, hc, _⟩ := hr
    rw [hh] at hc
    simp at hc
theorem Kds.below {w w' : World} {B g c i : Nat} {kss : List (List Nd)} {vs : List Value} (h : Kds w B g c i kss vs) (hb : Below w.heap.size w w') : Kds w' B g c i kss vs :=
  ⟨owns_but (S := fun _ => False) h.own (But.ofBelow hb) (fun h => h), h.len, fun j hj => by
    obtain ⟨gj, cj, e, hr⟩ := h.rows j hj
    exact ⟨gj, cj, e, hr.below hb⟩⟩
theorem Kds.lists {w : World} {B g c i : Nat} {kss : List (List Nd)} {vs : List Value} (h : Kds w B g c i kss vs) : Lists w (some ⟨g, 0, none⟩) kss := by
  intro j hj
  obtain ⟨gj, cj, e, hr⟩ := h.rows j hj
  have hl := h.len
  refine ⟨g, 0, some ⟨gj, 0, none⟩, cj, rfl, ?_, hr.nodes⟩
  rw [Nat.zero_add]
  have h9 := owns_at h.own j (by omega)
  rw [h9]
  exact e
theorem Kds.push {w w' : World} {B g c i g2 c2 gn cn : Nat} {kss : List (List Nd)} {vs : List Value} {ks : List Nd} (h : Kds w B g c i kss vs) (hg : w.grownBy w' (some g)) (hr : Row w gn ks)
    (ho : w'.ownsRow B 23 1 (.slice (some ⟨g2, 0, none⟩) (i + 1) c2) (i + 1) (vs ++ [.slice (some ⟨gn, 0, none⟩) ks.length cn])) : Kds w' B g2 c2 (i + 1) (kss ++ [ks]) (vs ++ [.slice (some ⟨gn, 0, none⟩) ks.length cn]) := by
  have hvl : vs.length = i := by have := h.own.1; omega
  have hl := h.len
  have kept : ∀ {q : Nat} {zs : List Nd}, Row w q zs → Row w' q zs := fun {q zs} hq => by
    have hne := h.ne hq
    have hlt := hq.lt
    obtain ⟨cur, rest, hc, he⟩ := hq
    exact ⟨cur, rest, (hg.block q hlt (by simpa using hne)).trans hc, he⟩
  refine ⟨ho, by simp [hl], ?_⟩
  intro j hj
  by_cases hji : j < kss.length
  · obtain ⟨gj, cj, e, hr'⟩ := h.rows j hji
    refine ⟨gj, cj, ?_, ?_⟩
    · rw [List.getElem?_append_left (by omega), List.getElem_append_left hji]
      exact e
    · rw [List.getElem_append_left hji]
      exact kept hr'
  · have hje : j = kss.length := by simp at hj; omega
    subst hje
    refine ⟨gn, cn, ?_, ?_⟩
    · rw [List.getElem?_append_right (by omega)]
      simp [hvl, hl]
    · simp only [List.getElem_append_right (Nat.le_refl _), Nat.sub_self, List.getElem_cons_zero]
      exact kept hr
theorem NodeAt.below9 {w w' : World} {b o : Nat} {n : Nd} (h : NodeAt w b o n) (hb : Below w.heap.size w w') : NodeAt w' b o n := by
  have hl : b < w.heap.size := lt_of_cell h.1
  obtain ⟨c0, c1, c2, c3, c4⟩ := h
  exact ⟨(bcell hb _ _ hl).trans c0, (bcell hb _ _ hl).trans c1, (bcell hb _ _ hl).trans c2, (bcell hb _ _ hl).trans c3, (bcell hb _ _ hl).trans c4⟩
theorem Qbn (w : World) (k : Int) (tx : ByteArray) : NodeAt (w.alloc (.cells #[.int .i64 k, .int .i64 0, .string tx, .int .i64 0, .int .i64 0] 43)) w.heap.size 0 ⟨k, 0, tx, 0, 0⟩ := by
  refine ⟨?_, ?_, ?_, ?_, ?_⟩
  all_goals
    rw [cell_of_row _ w.heap.size _ _ 43 (0, 0) (heap_alloc_new w _)]
    rfl
theorem Qgc {w w' : World} {g k o : Nat} (hg : w.grownBy w' (some k)) (hl : g < w.heap.size) (hne : g ≠ k) : w'.cell? ⟨g, o, none⟩ = w.cell? ⟨g, o, none⟩ := by
  have h := hg.block g hl (by simpa using hne)
  unfold World.cell?
  rw [h]
theorem Qcb (kss : List (List Nd)) : total kss = kss.flatten.length := by
  induction kss with
  | nil => rfl
  | cons k ks ih => simp only [total, List.map_cons, List.sum_cons, List.flatten_cons, List.length_append] at ih ⊢; omega
theorem Qfh {kss : List (List Nd)} {M : Nat} (h : ∀ ks ∈ kss, ks.length ≤ M) : kss.flatten.length ≤ kss.length * M := by
  induction kss with
  | nil => simp
  | cons k ks ih =>
    have h1 := h k (List.mem_cons_self ..)
    have h2 := ih (fun x hx => h x (List.mem_cons_of_mem _ hx))
    simp only [List.flatten_cons, List.length_append, List.length_cons, Nat.add_mul]
    omega
set_option maxRecDepth 100000 in
set_option maxHeartbeats 4000000 in
theorem Qbq (n : Nat) (hn : n ≤ 1048576) (ao : Option Addr) (cap : Nat) (metas : Nat) (hm0 : 1 ≤ metas) (hm1 : metas ≤ 16) (d : Nat) (hd5 : d ≤ 5)
    (IH : ∀ d', d' + 1 = d → ∀ (p : Nat) (w : World), Code w ao n → p + Qaj d' ≤ 1000 → Calls Tryz.prog 13 #[.slice ao n cap, .int .i64 (p : Int), .int .i64 (d' : Int), .int .i64 (metas : Int)] w fun e w' => Jay w d' p e w')
    (p : Nat) (w : World) (hc : Code w ao n) (hp : p + Qaj d ≤ 1000) :
    Calls Tryz.prog 13 #[.slice ao n cap, .int .i64 (p : Int), .int .i64 (d : Int), .int .i64 (metas : Int)] w fun e w' => Jay w d p e w' := by
  have hs3 := Qaw d
  obtain ⟨i1, hj1, hy0, hy1, hy2⟩ := info_parts Tryz.infoV
  go_enter Tryz.func13, Tryz.ntmps13
  go_wp2_with fail
  refine (Qat n hn ao cap w hc p 12 (by omega) (by omega) (by omega)).mono ?_
  rintro e w1 ⟨⟨a, ha, rfl⟩, hb1⟩
  go_wp2_with fail
  refine (Qat n hn ao cap w1 (hc.below hb1) (p + 1) 16 (by omega) (by omega) (by omega)).mono ?_
  rintro e w2 ⟨⟨b, hb, rfl⟩, hb2⟩
  have hbb := Below.step hb1 hb2
  clear hb1 hb2
  by_cases hd0 : d = 0
  · subst hd0
    clear IH hc
    by_cases h3 : a % 3 = 0
    · have h3i : ((a : Int) % 3) = 0 := by omega
      obtain ⟨v, hv, hv0, hv1⟩ : ∃ v : Int, (b : Int) % (metas : Int) = v ∧ 0 ≤ v ∧ v < 16 := by
        obtain ⟨q0, q1⟩ := Qce (x := (b : Int)) (k := metas) (by omega) hm0
        exact ⟨_, rfl, q0, by omega⟩
      have hmt : decide ((metas : Int) > 0) = true := decide_eq_true (by omega)
      go_wp2_with fail
      refine (Qbp 61 _ w2).mono ?_
      rintro e w3 ⟨rfl, hr, hb3⟩
      have hg := hbb.size
      have hb4 := Below.step hbb hb3
      clear hbb hb3
      go_wp2
      go_ret2
      exact ⟨w2.heap.size, 1, 1, p + 1 + 1, _, by simp, rfl, by omega, Qcx _, hg, hr.base hg, NumD.one (by simp; omega) (by simp; omega), by have := Qaw (0); omega, hb4, Jae _ rfl⟩
    · have h3i : ¬ ((a : Int) % 3) = 0 := by omega
      by_cases h4 : a = 4
      · subst h4
        go_wp2_with fail
        refine (Qbp 60 _ w2).mono ?_
        rintro e w3 ⟨rfl, hr, hb3⟩
        have hg := hbb.size
        have hb4 := Below.step hbb hb3
        clear hbb hb3
        go_wp2
        go_ret2
        exact ⟨w2.heap.size, 1, 1, p + 1 + 1, _, by simp, rfl, by omega, Qcx _, hg, hr.base hg, NumD.one (by simp; omega) (by simp; omega), by have := Qaw (0); omega, hb4, Jae _ rfl⟩
      · have h4i : ((a : Int) == 4) = false := by simp; omega
        rcases Nat.mod_two_eq_zero_or_one b with h2 | h2
        all_goals
          have h2i : ((b : Int) % 2) = ((b % 2 : Nat) : Int) := by omega
          rw [h2] at h2i
          go_wp2_with fail
          refine (Jau _ _ _ _).mono ?_
          rintro e w3 ⟨g, c, rfl, hg, hr, hb3⟩
          have hg2 := hbb.size
          have hb4 := Below.step ((hbb.alloc hbb.size _).alloc (hbb.alloc hbb.size _).size _) hb3
          have hg3 : w.heap.size ≤ g := by simp at hg; omega
          have hg4 : w.heap.size ≤ w2.heap.size + 1 + 1 := by omega
          clear hbb hb3 hg hg2
          go_wp2
          go_ret2
          exact ⟨g, c, 1, p + 1 + 1, _, by simp, rfl, by omega, Qcx _, hg3, hr.base (by simp; omega), NumD.one (by simp) (by simp), by have := Qaw (0); omega, hb4, Jae _ rfl⟩
  · have hdi : decide ((d : Int) ≤ 0) = false := decide_eq_false (by omega)
    by_cases ha6 : a < 6
    · have ha6i : decide ((a : Int) < 6) = true := decide_eq_true (by omega)
      clear IH hc
      by_cases h3 : a % 3 = 0
      · have h3i : ((a : Int) % 3) = 0 := by omega
        obtain ⟨v, hv, hv0, hv1⟩ : ∃ v : Int, (b : Int) % (metas : Int) = v ∧ 0 ≤ v ∧ v < 16 := by
          obtain ⟨q0, q1⟩ := Qce (x := (b : Int)) (k := metas) (by omega) hm0
          exact ⟨_, rfl, q0, by omega⟩
        have hmt : decide ((metas : Int) > 0) = true := decide_eq_true (by omega)
        go_wp2_with fail
        refine (Qbp 61 _ w2).mono ?_
        rintro e w3 ⟨rfl, hr, hb3⟩
        have hg := hbb.size
        have hb4 := Below.step hbb hb3
        clear hbb hb3
        go_wp2
        go_ret2
        exact ⟨w2.heap.size, 1, 1, p + 1 + 1, _, by simp, rfl, by omega, Qcx _, hg, hr.base hg, NumD.one (by simp; omega) (by simp; omega), by have := Qaw (d); omega, hb4, Jae _ rfl⟩
      · have h3i : ¬ ((a : Int) % 3) = 0 := by omega
        by_cases h4 : a = 4
        · subst h4
          go_wp2_with fail
          refine (Qbp 60 _ w2).mono ?_
          rintro e w3 ⟨rfl, hr, hb3⟩
          have hg := hbb.size
          have hb4 := Below.step hbb hb3
          clear hbb hb3
          go_wp2
          go_ret2
          exact ⟨w2.heap.size, 1, 1, p + 1 + 1, _, by simp, rfl, by omega, Qcx _, hg, hr.base hg, NumD.one (by simp; omega) (by simp; omega), by have := Qaw (d); omega, hb4, Jae _ rfl⟩
        · have h4i : ((a : Int) == 4) = false := by simp; omega
          rcases Nat.mod_two_eq_zero_or_one b with h2 | h2
          all_goals
            have h2i : ((b : Int) % 2) = ((b % 2 : Nat) : Int) := by omega
            rw [h2] at h2i
            go_wp2_with fail
            refine (Jau _ _ _ _).mono ?_
            rintro e w3 ⟨g, c, rfl, hg, hr, hb3⟩
            have hg2 := hbb.size
            have hb4 := Below.step ((hbb.alloc hbb.size _).alloc (hbb.alloc hbb.size _).size _) hb3
            have hg3 : w.heap.size ≤ g := by simp at hg; omega
            have hg4 : w.heap.size ≤ w2.heap.size + 1 + 1 := by omega
            clear hbb hb3 hg hg2
            go_wp2
            go_ret2
            exact ⟨g, c, 1, p + 1 + 1, _, by simp, rfl, by omega, Qcx _, hg3, hr.base (by simp; omega), NumD.one (by simp) (by simp), by have := Qaw (d); omega, hb4, Jae _ rfl⟩
    · have ha6i : decide ((a : Int) < 6) = false := decide_eq_false (by omega)
      obtain ⟨d, rfl⟩ : ∃ d', d = d' + 1 := ⟨d - 1, by omega⟩
      have hIH := IH d rfl
      have hmx : maxT (d + 1) = 1 + 2 * maxT d := rfl
      have hst : Qaj (d + 1) = 3 + 2 * Qaj d := rfl
      go_wp2_with fail
      refine (Qat n hn ao cap w2 (hc.below hbb) (p + 1 + 1) 3 (by omega) (by omega) (by omega)).mono ?_
      rintro e w3 ⟨⟨k0, hk0, rfl⟩, hb3⟩
      have hb4 := Below.step hbb hb3
      clear hbb hb3
      go_upto_if 72 with fail
      go_cut [12] from 18 (fun v wx => ∃ (kd : Int) (tx : ByteArray) (k : Nat), v = .int .i64 (k : Int) ∧ k ≤ 2 ∧ NodeAt wx w3.heap.size 0 ⟨kd, 0, tx, 0, 0⟩ ∧ Below w.heap.size w wx)
      case first =>
        have hcs : (a < 9 ∨ a = 9 ∧ k0 = 1) ∨ a = 9 ∧ k0 ≠ 1 ∨ 10 ≤ a ∧ b % 2 = 0 ∨ 10 ≤ a ∧ b % 2 = 1 := by omega
        clear hIH IH hc
        have hbA := hb4.alloc hb4.size (.cells #[.int .i64 13, .int .i64 0, .string ⟨#[]⟩, .int .i64 0, .int .i64 0] 43)
        rcases hcs with (h9 | ⟨h9, h1⟩) | ⟨h9, h1⟩ | ⟨h9, h1⟩ | ⟨h9, h1⟩
        · have h9i : decide ((a : Int) < 9) = true := decide_eq_true (by omega)
          go_wp2
          go_meet
          case rel =>
            exact ⟨13, ⟨#[]⟩, 2, rfl, by omega, Qbn w3 13 ⟨#[]⟩, hb4.alloc hb4.size _⟩
        · subst h9 h1
          go_wp2
          go_meet
          case rel =>
            exact ⟨14, ⟨#[]⟩, 2, rfl, by omega, Qbn w3 14 ⟨#[]⟩, hb4.alloc hb4.size _⟩
        · subst h9
          have h1i : ((k0 : Int) == 1) = false := by simp; omega
          go_wp2
          go_meet
          case rel =>
            exact ⟨14, ⟨#[]⟩, k0, rfl, by omega, Qbn w3 14 ⟨#[]⟩, hb4.alloc hb4.size _⟩
        · have h9i : decide ((a : Int) < 9) = false := decide_eq_false (by omega)
          have h10i : ((a : Int) == 9) = false := by simp; omega
          have h2i : ((b : Int) % 2) = 0 := by omega
          go_wp2
          go_meet
          case rel =>
            exact ⟨12, ⟨#[108, 105, 115, 116]⟩, k0, rfl, by omega, (Qbn w3 12 ⟨#[108, 105, 115, 116]⟩).below9 ((Below.refl _ _).alloc (Nat.le_refl _) _), (hb4.alloc hb4.size _).alloc (hb4.alloc hb4.size _).size _⟩
        · have h9i : decide ((a : Int) < 9) = false := decide_eq_false (by omega)
          have h10i : ((a : Int) == 9) = false := by simp; omega
          have h2i : ((b : Int) % 2) = 1 := by omega
          go_wp2
          go_meet
          case rel =>
            exact ⟨12, ⟨#[116]⟩, k0, rfl, by omega, (Qbn w3 12 ⟨#[116]⟩).below9 ((Below.refl _ _).alloc (Nat.le_refl _) _), (hb4.alloc hb4.size _).alloc (hb4.alloc hb4.size _).size _⟩
      case rest =>
        obtain ⟨kd, tx, k, rfl, hk2, hroot9, hb49⟩ := hcut
        have hw39 : w3.heap.size < wc.heap.size := lt_of_cell hroot9.1
        have hbc : Below wc.heap.size wc (wc.alloc (.cells #[] 23)) := (Below.refl _ _).alloc (Nat.le_refl _) _
        have hroot0 := hroot9.below9 hbc
        have hb5 : Below w.heap.size w (wc.alloc (.cells #[] 23)) := hb49.alloc hb49.size _
        have hK0 := Kds.empty (w := wc) (B := w.heap.size) hb49.size
        clear hroot9 hb49 hbc hb4
        go_wp2
        go_loopw [1, 14, 15] (fun pv kv iv wr => ∃ (i q g c : Nat) (kss : List (List Nd)) (vs : List Value), i ≤ k ∧ iv = .int .i64 (i : Int) ∧ pv = .int .i64 (q : Int) ∧ kv = .slice (some ⟨g, 0, none⟩) i c ∧ Kds wr w.heap.size g c i kss vs ∧ Hid (∀ ks ∈ kss, NumD ks ∧ ks.length ≤ maxT d ∧ One ks) ∧ q ≤ p + 3 + i * Qaj d ∧ Below w.heap.size w wr ∧ NodeAt wr w3.heap.size 0 ⟨kd, 0, tx, 0, 0⟩ ∧ w3.heap.size ≠ g) (fun _ _ iv _ => k - (intOf iv).toNat)
        case atStart => exact ⟨0, p + 1 + 1 + 1, wc.heap.size, 0, [], [], Nat.zero_le _, rfl, by simp, rfl, hK0, fun ks hk => by simp at hk, by omega, hb5, hroot0, by omega⟩
        case round =>
          clear hroot0 hb5 hK0
          obtain ⟨i, q, g, c, kss, vs, hi, rfl, rfl, rfl, hK, HK, hq, hb6, hroot, hne⟩ := hrel
          have hw3 : w3.heap.size < wr.heap.size := lt_of_cell hroot.1
          by_cases hlt : i < k
          · have hq9 : q + Qaj d ≤ 1000 := by
              have h8 : i * Qaj d ≤ 1 * Qaj d := Nat.mul_le_mul_right _ (by omega)
              omega
            have HD := hIH q wr (hc.below hb6) hq9
            clear hIH IH
            go_wp2_with fail
            refine HD.mono ?_
            rintro e w7 ⟨gn, cn, ln, pn, ks, rfl, hln, _, hlm, hgn, hon, hnn, hpn, hb7, hon9⟩
            have hrn := hon.row.2
            clear hon
            have hK7 := hK.below hb7
            have hbw7 := Below.step hb6 hb7
            have hs7 := hb7.size
            have hKb := hK7.block
            have hroot7 : NodeAt w7 w3.heap.size 0 ⟨kd, 0, tx, 0, 0⟩ := by
              obtain ⟨c0, c1, c2, c3, c4⟩ := hroot
              exact ⟨(bcell hb7 _ _ hw3).trans c0, (bcell hb7 _ _ hw3).trans c1, (bcell hb7 _ _ hw3).trans c2, (bcell hb7 _ _ hw3).trans c3, (bcell hb7 _ _ hw3).trans c4⟩
            have HLN : Hid (ks.length = ln) := hln
            have hone := Qeb 23 w7 (.slice (some ⟨gn, 0, none⟩) ln cn)
            have hK8 := hK7.below ((Below.refl _ w7).alloc (Nat.le_refl _) (.cells #[.slice (some ⟨gn, 0, none⟩) ln cn] 23))
            have hr8 := hrn.below ((Below.refl _ w7).alloc (Nat.le_refl _) (.cells #[.slice (some ⟨gn, 0, none⟩) ln cn] 23))
            clear HD hK hb6 hb7 hln hroot
            go_wp2_with (at_builtin; refine wpList_append2 _ rfl (.tmp 100) (.tmp 102) 72 rfl w.heap.size 23 i1 _ 1 24 Tryz.underlying72 hj1 hy0 hy1 hy2 rfl (by decide) g i c _ rfl hK8.own ⟨_, 0, none⟩ 1 1 [.slice (some ⟨gn, 0, none⟩) ln cn] rfl rfl hone (Qdv _ _ _) ?b3 ?b4 ?b5 ?_)
            case b3 => unfold maxLen; omega
            case b4 => omega
            case b5 => have := hbw7.size; simp; omega
            intro g2 c2 w8 hown8 hgrow8 hwh8
            have hK9 := hK8.push (cn := cn) hgrow8 hr8 (by rw [HLN.out]; exact hown8)
            have hb8 : Below w.heap.size w w8 := (hbw7.alloc hbw7.size _).grown hgrow8 (hbw7.alloc hbw7.size _).size (fun j hj => by cases hj; exact hKb.1)
            have hne8 : w3.heap.size ≠ g := hne
            have hroot8 : NodeAt w8 w3.heap.size 0 ⟨kd, 0, tx, 0, 0⟩ := by
              have hA8 : ∀ o, w8.cell? ⟨w3.heap.size, o, none⟩ = w7.cell? ⟨w3.heap.size, o, none⟩ := fun o => by
                rw [Qgc hgrow8 (by simp; omega) hne8]
                exact bcell ((Below.refl _ w7).alloc (Nat.le_refl _) _) _ _ (by omega)
              obtain ⟨c0, c1, c2, c3, c4⟩ := hroot7
              exact ⟨(hA8 _).trans c0, (hA8 _).trans c1, (hA8 _).trans c2, (hA8 _).trans c3, (hA8 _).trans c4⟩
            have HK9 : Hid (∀ k ∈ kss ++ [ks], NumD k ∧ k.length ≤ maxT d ∧ One k) := by
              intro k hk
              rcases List.mem_append.1 hk with hk | hk
              · exact HK.out k hk
              · simp at hk
                subst hk
                exact ⟨hnn, by rw [HLN.out]; exact hlm, hon9⟩
            have hne9 : w3.heap.size ≠ g2 := by
              rcases hwh8 with h9 | h9
              · omega
              · omega
            have hq8 : pn ≤ p + 3 + (i + 1) * Qaj d := by rw [Nat.add_mul]; omega
            clear hown8 hgrow8 hwh8 hK8 hr8 hone hrn hK7 hbw7 hroot7 hnn hon9
            go_wp2
            go_roundw
            case rel => exact ⟨i + 1, pn, g2, c2, _, _, by omega, by go_num, rfl, rfl, hK9, HK9, hq8, hb8, hroot8, hne9⟩
            case measure => simp [intOf]; omega
          · have hik : i = k := by omega
            subst hik
            have hkl := hK.len
            have hfl := Qfh (M := maxT d) (fun ks hk => (HK.out ks hk).2.1)
            have hmd : maxT d ≤ 31 := by
              have hd4 : d = 0 ∨ d = 1 ∨ d = 2 ∨ d = 3 ∨ d = 4 := by omega
              rcases hd4 with rfl | rfl | rfl | rfl | rfl <;> simp [maxT]
            have hfl2 : kss.flatten.length ≤ 2 * maxT d := by
              have h8 : kss.length * maxT d ≤ 2 * maxT d := Nat.mul_le_mul_right _ (by omega)
              omega
            have HJ := Qam ⟨kd, 0, tx, 0, 0⟩ kss i hkl (some ⟨g, 0, none⟩) c wr hK.lists (by rw [Qcb]; omega) (by omega)
            simp only at HJ
            have HNK : Hid (NumD (kss.flatten ++ [⟨kd, 0, tx, (i : Int), 0⟩])) := (NumD.flatten (fun ks hk => (HK.out ks hk).1)).append (NumD.one (by simp) (by simp))
            have HON : Hid (One (kss.flatten ++ [⟨kd, 0, tx, (i : Int), 0⟩])) := One.join (fun ks hk => (HK.out ks hk).2.2) (by simp [hkl])
            obtain ⟨c0, c1, c2, c3, c4⟩ := hroot
            simp only [Nat.zero_add] at c0 c1 c2 c3 c4
            have hs6 := hb6.size
            clear hK HK hIH IH hc
            go_wp2_with fail
            refine HJ.mono ?_
            rintro e w9 ⟨v, rfl, hH, hb9⟩
            obtain ⟨g9, c9, rfl, hg9, _⟩ := hH.row (by simp)
            have hO8 : OwnN w9 wr.heap.size g9 c9 (kss.flatten ++ [(⟨kd, 0, tx, (i : Int), 0⟩ : Nd)]).length (kss.flatten ++ [(⟨kd, 0, tx, (i : Int), 0⟩ : Nd)]) := ⟨rfl, hH⟩
            have hO9 := hO8.base hs6
            have hbf := Below.step hb6 hb9
            clear HJ hH hb6 hb9 c0 c1 c2 c3 c4
            go_wp2
            go_ret2
            refine ⟨g9, c9, _, q, _, rfl, by simp, by simp, ?_, by omega, by simpa using hO9, HNK.out, ?_, hbf, HON.out⟩
            · have hsum : (kss.map List.length).sum = kss.flatten.length := List.length_flatten.symm
              rw [hsum]
              omega
            · have h8 : i * Qaj d ≤ 2 * Qaj d := Nat.mul_le_mul_right _ (by omega)
              omega
theorem Qbr (n : Nat) (hn : n ≤ 1048576) (ao : Option Addr) (cap : Nat) (metas : Nat) (hm0 : 1 ≤ metas) (hm1 : metas ≤ 16) (d : Nat) (hd5 : d ≤ 5) (p : Nat) (w : World) (hc : Code w ao n) (hp : p + Qaj d ≤ 1000) :
    Calls Tryz.prog 13 #[.slice ao n cap, .int .i64 (p : Int), .int .i64 (d : Int), .int .i64 (metas : Int)] w fun e w' => Jay w d p e w' := by
  induction d generalizing p w with
  | zero => exact Qbq n hn ao cap metas hm0 hm1 0 (by omega) (fun d' h => by omega) p w hc hp
  | succ d ih =>
    refine Qbq n hn ao cap metas hm0 hm1 (d + 1) hd5 (fun d' h p' w' hc' hp' => ?_) p w hc hp
    obtain rfl : d' = d := by omega
    exact ih (by omega) p' w' hc' hp'
end Go.Proofs.YtoiiibplkhedcaaGreatDoor

namespace Go.Proofs.YtoiiibplkhedcaaGreatDoor
open Go.RowKit
def Jcl (w : World) (L p : Nat) (e : Ending) (w' : World) : Prop := ∃ (g c l p' : Nat) (zs : List Nd), e = .returned (.tuple #[.slice (some ⟨g, 0, none⟩) l c, .int .i64 (p' : Int)]) ∧ zs.length = l ∧ 0 < l ∧ l ≤ L ∧ w.heap.size ≤ g ∧ OwnN w' w.heap.size g c l zs ∧ NumD zs ∧ p' ≤ p + 2 * L ∧ Below w.heap.size w w' ∧ One zs
set_option maxRecDepth 100000 in
set_option maxHeartbeats 4000000 in
theorem Jba (n : Nat) (hn : n ≤ 1048576) (ao : Option Addr) (cap : Nat) (metas : Nat) (hm0 : 1 ≤ metas) (hm1 : metas ≤ 16) (t : List Nd) (S ys : List Sp) (m : Nat) (HL : Hid (t.length = m)) (hm : m ≤ 100) (HR : Hid (after t m = some (S, ys))) (HN : Hid (NumD t)) :
    ∀ (i : Nat) (si : Sp) (p gb cb gz cz Bz : Nat) (w : World), i < m → Hid (ys[i]? = some si) → Code w ao n → Row w gb t → Ints w Bz gz cz m (ys.map szOf) → p + 2 * (span t si.fr i).length ≤ 1000 →
      Calls Tryz.prog 14 #[.slice ao n cap, .int .i64 (p : Int), .slice (some ⟨gb, 0, none⟩) m cb, .slice (some ⟨gz, 0, none⟩) m cz, .int .i64 (i : Int), .int .i64 (metas : Int)] w fun e w' => Jcl w (span t si.fr i).length p e w' := by
  intro i
  induction i using Nat.strongRecOn with
  | ind i ih =>
    intro si p gb cb gz cz Bz w hi HSI hc hG hgz hp
    have hit : i < t.length := by have := HL.out; omega
    obtain ⟨K, hK, hsp, hO⟩ := span_kids HR.out hi HSI.out hit
    obtain ⟨L, hL⟩ : ∃ L, (span t si.fr i).length = L := ⟨_, rfl⟩
    have hLk : L = (kidsIn t K).flatten.length + 1 := by rw [← hL, hsp]; simp
    rw [hL] at hp ⊢
    have HIH := ih
    have HK : Hid (KidsAt t ys i K) := hK
    have HYL : Hid (ys.length = m) := (after_fine HR.out).len
    obtain ⟨x, hx⟩ : ∃ x, t[i] = x := ⟨_, rfl⟩
    have hxi := hG.node i hit
    rw [hx] at hxi
    have HX : Hid (t[i] = x) := hx
    have hnx := HN.out x (by rw [← hx]; exact List.getElem_mem hit)
    have HKN : Hid (x.kids = (K.length : Int)) := by
      obtain ⟨_, h9⟩ := hK.num
      rw [hx] at h9
      exact h9
    obtain ⟨nk, hnk⟩ : ∃ nk, K.length = nk := ⟨_, rfl⟩
    have HNK : Hid (K.length = nk) := hnk
    have hnk1 : nk ≤ 100 := by have := hK.len; omega
    have HFL : Hid (L = (kidsIn t K).flatten.length + 1) := hLk
    have hL1 : 1 ≤ L := by omega
    clear ih hK hsp hO hnk hx hLk hL HSI
    obtain ⟨i1, hj1, hy0, hy1, hy2⟩ := info_parts Tryz.infoV
    go_enter Tryz.func14, Tryz.ntmps14
    go_wp2_with fail
    refine (Qat n hn ao cap w hc p 8 (by omega) (by omega) (by omega)).mono ?_
    rintro e w1 ⟨⟨a, ha, rfl⟩, hb1⟩
    go_wp2_with fail
    refine (Qat n hn ao cap w1 (hc.below hb1) (p + 1) 16 (by omega) (by omega) (by omega)).mono ?_
    rintro e w2 ⟨⟨b, hb, rfl⟩, hb2⟩
    have hbb := Below.step hb1 hb2
    clear hb1 hb2
    by_cases ha2 : a < 2
    · have ha2i : decide ((a : Int) < 2) = true := decide_eq_true (by omega)
      obtain ⟨v, hv, hv0, hv1⟩ : ∃ v : Int, (b : Int) % (metas : Int) = v ∧ 0 ≤ v ∧ v < 16 := by
        obtain ⟨q0, q1⟩ := Qce (x := (b : Int)) (k := metas) (by omega) hm0
        exact ⟨_, rfl, q0, by omega⟩
      have hmz : ((metas : Int) == 0) = false := by simp; omega
      clear HIH hc hG hgz hxi
      go_wp2_with fail
      refine (Qbp 61 _ w2).mono ?_
      rintro e w3 ⟨rfl, hr, hb3⟩
      have hg := hbb.size
      have hb4 := Below.step hbb hb3
      clear hbb hb3
      go_wp2
      go_ret2
      exact ⟨w2.heap.size, 1, 1, p + 1 + 1, _, by simp, rfl, by omega, hL1, hg, hr.base hg, NumD.one (by simp; omega) (by simp; omega), by omega, hb4, Jae _ rfl⟩
    · have ha2i : decide ((a : Int) < 2) = false := decide_eq_false (by omega)
      have hG2 := hG.below hbb
      have hgz2 := hgz.below hbb
      have hc2 := hc.below hbb
      go_wp2_with fail
      refine (roots_any t ys K m i nk HL (by omega) HK HNK hi HYL _ cb gz cz Bz w2 hG2.nodes hgz2).mono ?_
      rintro e w3 ⟨Ga, rfl, hia, hb3⟩
      have hb4 := Below.step hbb hb3
      have hK0 := Kds.empty (w := w3) (B := w.heap.size) hb4.size
      have hbc : Below w3.heap.size w3 (w3.alloc (.cells #[] 23)) := (Below.refl _ _).alloc (Nat.le_refl _) _
      have hia0 := hia.below hbc
      have hb5 := Below.step hb4 hbc
      have hgal := hia.block
      have hz2 := hbb.size
      clear hbb hb3 hG2 hgz2 hc2 hia hbc
      go_wp2
      go_loopw [1, 17, 18] (fun pv kv iv wr => ∃ (k q g c : Nat) (kss : List (List Nd)) (vs : List Value), k ≤ nk ∧ iv = .int .i64 (k : Int) ∧ pv = .int .i64 (q : Int) ∧ kv = .slice (some ⟨g, 0, none⟩) k c ∧ Kds wr w.heap.size g c k kss vs ∧ Hid (∀ ks ∈ kss, NumD ks ∧ One ks) ∧ Hid (kss.flatten.length ≤ ((kidsIn t K).take k).flatten.length) ∧ Hid (q ≤ p + 2 + 2 * ((kidsIn t K).take k).flatten.length) ∧ Below w.heap.size w wr ∧ Ints wr w2.heap.size Ga nk nk (rts K) ∧ Ga ≠ g) (fun _ _ iv _ => nk - (intOf iv).toNat)
      case atStart => exact ⟨0, p + 1 + 1, w3.heap.size, 0, [], [], Nat.zero_le _, rfl, by simp, rfl, hK0, fun ks hk => by simp at hk, by simp [Hid], by simp [Hid], hb5, hia0, by omega⟩
      case round =>
        clear hK0 hb5 hia0
        obtain ⟨k, q, g, c, kss, vs, hk, rfl, rfl, rfl, hKd, HKS, HFK, HQ, hbr, hir, hne⟩ := hrel
        have hgar := hir.block
        by_cases hlt : k < nk
        · have hkK : k < K.length := by have := HNK.out; omega
          have hmem := HK.out.mem k hkK
          have ca := hir.at k (by rw [hir.1]; exact hlt)
          have ea : (rts K)[k]'(by rw [hir.1]; exact hlt) = ((K[k]).rt : Int) := by simp [rts]
          rw [ea] at ca
          obtain ⟨s, hs⟩ : ∃ s, K[k] = s := ⟨_, rfl⟩
          rw [hs] at ca hmem
          have htf : ((kidsIn t K).take (k + 1)).flatten.length = ((kidsIn t K).take k).flatten.length + (span t s.fr s.rt).length := by
            rw [take_flat _ k (by simpa [kidsIn] using hkK), kidsIn_get t K k hkK, hs, List.length_append]
          have hall : ((kidsIn t K).take (k + 1)).flatten.length ≤ (kidsIn t K).flatten.length := by
            have e9 : (kidsIn t K).flatten = ((kidsIn t K).take (k + 1)).flatten ++ ((kidsIn t K).drop (k + 1)).flatten := by rw [← List.flatten_append, List.take_append_drop]
            rw [e9, List.length_append]
            omega
          have hfl := HFL.out
          have hq9 := HQ.out
          obtain ⟨F, hF⟩ : ∃ F, ((kidsIn t K).take k).flatten.length = F := ⟨_, rfl⟩
          obtain ⟨F1, hF1⟩ : ∃ F1, ((kidsIn t K).take (k + 1)).flatten.length = F1 := ⟨_, rfl⟩
          obtain ⟨L1, hL1'⟩ : ∃ L1, (span t s.fr s.rt).length = L1 := ⟨_, rfl⟩
          have HF : Hid (((kidsIn t K).take k).flatten.length = F) := hF
          have HF1 : Hid (((kidsIn t K).take (k + 1)).flatten.length = F1) := hF1
          rw [hF] at hq9 htf
          rw [hF1, hL1'] at htf
          rw [hF1] at hall
          have HD := HIH s.rt hmem.2.2 s q gb cb gz cz Bz wr (by omega) hmem.1 (hc.below hbr) (hG.below hbr) (hgz.below hbr) (by rw [hL1']; omega)
          rw [hL1'] at HD
          have hsrt := hmem.2.2
          clear HIH hmem hs hF hF1 hL1' ea
          go_wp2_with fail
          refine HD.mono ?_
          rintro e w7 ⟨gn, cn, ln, pn, ks, rfl, hln, _, hlm, hgn, hon, hnn, hpn, hb7, hon9⟩
          have hrn := hon.row.2
          clear hon
          have hK7 := hKd.below hb7
          have hbw7 := Below.step hbr hb7
          have hs7 := hb7.size
          have hKb := hK7.block
          have hir7 := hir.below hb7
          have HLN : Hid (ks.length = ln) := hln
          have hone := Qeb 23 w7 (.slice (some ⟨gn, 0, none⟩) ln cn)
          have hB8 : Below w7.heap.size w7 (w7.alloc (.cells #[.slice (some ⟨gn, 0, none⟩) ln cn] 23)) := (Below.refl _ w7).alloc (Nat.le_refl _) _
          have hK8 := hK7.below hB8
          have hr8 := hrn.below hB8
          have hir8 := hir7.below hB8
          clear HD hKd hbr hb7 hln hir hir7 hB8
          go_wp2_with (at_builtin; refine wpList_append2 _ rfl (.tmp 66) (.tmp 68) 72 rfl w.heap.size 23 i1 _ 1 24 Tryz.underlying72 hj1 hy0 hy1 hy2 rfl (by decide) g k c _ rfl hK8.own ⟨_, 0, none⟩ 1 1 [.slice (some ⟨gn, 0, none⟩) ln cn] rfl rfl hone (Qdv _ _ _) ?b3 ?b4 ?b5 ?_)
          case b3 => unfold maxLen; omega
          case b4 => omega
          case b5 => have := hbw7.size; simp; omega
          intro g2 c2 w8 hown8 hgrow8 hwh8
          have hK9 := hK8.push (cn := cn) hgrow8 hr8 (by rw [HLN.out]; exact hown8)
          have hb8 : Below w.heap.size w w8 := (hbw7.alloc hbw7.size _).grown hgrow8 (hbw7.alloc hbw7.size _).size (fun j hj => by cases hj; exact hKb.1)
          have hir9 := hir8.kept hgrow8 hne
          have HK9 : Hid (∀ k ∈ kss ++ [ks], NumD k ∧ One k) := by
            intro k hk
            rcases List.mem_append.1 hk with hk | hk
            · exact HKS.out k hk
            · simp at hk
              subst hk
              exact ⟨hnn, hon9⟩
          have HFK9 : Hid ((kss ++ [ks]).flatten.length ≤ ((kidsIn t K).take (k + 1)).flatten.length) := by
            have h1 := HFK.out
            rw [HF.out] at h1
            have h2 := HLN.out
            rw [Hid, HF1.out, flatten_snoc, List.length_append]
            omega
          have HQ9 : Hid (pn ≤ p + 2 + 2 * ((kidsIn t K).take (k + 1)).flatten.length) := by
            rw [Hid, HF1.out]
            omega
          have hne9 : Ga ≠ g2 := by
            rcases hwh8 with h9 | h9
            · omega
            · omega
          clear hown8 hgrow8 hwh8 hK8 hr8 hone hrn hK7 hbw7 hnn hon9 hir8 HFK HQ HF HF1 HKS
          go_wp2
          go_roundw
          case rel => exact ⟨k + 1, pn, g2, c2, _, _, by omega, by go_num, rfl, rfl, hK9, HK9, HFK9, HQ9, hb8, hir9, hne9⟩
          case measure => simp [intOf]; omega
        · have hik : k = nk := by omega
          subst hik
          have hkl := hKd.len
          have hfl := HFK.out
          rw [List.take_of_length_le (by simp [kidsIn, HNK.out])] at hfl
          have hq9 := HQ.out
          rw [List.take_of_length_le (by simp [kidsIn, HNK.out])] at hq9
          have hFL := HFL.out
          have hL100 : L ≤ 500 := by omega
          obtain ⟨kd, nm, tx, kk, pl⟩ := x
          have HJ := Qam ⟨kd, nm, tx, kk, pl⟩ kss k hkl (some ⟨g, 0, none⟩) c wr hKd.lists (by rw [Qcb]; omega) (by omega)
          have HNKd : Hid (NumD (kss.flatten ++ [⟨kd, nm, tx, (k : Int), pl⟩])) := (NumD.flatten (fun ks hk => (HKS.out ks hk).1)).append (NumD.one hnx.1 hnx.2)
          have HON : Hid (One (kss.flatten ++ [⟨kd, nm, tx, (k : Int), pl⟩])) := One.join (fun ks hk => (HKS.out ks hk).2) (by simp [hkl])
          obtain ⟨c0, c1, c2, c3, c4⟩ := (hG.below hbr).node i hit
          have hgl : gb < wr.heap.size := lt_of_cell c0
          have hs6 := hbr.size
          have hxe : t[i] = ⟨kd, nm, tx, kk, pl⟩ := HX.out
          rw [hxe] at c0 c1 c2 c3 c4
          simp only at c0 c1 c2 c3 c4
          clear hKd HKS HIH hc hG hgz hxe HFK HQ hir
          go_wp2_with fail
          refine HJ.mono ?_
          rintro e w9 ⟨v, rfl, hH, hb9⟩
          obtain ⟨g9, c9, rfl, hg9, _⟩ := hH.row (by simp)
          have hO8 : OwnN w9 wr.heap.size g9 c9 (kss.flatten ++ [(⟨kd, nm, tx, (k : Int), pl⟩ : Nd)]).length (kss.flatten ++ [(⟨kd, nm, tx, (k : Int), pl⟩ : Nd)]) := ⟨rfl, hH⟩
          have hO9 := hO8.base hs6
          have hbf := Below.step hbr hb9
          clear HJ hH hbr hb9 c0 c1 c2 c3 c4
          go_wp2
          go_ret2
          refine ⟨g9, c9, _, q, _, rfl, by simp, by simp, ?_, by omega, by simpa using hO9, HNKd.out, by omega, hbf, HON.out⟩
          have hsum : (kss.map List.length).sum = kss.flatten.length := List.length_flatten.symm
          rw [hsum]
          omega
end Go.Proofs.YtoiiibplkhedcaaGreatDoor
