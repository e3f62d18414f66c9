import Derived.Test.YtahdmflbdmlfhaaGreatDoorProg
import Derived.Test.YtahdmflbdmlfhaaGreatDoorWAA
import Derived.Laws.BitsAllLaws
import Derived.Test.YtahdmflbdmlfhaaGreatDoorWAC
import Derived.Test.YtahdmflbdmlfhaaGreatDoorWAD
import Derived.Test.YtahdmflbdmlfhaaGreatDoorWBR
namespace Go.Proofs.YtahdmflbdmlfhaaGreatDoor

open Go.RowKit

/-- A slice of n bytes. -/
def Code (w : World) (ao : Option Addr) (n : Nat) : Prop :=
  ∀ i, i < n → ∃ b o v, ao = some ⟨b, o, none⟩ ∧ w.cell? ⟨b, o + i, none⟩ = some (.int .u8 ((v : Nat) : Int)) ∧ v < 256

theorem Code.below {w w' : World} {ao : Option Addr} {n : Nat} (h : Code w ao n) (hb : Below w.heap.size w w') : Code w' ao n := by
  intro i hi
  obtain ⟨b, o, v, e, hc, hv⟩ := h i hi
  exact ⟨b, o, v, e, (hb.cell (p := ⟨b, o + i, none⟩) (lt_of_cell hc)).trans hc, hv⟩

theorem i64_xor (a b : Nat) (ha : a < 4611686018427387904) (hb : b < 4611686018427387904) : bits .xor .i64 (a : Int) (b : Int) = ((a ^^^ b : Nat) : Int) := by
  show IntKind.i64.wrap ((BitVec.ofInt 64 (a : Int) ^^^ BitVec.ofInt 64 (b : Int)).toNat : Int) = _
  have hx : a ^^^ b < 2 ^ 62 := Nat.xor_lt_two_pow (by omega) (by omega)
  rw [BitVec.toNat_xor, ofInt_u64 a (by omega), ofInt_u64 b (by omega)]
  simp [IntKind.wrap, IntKind.bits, IntKind.signed]
  omega

theorem xor_rem {x y : Int} {k : Nat} (hx : 0 ≤ x) (hx2 : x < 4611686018427387904) (hy : 0 ≤ y) (hy2 : y < 4611686018427387904) (hk : 1 ≤ k) :
    0 ≤ (bits .xor .i64 x y).tmod (k : Int) ∧ (bits .xor .i64 x y).tmod (k : Int) < (k : Int) := by
  obtain ⟨a, rfl⟩ := Int.eq_ofNat_of_zero_le hx
  obtain ⟨b, rfl⟩ := Int.eq_ofNat_of_zero_le hy
  rw [i64_xor a b (by omega) (by omega)]
  exact ⟨Int.tmod_nonneg _ (by omega), Int.tmod_lt_of_pos _ (by omega)⟩

/-- What l1Take answers. -/
def Took (k p : Nat) (e : Ending) : Prop := ∃ r : Nat, r < k ∧ e = .returned (.tuple #[.int .i64 (r : Int), .int .i64 ((p + 1 : Nat) : Int)])

theorem took_of {k p : Nat} {x : Int} (h0 : 0 ≤ x) (h1 : x < (k : Int)) : Took k p (.returned (.tuple #[.int .i64 x, .int .i64 ((p : Int) + 1)])) :=
  ⟨x.toNat, by omega, by have : ((x.toNat : Nat) : Int) = x := by omega
                         rw [this]; simp⟩

theorem rem_in {x : Int} {k : Nat} (_ : 0 ≤ x) (hk : 1 ≤ k) : 0 ≤ x % (k : Int) ∧ x % (k : Int) < (k : Int) := ⟨Int.emod_nonneg _ (by omega), Int.emod_lt_of_pos _ (by omega)⟩

set_option maxHeartbeats 1000000 in
theorem take_in (n : Nat) (hn : n ≤ 1048576) (ao : Option Addr) (cap : Nat) (w : World) (hc : Code w ao n) (p k : Nat) (hk : 1 ≤ k) (hk2 : k ≤ 64) (hp : p < n) :
    Calls Tryz.prog 9 #[.slice ao n cap, .int .i64 (p : Int), .int .i64 (k : Int)] w fun e w' => Took k p e ∧ Below w.heap.size w w' := by
  obtain ⟨b, o, v, rfl, hv, hv2⟩ := hc p hp
  clear hc
  go_enter Tryz.func9, Tryz.ntmps9
  go_wp2
  all_goals
    go_ret2
    refine ⟨took_of ?_ ?_, Below.refl _ _⟩
    · first | omega | exact (rem_in (by omega) hk).1
    · first | omega | exact (rem_in (by omega) hk).2

set_option maxHeartbeats 1000000 in
theorem take_none (ao : Option Addr) (cap : Nat) (w : World) (p k : Nat) (hk : 1 ≤ k) (hk2 : k ≤ 64) (hp : p ≤ 1000) :
    Calls Tryz.prog 9 #[.slice ao 0 cap, .int .i64 (p : Int), .int .i64 (k : Int)] w fun e w' => Took k p e ∧ Below w.heap.size w w' := by
  go_enter Tryz.func9, Tryz.ntmps9
  go_wp2
  all_goals (go_ret2; exact ⟨took_of (by omega) (by omega), Below.refl _ _⟩)

set_option maxHeartbeats 2000000 in
theorem take_past (n : Nat) (hn : n ≤ 1048576) (h0 : 0 < n) (ao : Option Addr) (cap : Nat) (w : World) (hc : Code w ao n) (p k : Nat) (hk : 1 ≤ k) (hk2 : k ≤ 64) (hp : p ≤ 1000) (hpn : n ≤ p) :
    Calls Tryz.prog 9 #[.slice ao n cap, .int .i64 (p : Int), .int .i64 (k : Int)] w fun e w' => Took k p e ∧ Below w.heap.size w w' := by
  have e0 : (0 : Int) < (n : Int) := by omega
  have e1 := rem_in (x := (p : Int)) (k := n) (by omega) h0
  have e2 := rem_in (x := (p : Int) * 7 + 3) (k := n) (by omega) h0
  obtain ⟨e1a, e1b⟩ := e1
  obtain ⟨e2a, e2b⟩ := e2
  have e3a : (0 : Int) ≤ (p : Int) / (n : Int) := Int.ediv_nonneg (by omega) (by omega)
  have e3b : (p : Int) / (n : Int) ≤ (p : Int) := Int.ediv_le_self _ (by omega)
  obtain ⟨b, o, v, rfl, hv, hv2⟩ := hc (p % n) (Nat.mod_lt _ h0)
  obtain ⟨b', o', u, he, hu, hu2⟩ := hc ((p * 7 + 3) % n) (Nat.mod_lt _ h0)
  cases he
  clear hc
  go_enter Tryz.func9, Tryz.ntmps9
  go_wp2
  all_goals
    go_ret2
    refine ⟨took_of ?_ ?_, Below.refl _ _⟩
    · first | omega | exact (xor_rem (by omega) (by omega) (by omega) (by omega) hk).1
    · first | omega | exact (xor_rem (by omega) (by omega) (by omega) (by omega) hk).2

theorem takeB_any (n : Nat) (hn : n ≤ 1048576) (ao : Option Addr) (cap : Nat) (w : World) (hc : Code w ao n) (p k : Nat) (hk : 1 ≤ k) (hk2 : k ≤ 64) (hp : p ≤ 1000) :
    Calls Tryz.prog 9 #[.slice ao n cap, .int .i64 (p : Int), .int .i64 (k : Int)] w fun e w' => Took k p e ∧ Below w.heap.size w w' := by
  by_cases h0 : n = 0
  · subst h0
    exact take_none ao cap w p k hk hk2 hp
  · by_cases h : p < n
    · exact take_in n hn ao cap w hc p k hk hk2 h
    · exact take_past n hn (by omega) ao cap w hc p k hk hk2 hp (by omega)

theorem new_cells (w : World) (n : Nd) : ∀ j u, n.row[j]? = some u →
    (w.alloc (.cells #[.int .i64 n.kind, .int .i64 n.num, .string n.text, .int .i64 n.kids, .int .i64 n.place] 40)).cell? (Addr.add ⟨w.heap.size, 0, none⟩ j) = some u := by
  intro j u hj
  have hl : j < n.row.length := (List.getElem?_eq_some_iff.1 hj).1
  have ad : Addr.add ⟨w.heap.size, 0, none⟩ j = ⟨w.heap.size, j, none⟩ := by
    unfold Addr.add
    split
    · simp_all
    · simp
  rw [ad, cell_of_row _ w.heap.size j _ 40 (0, 0) (heap_alloc_new _ _), ← hj]
  simp [Nd.row]

theorem row_one (n : Nd) : ∀ u ∈ n.row, u.oneCell' = true := by
  intro u hu
  simp [Nd.row] at hu
  rcases hu with rfl | rfl | rfl | rfl | rfl <;> rfl

/-- A slice that owns the nodes zs. -/
def HoldsJ (w : World) (B : Nat) (v : Value) (zs : List Nd) : Prop := w.ownsRow B 40 5 v zs.length (flat zs)

theorem HoldsJ.length {w : World} {B : Nat} {v : Value} {zs : List Nd} (_ : HoldsJ w B v zs) : (flat zs).length = zs.length * 5 := flat_length zs

theorem HoldsJ.push {w : World} {B : Nat} {v : Value} {zs : List Nd} {x : Nd} {m : Nat} (h : w.ownsRow B 40 5 v m (flat zs ++ x.row)) (hm : m = zs.length + 1) : HoldsJ w B v (zs ++ [x]) := by
  subst hm
  unfold HoldsJ
  rw [flat_append, List.length_append]
  exact h

theorem HoldsJ.block {w : World} {B : Nat} {v : Value} {zs : List Nd} (h : HoldsJ w B v zs) : ∀ k, v.ownBlock = some k → B ≤ k := by
  intro k hk
  rcases h.2 with ⟨rfl, _⟩ | ⟨g, cap, cur, rfl, hg, _⟩
  · simp [Value.ownBlock] at hk
  · simp [Value.ownBlock] at hk
    omega

theorem HoldsJ.mono {w : World} {B B' : Nat} {v : Value} {zs : List Nd} (h : HoldsJ w B v zs) (hb : B' ≤ B) : HoldsJ w B' v zs := by
  refine ⟨h.1, ?_⟩
  rcases h.2 with h2 | ⟨g, cap, cur, e, hg, r⟩
  · exact Or.inl h2
  · exact Or.inr ⟨g, cap, cur, e, Nat.le_trans hb hg, r⟩

/-- What a slice that owns nodes is: a row of nodes. -/
theorem HoldsJ.row {w : World} {B : Nat} {v : Value} {zs : List Nd} (h : HoldsJ w B v zs) (hne : zs ≠ []) : ∃ g cap, v = .slice (some ⟨g, 0, none⟩) zs.length cap ∧ B ≤ g ∧ Row w g zs := by
  rcases h.2 with ⟨_, h0⟩ | ⟨g, cap, cur, e, hg, hh, _, _, _, ht⟩
  · exact absurd (List.length_eq_zero_iff.1 h0) hne
  · refine ⟨g, cap, e, hg, cur, cur.toList.drop (zs.length * 5), hh, ?_⟩
    rw [← ht, List.take_append_drop]

theorem flatten_take_succ (kss : List (List Nd)) (k : Nat) (h : k < kss.length) : (kss.take (k + 1)).flatten = (kss.take k).flatten ++ kss[k] := by
  rw [List.take_succ_eq_append_getElem h, List.flatten_append]
  simp only [List.flatten_cons, List.flatten_nil, List.append_nil]

theorem length_flatten_take (kss : List (List Nd)) (k : Nat) : (kss.take k).flatten.length ≤ total kss := by
  have := total_take_le kss k
  rw [List.length_flatten]
  exact this

set_option maxHeartbeats 1000000 in
theorem specJoin_any (x : Nd) (kss : List (List Nd)) (n : Nat) (HN : Hid (kss.length = n)) (ao : Option Addr) (cap : Nat) (w : World) (hx : Lists w ao kss) (ht : total kss ≤ 1048576) (hlen : n ≤ 1048576) :
    Calls Tryz.prog 11 #[.agg #[.int .i64 x.kind, .int .i64 x.num, .string x.text, .int .i64 x.kids, .int .i64 x.place], .slice ao n cap] w fun e w' =>
      ∃ v, e = .returned v ∧ HoldsJ w' w.heap.size v (kss.flatten ++ [{ x with kids := (n : Int) }]) ∧ Below w.heap.size w w' := by
  obtain ⟨i0, hi, hz0, hz1, hz2⟩ := info_parts Tryz.infoN
  go_enter Tryz.func11, Tryz.ntmps11
  go_wp2
  obtain ⟨W1, hW1⟩ : ∃ W1, W1 = w.alloc (.cells #[.int .i64 x.kind, .int .i64 x.num, .string x.text, .int .i64 x.kids, .int .i64 x.place] 40) := ⟨_, rfl⟩
  have HW1 : Hid (W1 = w.alloc (.cells #[.int .i64 x.kind, .int .i64 x.num, .string x.text, .int .i64 x.kids, .int .i64 x.place] 40)) := hW1
  have HB1 : Below w.heap.size w W1 := by rw [hW1]; exact (Below.refl _ _).alloc (Nat.le_refl _) _
  have HS1 : Hid (W1.heap.size = w.heap.size + 1) := by show W1.heap.size = w.heap.size + 1; rw [hW1]; simp
  have hx1 := hx.below HB1
  clear hx hW1
  go_loopw [5, 6] (fun v i wr => ∃ (k : Nat), k ≤ n ∧ i = .int .i64 k ∧ HoldsJ wr (w.heap.size + 1) v (kss.take k).flatten ∧ Below W1.heap.size W1 wr) (fun _ i _ => n - (intOf i).toNat)
  case atStart =>
    refine ⟨0, Nat.zero_le _, rfl, ⟨by simp [flat], Or.inr ⟨w.heap.size + 1, 0, #[], rfl, Nat.le_refl _, ?_, Nat.le_refl _, by simp [maxLen], rfl, by simp [flat]⟩⟩, ?_⟩
    · rw [← HW1.out, ← HS1.out]; exact heap_alloc_new _ _
    · rw [← HW1.out]; exact (Below.refl _ _).alloc (Nat.le_refl _) _
  case round =>
    obtain ⟨k, hk, rfl, hown, hb⟩ := hrel
    by_cases hlt : k < n
    · have hltk : k < kss.length := by have := HN.out; omega
      obtain ⟨b, o, ai, ci, rfl, hc, hn⟩ := hx1 k hltk
      obtain ⟨ks, hks⟩ : ∃ ks, kss[k] = ks := ⟨_, rfl⟩
      have HKS : Hid (kss[k] = ks) := hks
      have hml : ks.length ≤ 1048576 := by have := length_le_total kss k hltk; rw [hks] at this; omega
      have hdl := length_flatten_take kss k
      have HFT : Hid ((kss.take (k + 1)).flatten = (kss.take k).flatten ++ ks) := by have := flatten_take_succ kss k hltk; rw [hks] at this; exact this
      have htl : (kss.take k).flatten.length + ks.length ≤ total kss := by
        have := length_flatten_take kss (k + 1)
        rw [HFT.out, List.length_append] at this
        exact this
      obtain ⟨dn, hdn⟩ : ∃ dn, (kss.take k).flatten = dn := ⟨_, rfl⟩
      have HDN : Hid ((kss.take k).flatten = dn) := hdn
      rw [hdn] at hown hdl htl
      rw [hks] at hc hn
      clear hks hx1 hdn
      go_wp2
      go_loopw [5, 7] (fun v i wr => ∃ (j : Nat), j ≤ ks.length ∧ i = .int .i64 j ∧ HoldsJ wr (w.heap.size + 1) v (dn ++ ks.take j) ∧ Below W1.heap.size W1 wr) (fun _ i _ => ks.length - (intOf i).toNat)
      case atStart => exact ⟨0, Nat.zero_le _, rfl, by simpa using hown, hb⟩
      case round =>
        clear hown hb
        obtain ⟨j, hj, rfl, hown, hb⟩ := hrel
        have hcc := (hb.cell (p := ⟨b, o + k, none⟩) (lt_of_cell hc)).trans hc
        by_cases hjl : j < ks.length
        · obtain ⟨b', o', rfl, hnj⟩ := hn.below hb j hjl
          obtain ⟨y, hy⟩ : ∃ y, ks[j] = y := ⟨_, rfl⟩
          have HY : Hid (ks[j] = y) := hy
          rw [hy] at hnj
          obtain ⟨e0, e1, e2, e3, e4⟩ := hnj
          clear hy hn hc
          have hlen2 : (dn ++ ks.take j).length = dn.length + j := by simp; omega
          have HL2 : Hid ((dn ++ ks.take j).length = dn.length + j) := hlen2
          clear hlen2
          go_wp2_with (at_builtin; refine wpList_append_own _ rfl _ _ 29 rfl (w.heap.size + 1) 40 i0 _ 5 48 Tryz.underlying29 hi hz0 hz1 hz2 rfl (by decide) _ _ _ rfl (hown.alloc _) ⟨_, 0, none⟩ 1 1 y.row rfl rfl ?c1 ?c2 ?c3 ?c4 ?c5 ?_)
          case c1 => exact new_cells _ y
          case c2 => exact row_one y
          case c3 => rw [HL2.out]; unfold maxLen; omega
          case c4 => rw [HL2.out]; omega
          case c5 => have := hb.size; have := HS1.out; simp; omega
          intro v' w1 hown' hgrow _
          have H2 : HoldsJ w1 (w.heap.size + 1) v' (dn ++ ks.take (j + 1)) := by
            have := HoldsJ.push hown' (by rw [HL2.out])
            rw [List.take_succ_eq_append_getElem hjl, HY.out, ← List.append_assoc]
            exact this
          have hbb : Below W1.heap.size W1 w1 := (hb.alloc hb.size _).grown hgrow (by have := hb.size; simp; omega) (fun q hq => by have := HoldsJ.block hown q hq; have := HS1.out; omega)
          clear hown hown' hgrow hb hcc e0 e1 e2 e3 e4
          go_wp2
          go_roundw
          case rel => exact ⟨j + 1, by omega, by go_num, H2, hbb⟩
          case measure => simp [intOf]; omega
        · have hje : ks.take j = ks := List.take_of_length_le (by omega)
          have H2 : HoldsJ wr (w.heap.size + 1) u5 (kss.take (k + 1)).flatten := by
            rw [HFT.out, HDN.out]
            rw [hje] at hown
            exact hown
          clear hown hje hn hc
          go_wp2
          go_roundw
          case rel => exact ⟨k + 1, by omega, by go_num, H2, hb⟩
          case measure => simp [intOf]; omega
    · have hke : k = n := by omega
      subst hke
      have HE : Hid (kss.take k = kss) := List.take_of_length_le (by have := HN.out; omega)
      rw [HE.out] at hown
      have hfl : kss.flatten.length ≤ 1048576 := by have := length_flatten_take kss k; rw [HE.out] at this; omega
      have hz : ∀ j, wr.cell? ⟨w.heap.size, j, none⟩ = W1.cell? ⟨w.heap.size, j, none⟩ := fun j => hb.cell (p := ⟨w.heap.size, j, none⟩) (by have := HS1.out; show w.heap.size < _; omega)
      have hf3 : wr.frozen? ⟨w.heap.size, 3, none⟩ = false := by
        rw [hb.frozen (p := ⟨w.heap.size, 3, none⟩) (by have := HS1.out; show w.heap.size < _; omega), HW1.out]
        exact frozen_of_row _ w.heap.size 3 _ 40 (heap_alloc_new _ _)
      have g0 : wr.cell? ⟨w.heap.size, 0, none⟩ = some (.int .i64 x.kind) := by rw [hz, HW1.out, cell_of_row _ w.heap.size 0 _ 40 (0, 0) (heap_alloc_new _ _)]; rfl
      have g1 : wr.cell? ⟨w.heap.size, 1, none⟩ = some (.int .i64 x.num) := by rw [hz, HW1.out, cell_of_row _ w.heap.size 1 _ 40 (0, 0) (heap_alloc_new _ _)]; rfl
      have g2 : wr.cell? ⟨w.heap.size, 2, none⟩ = some (.string x.text) := by rw [hz, HW1.out, cell_of_row _ w.heap.size 2 _ 40 (0, 0) (heap_alloc_new _ _)]; rfl
      have g3 : wr.cell? ⟨w.heap.size, 3, none⟩ = some (.int .i64 x.kids) := by rw [hz, HW1.out, cell_of_row _ w.heap.size 3 _ 40 (0, 0) (heap_alloc_new _ _)]; rfl
      have g4 : wr.cell? ⟨w.heap.size, 4, none⟩ = some (.int .i64 x.place) := by rw [hz, HW1.out, cell_of_row _ w.heap.size 4 _ 40 (0, 0) (heap_alloc_new _ _)]; rfl
      have hown3 := ownsRow_setCell_below hown (a := ⟨w.heap.size, 3, none⟩) (Nat.lt_succ_self _) (.int .i64 (k : Int))
      clear hz hx1
      go_wp2_with (at_builtin; refine wpList_append_own _ rfl _ _ 29 rfl (w.heap.size + 1) 40 i0 _ 5 48 Tryz.underlying29 hi hz0 hz1 hz2 rfl (by decide) _ _ _ rfl (hown3.alloc _) ⟨_, 0, none⟩ 1 1 (Nd.row { x with kids := (k : Int) }) rfl rfl ?d1 ?d2 ?d3 ?d4 ?d5 ?_)
      case d1 =>
        have := new_cells (wr.setCell ⟨w.heap.size, 3, none⟩ (.int .i64 (k : Int))) { x with kids := (k : Int) }
        rw [size_setCell] at this
        exact this
      case d2 => exact row_one _
      case d3 => unfold maxLen; omega
      case d4 => omega
      case d5 => have := hb.size; have := HS1.out; simp; omega
      intro v' w1 hown' hgrow _
      have H2 := HoldsJ.push hown' (by rw [List.length_flatten])
      have hb2 : Below w.heap.size w wr := HB1.trans (hb.mono HB1.size)
      have hbb : Below w.heap.size w w1 := ((hb2.setCell (p := ⟨w.heap.size, 3, none⟩) (Nat.le_refl _) (.int .i64 (k : Int))).alloc (by rw [size_setCell]; exact hb2.size) _).grown hgrow (by have := hb2.size; simp; omega) (fun q hq => by have := HoldsJ.block hown q hq; omega)
      clear hown hown' hgrow hb hown3 g0 g1 g2 g3 g4
      go_wp2
      go_ret
      exact ⟨_, rfl, H2.mono (Nat.le_succ _), hbb⟩

end Go.Proofs.YtahdmflbdmlfhaaGreatDoor

namespace Go.Proofs.YtahdmflbdmlfhaaGreatDoor

/-- What is put for an unknown is made of nodes of the pairs. -/
theorem solve_nodes {ps : List (List Nd × List Nd)} {σ : Int → List Nd} (hv : Valid ps) (h : SolveOk ps σ) {x : Int} (hx : Occ ps x) (P : Nd → Prop) (hP : ∀ p ∈ ps, (∀ n ∈ p.1, n.kind ≠ 61 → P n) ∧ ∀ n ∈ p.2, n.kind ≠ 61 → P n) : ∀ n ∈ σ x, n.kind ≠ 61 → P n := by
  classical
  obtain ⟨μ, hμ⟩ : ∃ μ : Nd → Nd, μ = fun n => if n.kind = 61 ∨ P n then n else ⟨n.kind, n.num + 1, n.text, n.kids, n.place⟩ := ⟨_, rfl⟩
  have hk : ∀ n, (μ n).kids = n.kids := by
    intro n
    subst hμ
    simp only
    split <;> rfl
  have hfix : ∀ n, (n.kind = 61 ∨ P n) → μ n = n := by
    intro n hn
    subst hμ
    simp only
    rw [if_pos hn]
  have hback : ∀ n, μ n = n → n.kind ≠ 61 → P n := by
    intro n hn h61
    by_cases hp : P n
    · exact hp
    · exfalso
      subst hμ
      simp only at hn
      rw [if_neg (fun h => h.elim h61 hp)] at hn
      have := congrArg Nd.num hn
      simp only at this
      omega
  have hx1 := occ_num hv hx
  have hpl := h.plain x hx1
  have h1 : ∀ y ∈ metas (σ x), σ y = [metaN y] := by
    have e : fill σ (σ x) = fill (fun x => [metaN x]) (σ x) := by rw [h.gen σ h.one h.sol x, fill_id hpl]
    exact fill_inj_one h.one metaN_one (plain_leafy hpl) (h.one x) e
  obtain ⟨θ, hθ⟩ : ∃ θ : Int → List Nd, θ = fun z => (σ z).map μ := ⟨_, rfl⟩
  have ho : ∀ z, One (θ z) := by
    intro z
    subst hθ
    obtain ⟨s, ys, e⟩ := h.one z
    refine ⟨s, ys, ?_⟩
    have ek : ((σ z).map μ).map Nd.kids = (σ z).map Nd.kids := by
      rw [List.map_map]
      congr 1
      funext n
      exact hk n
    rw [List.length_map, after_kids ek]
    exact e
  have hside : ∀ t : List Nd, (∀ n ∈ t, n.kind ≠ 61 → P n) → fill θ t = (fill σ t).map μ := by
    intro t
    induction t with
    | nil => intro _; rfl
    | cons n t ih =>
      intro ht
      have e2 : ∀ (θ : Int → List Nd) (n : Nd) (t : List Nd), fill θ (n :: t) = fillN θ n ++ fill θ t := fun θ n t => by simp [fill]
      rw [e2, e2, List.map_append, ih (fun m hm => ht m (by simp [hm]))]
      congr 1
      unfold fillN
      by_cases h61 : n.kind = 61
      · rw [if_pos h61, if_pos h61]; subst hθ; rfl
      · rw [if_neg h61, if_neg h61]
        simp only [List.map_cons, List.map_nil]
        rw [hfix n (.inr (ht n (by simp) h61))]
  have hs : Solves θ ps := by
    intro p hp
    rw [hside p.1 (hP p hp).1, hside p.2 (hP p hp).2, h.sol p hp]
  have g1 := h.gen θ ho hs x
  have g2 : fill θ (σ x) = σ x := by
    have e : fill θ (σ x) = fill (fun x => [metaN x]) (σ x) := by
      refine fill_congr (fun y hy => ?_)
      subst hθ
      simp only [h1 y hy, List.map_cons, List.map_nil]
      rw [hfix _ (.inl rfl)]
    rw [e, fill_id hpl]
  rw [g2] at g1
  have g3 : σ x = (σ x).map μ := by subst hθ; exact g1
  intro n hn h61
  obtain ⟨i, hi, rfl⟩ := List.getElem_of_mem hn
  refine hback _ ?_ h61
  have : (σ x)[i]? = ((σ x).map μ)[i]? := by rw [← g3]
  rw [List.getElem?_map, List.getElem?_eq_getElem hi] at this
  simp only [Option.map_some, Option.some.injEq] at this
  exact this.symm

theorem fsAt_nums {bs : List (Int × List Nd)} {σ : Int → List Nd} (h : ∀ p ∈ bs, p.2 = σ p.1) {x : Int} (hx : x ∈ nums bs) : fsAt bs x = some (σ x) := by
  obtain ⟨p, hp, e⟩ := List.mem_map.1 hx
  have hs := fsAt_some.2 ⟨p, hp, e⟩
  obtain ⟨t, ht⟩ := Option.isSome_iff_exists.1 hs
  obtain ⟨hl, et⟩ := fsAt_lt ht
  have h9 : placeIn (bs.map Prod.fst) x < (bs.map Prod.fst).length := by simpa using hl
  have h8 : ((bs.map Prod.fst)[placeIn (bs.map Prod.fst) x] == x) = true := List.findIdx_getElem (w := h9)
  rw [List.getElem_map] at h8
  have h7 : bs[placeIn (bs.map Prod.fst) x].1 = x := by simpa using h8
  rw [ht, ← et, h _ (List.getElem_mem hl), h7]

/-- All that FnSolve asks of a solution. -/
theorem solved_put {ps : List (List Nd × List Nd)} {i : Int} {bs : List (Int × List Nd)} (h : SolveRes ps true i bs) {p : List Nd × List Nd} (hp : p ∈ ps) :
    putOf bs p.1 = putOf bs p.2 ∧ (putOf bs p.1 ≠ [] → putOf bs (putOf bs p.1) = putOf bs p.1) := by
  cases h using SolveRes.inv with
  | ok σ _ hv hs hup hocc hall =>
    have hty := hv.2 p hp
    have hσ : ∀ q ∈ bs, q.2 = σ q.1 := fun q hq => (hall q hq).1
    have htb : ∀ b ∈ bs, typeb b.2 = true := by
      intro q hq
      have ho : Occ ps q.1 := (hocc q.1).1 (List.mem_map.2 ⟨q, hq, rfl⟩)
      rw [(hall q hq).1]
      have hl := (hall q hq).2
      rw [(hall q hq).1] at hl
      exact one_type (hs.one _) hl (hs.plain _ (occ_num hv ho))
    have hfill : ∀ t : List Nd, t.all Nd.plainb = true → (∀ x ∈ metas t, Occ ps x) → putAll bs t = fill σ t := by
      intro t ht ho
      rw [putAll_fill bs ht]
      refine fill_congr (fun x hx => ?_)
      rw [fsAt_nums hσ ((hocc x).2 (ho x hx))]
      rfl
    have e1 := hfill p.1 (typeb_plain hty.1) (fun x hx => ⟨p, hp, .inl hx⟩)
    have e2 := hfill p.2 (typeb_plain hty.2) (fun x hx => ⟨p, hp, .inr hx⟩)
    have e3 : putAll bs p.1 = putAll bs p.2 := by rw [e1, e2, hs.sol p hp]
    refine ⟨?_, fun hne => ?_⟩
    · unfold putOf
      rw [hty.1, hty.2, e3]
    · obtain ⟨h1, h2, h3, h4⟩ := putOf_ne hne
      rw [h4]
      have ht := putAll_type h2 h1 h3
      have hm : ∀ y ∈ metas (putAll bs p.1), Occ ps y := by
        intro y hy
        rw [e1] at hy
        obtain ⟨n, hn, rfl⟩ := List.mem_map.1 hy
        obtain ⟨hn1, hn2⟩ := List.mem_filter.1 hn
        obtain ⟨m, hm, hnm⟩ := List.mem_flatMap.1 hn1
        unfold fillN at hnm
        split at hnm
        · next hk =>
          have hom : Occ ps m.num := ⟨p, hp, .inl (List.mem_map.2 ⟨m, List.mem_filter.2 ⟨hm, by simpa using hk⟩, rfl⟩)⟩
          exact occ_metas hv hs hom n.num (List.mem_map.2 ⟨n, List.mem_filter.2 ⟨hnm, hn2⟩, rfl⟩)
        · next hk =>
          simp only [List.mem_singleton] at hnm
          subst hnm
          exact absurd (by simpa using hn2) hk
      have e5 := hfill (putAll bs p.1) (typeb_plain ht) hm
      have e6 : putAll bs (putAll bs p.1) = putAll bs p.1 := by
        rw [e5, e1]
        have hff : ∀ t : List Nd, fill σ (fill σ t) = fill (fun x => fill σ (σ x)) t := by
          intro t
          induction t with
          | nil => rfl
          | cons n t ih =>
            have e9 : ∀ (θ : Int → List Nd) (n : Nd) (t : List Nd), fill θ (n :: t) = fillN θ n ++ fill θ t := fun θ n t => by simp [fill]
            rw [e9, e9, fill_append, ih]
            congr 1
            unfold fillN
            by_cases hk : n.kind = 61
            · rw [if_pos hk, if_pos hk]
            · rw [if_neg hk, if_neg hk]; simp [fill, fillN, hk]
        rw [hff]
        refine fill_congr (fun x _ => ?_)
        exact hs.gen σ hs.one hs.sol x
      rw [putOf_eq ht h2 (by rw [e6]; exact h3), e6]

/-- What Solve says of the pairs up to the one that is told. -/
theorem solve_ahead {ps : List (List Nd × List Nd)} {i : Nat} {bs : List (Int × List Nd)} (h : SolveRes ps false (i : Int) bs) :
    i < ps.length ∧ (∀ {ok : Bool} {j : Int} {cs : List (Int × List Nd)}, SolveRes (ps.take i) ok j cs → ok = true ∨ j = -1) ∧ ∀ {ok : Bool} {j : Int} {cs : List (Int × List Nd)}, SolveRes (ps.take (i + 1)) ok j cs → ok = false := by
  generalize hat : (i : Int) = k at h
  cases h using SolveRes.inv with
  | bad _ => omega
  | large _ _ _ _ _ _ => omega
  | no i' hv hl hy hn =>
    obtain rfl : i = i' := by omega
    refine ⟨hl, fun {ok j cs} h2 => ?_, fun {ok j cs} h2 => ?_⟩
    · cases h2 using SolveRes.inv with
      | bad _ => exact .inr rfl
      | large _ _ _ _ _ _ => exact .inr rfl
      | ok _ _ _ _ _ _ _ => exact .inl rfl
      | no j' _ hjl _ hnj =>
        exfalso
        obtain ⟨θ, hθ, hs⟩ := hy
        exact hnj θ hθ (hs.take _)
    · cases h2 using SolveRes.inv with
      | bad _ => rfl
      | large _ _ _ _ _ _ => rfl
      | no _ _ _ _ _ => rfl
      | ok σ _ _ h3 _ _ _ => exact absurd h3.sol (hn σ h3.one)

/-- Numbers of what Put makes of pairs that are solved. -/
theorem solved_wf {ps : List (List Nd × List Nd)} {ok : Bool} {i : Int} {bs : List (Int × List Nd)} (h : SolveRes ps ok i bs) (hw : ∀ p ∈ ps, (∀ n ∈ p.1, (Go.Lit.int .i64 n.num).wf = true) ∧ ∀ n ∈ p.2, (Go.Lit.int .i64 n.num).wf = true) :
    (∀ b ∈ bs, (Go.Lit.int .i64 b.1).wf = true) ∧ ∀ p ∈ ps, ∀ n ∈ putOf bs p.1, (Go.Lit.int .i64 n.num).wf = true := by
  have hocc : ∀ x, Occ ps x → (Go.Lit.int .i64 x).wf = true := by
    rintro x ⟨p, hp, hx⟩
    rcases hx with hx | hx
    · obtain ⟨n, hn, rfl⟩ := List.mem_map.1 hx
      exact (hw p hp).1 n (List.mem_filter.1 hn).1
    · obtain ⟨n, hn, rfl⟩ := List.mem_map.1 hx
      exact (hw p hp).2 n (List.mem_filter.1 hn).1
  have hb : ∀ b ∈ bs, (Go.Lit.int .i64 b.1).wf = true ∧ ∀ n ∈ b.2, (Go.Lit.int .i64 n.num).wf = true := by
    cases h using SolveRes.inv with
    | bad _ => intro b hb; simp at hb
    | no _ _ _ _ _ => intro b hb; simp at hb
    | large _ _ _ _ _ _ => intro b hb; simp at hb
    | ok σ _ h1 h2 h3 h4 h5 =>
      intro q hq
      have ho : Occ ps q.1 := (h4 q.1).1 (List.mem_map.2 ⟨q, hq, rfl⟩)
      refine ⟨hocc _ ho, fun n hn => ?_⟩
      rw [(h5 q hq).1] at hn
      by_cases hk : n.kind = 61
      · exact hocc _ (occ_metas h1 h2 ho n.num (List.mem_map.2 ⟨n, List.mem_filter.2 ⟨hn, by simpa using hk⟩, rfl⟩))
      · exact solve_nodes h1 h2 ho (fun n => (Go.Lit.int .i64 n.num).wf = true) (fun p hp => ⟨fun n hn _ => (hw p hp).1 n hn, fun n hn _ => (hw p hp).2 n hn⟩) n hn hk
  refine ⟨fun b hb' => (hb b hb').1, fun p hp n hn => ?_⟩
  have hn2 : n ∈ putAll bs p.1 := by
    unfold putOf at hn
    split at hn
    · exact hn
    · simp at hn
  obtain ⟨m, hm, hnm⟩ := List.mem_flatMap.1 hn2
  unfold putSub at hnm
  split at hnm
  · cases hq : bs[placeIn (bs.map Prod.fst) m.num]? with
    | none =>
      rw [hq] at hnm
      simp only [Option.map_none, Option.getD_none, List.mem_singleton] at hnm
      subst hnm
      exact (hw p hp).1 _ hm
    | some q =>
      rw [hq] at hnm
      simp only [Option.map_some, Option.getD_some] at hnm
      obtain ⟨hl, he⟩ := List.getElem?_eq_some_iff.1 hq
      have hqm : q ∈ bs := by rw [← he]; exact List.getElem_mem hl
      exact (hb q hqm).2 n hnm
  · simp only [List.mem_singleton] at hnm
    subst hnm
    exact (hw p hp).1 _ hm

end Go.Proofs.YtahdmflbdmlfhaaGreatDoor
