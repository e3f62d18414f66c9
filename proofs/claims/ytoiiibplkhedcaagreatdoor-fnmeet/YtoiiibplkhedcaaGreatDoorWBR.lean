import Derived.Test.YtoiiibplkhedcaaGreatDoorWBQ
import Derived.Laws.BitsAllLaws
set_option maxHeartbeats 2000000
namespace Go.Proofs.YtoiiibplkhedcaaGreatDoor
open Go.RowKit
def Code (w : World) (ao : Option Addr) (n : Nat) : Prop :=
  ∀ i, i < n → ∃ b o v, ao = some ⟨b, o, none⟩ ∧ w.cell? ⟨b, o + i, none⟩ = some (.int .u8 ((v : Nat) : Int)) ∧ v < 256
theorem Code.below {w w' : World} {ao : Option Addr} {n : Nat} (h : Code w ao n) (hb : Below w.heap.size w w') : Code w' ao n := by
  intro i hi
  obtain ⟨b, o, v, e, hc, hv⟩ := h i hi
  exact ⟨b, o, v, e, (hb.cell (p := ⟨b, o + i, none⟩) (Qaa hc)).trans hc, hv⟩
theorem Jci (a b : Nat) (ha : a < 4611686018427387904) (hb : b < 4611686018427387904) : bits .xor .i64 (a : Int) (b : Int) = ((a ^^^ b : Nat) : Int) := by
  show IntKind.i64.wrap ((BitVec.ofInt 64 (a : Int) ^^^ BitVec.ofInt 64 (b : Int)).toNat : Int) = _
  have hx : a ^^^ b < 2 ^ 62 := Nat.xor_lt_two_pow (by omega) (by omega)
  rw [BitVec.toNat_xor, ofInt_u64 a (by omega), ofInt_u64 b (by omega)]
  simp [IntKind.wrap, IntKind.bits, IntKind.signed]
  omega
theorem Qun {x y : Int} {k : Nat} (hx : 0 ≤ x) (hx2 : x < 4611686018427387904) (hy : 0 ≤ y) (hy2 : y < 4611686018427387904) (hk : 1 ≤ k) :
    0 ≤ (bits .xor .i64 x y).tmod (k : Int) ∧ (bits .xor .i64 x y).tmod (k : Int) < (k : Int) := by
  obtain ⟨a, rfl⟩ := Int.eq_ofNat_of_zero_le hx
  obtain ⟨b, rfl⟩ := Int.eq_ofNat_of_zero_le hy
  rw [Jci a b (by omega) (by omega)]
  exact ⟨Int.tmod_nonneg _ (by omega), Int.tmod_lt_of_pos _ (by omega)⟩
def Took (k p : Nat) (e : Ending) : Prop := ∃ r : Nat, r < k ∧ e = .returned (.tuple #[.int .i64 (r : Int), .int .i64 ((p + 1 : Nat) : Int)])
theorem Qqd {k p : Nat} {x : Int} (h0 : 0 ≤ x) (h1 : x < (k : Int)) : Took k p (.returned (.tuple #[.int .i64 x, .int .i64 ((p : Int) + 1)])) :=
  ⟨x.toNat, by omega, by have : ((x.toNat : Nat) : Int) = x := by omega
                         rw [this]; simp⟩
theorem Qjp {x : Int} {k : Nat} (_ : 0 ≤ x) (hk : 1 ≤ k) : 0 ≤ x % (k : Int) ∧ x % (k : Int) < (k : Int) := ⟨Int.emod_nonneg _ (by omega), Int.emod_lt_of_pos _ (by omega)⟩
theorem Jbq (n : Nat) (hn : n ≤ 1048576) (ao : Option Addr) (cap : Nat) (w : World) (hc : Code w ao n) (p k : Nat) (hk : 1 ≤ k) (hk2 : k ≤ 64) (hp : p < n) :
    Calls Tryz.prog 12 #[.slice ao n cap, .int .i64 (p : Int), .int .i64 (k : Int)] w fun e w' => Took k p e ∧ Below w.heap.size w w' := by
  obtain ⟨b, o, v, rfl, hv, hv2⟩ := hc p hp
  clear hc
  go_enter Tryz.func12, Tryz.ntmps12
  go_wp2
  all_goals
    go_ret2
    refine ⟨Qqd ?_ ?_, Below.refl _ _⟩
    · first | omega | exact (Qjp (by omega) hk).1
    · first | omega | exact (Qjp (by omega) hk).2
theorem Quz (ao : Option Addr) (cap : Nat) (w : World) (p k : Nat) (hk : 1 ≤ k) (hk2 : k ≤ 64) (hp : p ≤ 1000) :
    Calls Tryz.prog 12 #[.slice ao 0 cap, .int .i64 (p : Int), .int .i64 (k : Int)] w fun e w' => Took k p e ∧ Below w.heap.size w w' := by
  go_enter Tryz.func12, Tryz.ntmps12
  go_wp2
  all_goals (go_ret2; exact ⟨Qqd (by omega) (by omega), Below.refl _ _⟩)
theorem Quy (n : Nat) (hn : n ≤ 1048576) (h0 : 0 < n) (ao : Option Addr) (cap : Nat) (w : World) (hc : Code w ao n) (p k : Nat) (hk : 1 ≤ k) (hk2 : k ≤ 64) (hp : p ≤ 1000) (hpn : n ≤ p) :
    Calls Tryz.prog 12 #[.slice ao n cap, .int .i64 (p : Int), .int .i64 (k : Int)] w fun e w' => Took k p e ∧ Below w.heap.size w w' := by
  have e0 : (0 : Int) < (n : Int) := by omega
  have e1 := Qjp (x := (p : Int)) (k := n) (by omega) h0
  have e2 := Qjp (x := (p : Int) * 7 + 3) (k := n) (by omega) h0
  obtain ⟨e1a, e1b⟩ := e1
  obtain ⟨e2a, e2b⟩ := e2
  have e3a : (0 : Int) ≤ (p : Int) / (n : Int) := Int.ediv_nonneg (by omega) (by omega)
  have e3b : (p : Int) / (n : Int) ≤ (p : Int) := Int.ediv_le_self _ (by omega)
  obtain ⟨b, o, v, rfl, hv, hv2⟩ := hc (p % n) (Nat.mod_lt _ h0)
  obtain ⟨b', o', u, he, hu, hu2⟩ := hc ((p * 7 + 3) % n) (Nat.mod_lt _ h0)
  cases he
  clear hc
  go_enter Tryz.func12, Tryz.ntmps12
  go_wp2
  all_goals
    go_ret2
    refine ⟨Qqd ?_ ?_, Below.refl _ _⟩
    · first | omega | exact (Qun (by omega) (by omega) (by omega) (by omega) hk).1
    · first | omega | exact (Qun (by omega) (by omega) (by omega) (by omega) hk).2
theorem Qei (n : Nat) (hn : n ≤ 1048576) (ao : Option Addr) (cap : Nat) (w : World) (hc : Code w ao n) (p k : Nat) (hk : 1 ≤ k) (hk2 : k ≤ 64) (hp : p ≤ 1000) :
    Calls Tryz.prog 12 #[.slice ao n cap, .int .i64 (p : Int), .int .i64 (k : Int)] w fun e w' => Took k p e ∧ Below w.heap.size w w' := by
  by_cases h0 : n = 0
  · subst h0
    exact Quz ao cap w p k hk hk2 hp
  · by_cases h : p < n
    · exact Jbq n hn ao cap w hc p k hk hk2 h
    · exact Quy n hn (by omega) ao cap w hc p k hk hk2 hp (by omega)
theorem Qoi (w : World) (n : Nd) : ∀ j u, n.row[j]? = some u →
    (w.alloc (.cells #[.int .i64 n.kind, .int .i64 n.num, .string n.text, .int .i64 n.kids, .int .i64 n.place] 43)).cell? (Addr.add ⟨w.heap.size, 0, none⟩ j) = some u := by
  intro j u hj
  have hl : j < n.row.length := (List.getElem?_eq_some_iff.1 hj).1
  have ad : Addr.add ⟨w.heap.size, 0, none⟩ j = ⟨w.heap.size, j, none⟩ := by
    unfold Addr.add
    split
    · simp_all
    · simp
  rw [ad, cell_of_row _ w.heap.size j _ 43 (0, 0) (heap_alloc_new _ _), ← hj]
  simp [Nd.row]
theorem Qvr (n : Nd) : ∀ u ∈ n.row, u.oneCell' = true := by
  intro u hu
  simp [Nd.row] at hu
  rcases hu with rfl | rfl | rfl | rfl | rfl <;> rfl
def HoldsJ (w : World) (B : Nat) (v : Value) (zs : List Nd) : Prop := w.ownsRow B 43 5 v zs.length (flat zs)
theorem HoldsJ.push {w : World} {B : Nat} {v : Value} {zs : List Nd} {x : Nd} {m : Nat} (h : w.ownsRow B 43 5 v m (flat zs ++ x.row)) (hm : m = zs.length + 1) : HoldsJ w B v (zs ++ [x]) := by
  subst hm
  unfold HoldsJ
  rw [Qgv, List.length_append]
  exact h
theorem HoldsJ.block {w : World} {B : Nat} {v : Value} {zs : List Nd} (h : HoldsJ w B v zs) : ∀ k, v.ownBlock = some k → B ≤ k := by
  intro k hk
  rcases h.2 with ⟨rfl, _⟩ | ⟨g, cap, cur, rfl, hg, _⟩
  · simp [Value.ownBlock] at hk
  · simp [Value.ownBlock] at hk
    omega
theorem HoldsJ.mono {w : World} {B B' : Nat} {v : Value} {zs : List Nd} (h : HoldsJ w B v zs) (hb : B' ≤ B) : HoldsJ w B' v zs := by
  refine ⟨h.1, ?_⟩
  rcases h.2 with h2 | ⟨g, cap, cur, e, hg, r⟩
  · exact Or.inl h2
  · exact Or.inr ⟨g, cap, cur, e, Nat.le_trans hb hg, r⟩
theorem HoldsJ.row {w : World} {B : Nat} {v : Value} {zs : List Nd} (h : HoldsJ w B v zs) (hne : zs ≠ []) : ∃ g cap, v = .slice (some ⟨g, 0, none⟩) zs.length cap ∧ B ≤ g ∧ Row w g zs := by
  rcases h.2 with ⟨_, h0⟩ | ⟨g, cap, cur, e, hg, hh, _, _, _, ht⟩
  · exact absurd (List.length_eq_zero_iff.1 h0) hne
  · refine ⟨g, cap, e, hg, cur, cur.toList.drop (zs.length * 5), hh, ?_⟩
    rw [← ht, List.take_append_drop]
theorem Qif (kss : List (List Nd)) (k : Nat) (h : k < kss.length) : (kss.take (k + 1)).flatten = (kss.take k).flatten ++ kss[k] := by
  rw [List.take_succ_eq_append_getElem h, List.flatten_append]
  simp only [List.flatten_cons, List.flatten_nil, List.append_nil]
theorem Qcg (kss : List (List Nd)) (k : Nat) : (kss.take k).flatten.length ≤ Qfh kss := by
  have := Qgy kss k
  rw [List.length_flatten]
  exact this
theorem Qcz (x : Nd) (kss : List (List Nd)) (n : Nat) (HN : Hid (kss.length = n)) (ao : Option Addr) (cap : Nat) (w : World) (hx : Lists w ao kss) (ht : Qfh kss ≤ 1048576) (hlen : n ≤ 1048576) :
    Calls Tryz.prog 35 #[.agg #[.int .i64 x.kind, .int .i64 x.num, .string x.text, .int .i64 x.kids, .int .i64 x.place], .slice ao n cap] w fun e w' =>
      ∃ v, e = .returned v ∧ HoldsJ w' w.heap.size v (kss.flatten ++ [{ x with kids := (n : Int) }]) ∧ Below w.heap.size w w' := by
  obtain ⟨i0, hi, hz0, hz1, hz2⟩ := info_parts Tryz.infoN
  go_enter Tryz.func35, Tryz.ntmps35
  go_wp2
  obtain ⟨W1, hW1⟩ : ∃ W1, W1 = w.alloc (.cells #[.int .i64 x.kind, .int .i64 x.num, .string x.text, .int .i64 x.kids, .int .i64 x.place] 43) := ⟨_, rfl⟩
  have HW1 : Hid (W1 = w.alloc (.cells #[.int .i64 x.kind, .int .i64 x.num, .string x.text, .int .i64 x.kids, .int .i64 x.place] 43)) := hW1
  have HB1 : Below w.heap.size w W1 := by rw [hW1]; exact (Below.refl _ _).alloc (Nat.le_refl _) _
  have HS1 : Hid (W1.heap.size = w.heap.size + 1) := by show W1.heap.size = w.heap.size + 1; rw [hW1]; simp
  have hx1 := hx.below HB1
  clear hx hW1
  go_loopw [5, 6] (fun v i wr => ∃ (k : Nat), k ≤ n ∧ i = .int .i64 k ∧ HoldsJ wr (w.heap.size + 1) v (kss.take k).flatten ∧ Below W1.heap.size W1 wr) (fun _ i _ => n - (intOf i).toNat)
  case atStart =>
    refine ⟨0, Nat.zero_le _, rfl, ⟨by simp [flat], Or.inr ⟨w.heap.size + 1, 0, #[], rfl, Nat.le_refl _, ?_, Nat.le_refl _, by simp [maxLen], rfl, by simp [flat]⟩⟩, ?_⟩
    · rw [← HW1.out, ← HS1.out]; exact heap_alloc_new _ _
    · rw [← HW1.out]; exact (Below.refl _ _).alloc (Nat.le_refl _) _
  case round =>
    obtain ⟨k, hk, rfl, hown, hb⟩ := hrel
    by_cases hlt : k < n
    · have hltk : k < kss.length := by have := HN.out; omega
      obtain ⟨b, o, ai, ci, rfl, hc, hn⟩ := hx1 k hltk
      obtain ⟨ks, hks⟩ : ∃ ks, kss[k] = ks := ⟨_, rfl⟩
      have HKS : Hid (kss[k] = ks) := hks
      have hml : ks.length ≤ 1048576 := by have := Qjy kss k hltk; rw [hks] at this; omega
      have hdl := Qcg kss k
      have HFT : Hid ((kss.take (k + 1)).flatten = (kss.take k).flatten ++ ks) := by have := Qif kss k hltk; rw [hks] at this; exact this
      have htl : (kss.take k).flatten.length + ks.length ≤ Qfh kss := by
        have := Qcg kss (k + 1)
        rw [HFT.out, List.length_append] at this
        exact this
      obtain ⟨dn, hdn⟩ : ∃ dn, (kss.take k).flatten = dn := ⟨_, rfl⟩
      have HDN : Hid ((kss.take k).flatten = dn) := hdn
      rw [hdn] at hown hdl htl
      rw [hks] at hc hn
      clear hks hx1 hdn
      go_wp2
      go_loopw [5, 7] (fun v i wr => ∃ (j : Nat), j ≤ ks.length ∧ i = .int .i64 j ∧ HoldsJ wr (w.heap.size + 1) v (dn ++ ks.take j) ∧ Below W1.heap.size W1 wr) (fun _ i _ => ks.length - (intOf i).toNat)
      case atStart => exact ⟨0, Nat.zero_le _, rfl, by simpa using hown, hb⟩
      case round =>
        clear hown hb
        obtain ⟨j, hj, rfl, hown, hb⟩ := hrel
        have hcc := (hb.cell (p := ⟨b, o + k, none⟩) (Qaa hc)).trans hc
        by_cases hjl : j < ks.length
        · obtain ⟨b', o', rfl, hnj⟩ := hn.below hb j hjl
          obtain ⟨y, hy⟩ : ∃ y, ks[j] = y := ⟨_, rfl⟩
          have HY : Hid (ks[j] = y) := hy
          rw [hy] at hnj
          obtain ⟨e0, e1, e2, e3, e4⟩ := hnj
          clear hy hn hc
          have hlen2 : (dn ++ ks.take j).length = dn.length + j := by simp; omega
          have HL2 : Hid ((dn ++ ks.take j).length = dn.length + j) := hlen2
          clear hlen2
          go_wp2_with (at_builtin; refine wpList_append_own _ rfl _ _ 23 rfl (w.heap.size + 1) 43 i0 _ 5 48 Tryz.underlying23 hi hz0 hz1 hz2 rfl (by decide) _ _ _ rfl (hown.alloc _) ⟨_, 0, none⟩ 1 1 y.row rfl rfl ?c1 ?c2 ?c3 ?c4 ?c5 ?_)
          case c1 => exact Qoi _ y
          case c2 => exact Qvr y
          case c3 => rw [HL2.out]; unfold maxLen; omega
          case c4 => rw [HL2.out]; omega
          case c5 => have := hb.size; have := HS1.out; simp; omega
          intro v' w1 hown' hgrow _
          have H2 : HoldsJ w1 (w.heap.size + 1) v' (dn ++ ks.take (j + 1)) := by
            have := HoldsJ.push hown' (by rw [HL2.out])
            rw [List.take_succ_eq_append_getElem hjl, HY.out, ← List.append_assoc]
            exact this
          have hbb : Below W1.heap.size W1 w1 := (hb.alloc hb.size _).grown hgrow (by have := hb.size; simp; omega) (fun q hq => by have := HoldsJ.block hown q hq; have := HS1.out; omega)
          clear hown hown' hgrow hb hcc e0 e1 e2 e3 e4
          go_wp2
          go_roundw
          case rel => exact ⟨j + 1, by omega, by go_num, H2, hbb⟩
          case measure => simp [intOf]; omega
        · have hje : ks.take j = ks := List.take_of_length_le (by omega)
          have H2 : HoldsJ wr (w.heap.size + 1) u5 (kss.take (k + 1)).flatten := by
            rw [HFT.out, HDN.out]
            rw [hje] at hown
            exact hown
          clear hown hje hn hc
          go_wp2
          go_roundw
          case rel => exact ⟨k + 1, by omega, by go_num, H2, hb⟩
          case measure => simp [intOf]; omega
    · have hke : k = n := by omega
      subst hke
      have HE : Hid (kss.take k = kss) := List.take_of_length_le (by have := HN.out; omega)
      rw [HE.out] at hown
      have hfl : kss.flatten.length ≤ 1048576 := by have := Qcg kss k; rw [HE.out] at this; omega
      have hz : ∀ j, wr.cell? ⟨w.heap.size, j, none⟩ = W1.cell? ⟨w.heap.size, j, none⟩ := fun j => hb.cell (p := ⟨w.heap.size, j, none⟩) (by have := HS1.out; show w.heap.size < _; omega)
      have hf3 : wr.frozen? ⟨w.heap.size, 3, none⟩ = false := by
        rw [hb.frozen (p := ⟨w.heap.size, 3, none⟩) (by have := HS1.out; show w.heap.size < _; omega), HW1.out]
        exact frozen_of_row _ w.heap.size 3 _ 43 (heap_alloc_new _ _)
      have g0 : wr.cell? ⟨w.heap.size, 0, none⟩ = some (.int .i64 x.kind) := by rw [hz, HW1.out, cell_of_row _ w.heap.size 0 _ 43 (0, 0) (heap_alloc_new _ _)]; rfl
      have g1 : wr.cell? ⟨w.heap.size, 1, none⟩ = some (.int .i64 x.num) := by rw [hz, HW1.out, cell_of_row _ w.heap.size 1 _ 43 (0, 0) (heap_alloc_new _ _)]; rfl
      have g2 : wr.cell? ⟨w.heap.size, 2, none⟩ = some (.string x.text) := by rw [hz, HW1.out, cell_of_row _ w.heap.size 2 _ 43 (0, 0) (heap_alloc_new _ _)]; rfl
      have g3 : wr.cell? ⟨w.heap.size, 3, none⟩ = some (.int .i64 x.kids) := by rw [hz, HW1.out, cell_of_row _ w.heap.size 3 _ 43 (0, 0) (heap_alloc_new _ _)]; rfl
      have g4 : wr.cell? ⟨w.heap.size, 4, none⟩ = some (.int .i64 x.place) := by rw [hz, HW1.out, cell_of_row _ w.heap.size 4 _ 43 (0, 0) (heap_alloc_new _ _)]; rfl
      have hown3 := ownsRow_setCell_below hown (a := ⟨w.heap.size, 3, none⟩) (Nat.lt_succ_self _) (.int .i64 (k : Int))
      clear hz hx1
      go_wp2_with (at_builtin; refine wpList_append_own _ rfl _ _ 23 rfl (w.heap.size + 1) 43 i0 _ 5 48 Tryz.underlying23 hi hz0 hz1 hz2 rfl (by decide) _ _ _ rfl (hown3.alloc _) ⟨_, 0, none⟩ 1 1 (Nd.row { x with kids := (k : Int) }) rfl rfl ?d1 ?d2 ?d3 ?d4 ?d5 ?_)
      case d1 =>
        have := Qoi (wr.setCell ⟨w.heap.size, 3, none⟩ (.int .i64 (k : Int))) { x with kids := (k : Int) }
        rw [Qak] at this
        exact this
      case d2 => exact Qvr _
      case d3 => unfold maxLen; omega
      case d4 => omega
      case d5 => have := hb.size; have := HS1.out; simp; omega
      intro v' w1 hown' hgrow _
      have H2 := HoldsJ.push hown' (by rw [List.length_flatten])
      have hb2 : Below w.heap.size w wr := HB1.trans (hb.mono HB1.size)
      have hbb : Below w.heap.size w w1 := ((hb2.setCell (p := ⟨w.heap.size, 3, none⟩) (Nat.le_refl _) (.int .i64 (k : Int))).alloc (by rw [Qak]; exact hb2.size) _).grown hgrow (by have := hb2.size; simp; omega) (fun q hq => by have := HoldsJ.block hown q hq; omega)
      clear hown hown' hgrow hb hown3 g0 g1 g2 g3 g4
      go_wp2
      go_ret
      exact ⟨_, rfl, H2.mono (Nat.le_succ _), hbb⟩
end Go.Proofs.YtoiiibplkhedcaaGreatDoor
namespace Go.Proofs.YtoiiibplkhedcaaGreatDoor
def Qym (κ : Int → Int) (t : List Nd) : Prop := ∀ x ∈ metas t, ∀ y ∈ metas t, κ x = κ y → x = y
theorem Qjw {t : List Nd} {n : Nd} (hn : n ∈ t) (hk : n.kind = 61) : n.num ∈ metas t := List.mem_map.2 ⟨n, List.mem_filter.2 ⟨hn, by simpa using hk⟩, rfl⟩
theorem Jaa (f : Int) (t : List Nd) : ∀ k, k ≤ t.length → ∀ x ∈ (nmTo f t k).1, x ∈ metas t := by
  intro k
  induction k with
  | zero => intro _ x hx; simp [nmTo] at hx
  | succ k ih =>
    intro hk x hx
    rw [Qbb f t k (by omega)] at hx
    have hmem : t[k]'(by omega) ∈ t := List.getElem_mem _
    unfold Qbt at hx
    split at hx
    · next h61 =>
      simp only at hx
      split at hx
      · rcases List.mem_append.1 hx with h | h
        · exact ih (by omega) x h
        · simp at h; subst h; exact Qjw hmem h61
      · exact ih (by omega) x hx
    · exact ih (by omega) x hx
theorem Qml {κ : Int → Int} {t : List Nd} (hi : Qym κ t) {met : List Int} (hm : ∀ x ∈ met, x ∈ metas t) {x : Int} (hx : x ∈ metas t) : placeIn (met.map κ) (κ x) = placeIn met x := by
  unfold placeIn
  rw [List.findIdx_map]
  induction met with
  | nil => rfl
  | cons y met ih =>
    rw [List.findIdx_cons, List.findIdx_cons]
    have hy := hm y (by simp)
    have ih' := ih (fun z hz => hm z (by simp [hz]))
    rw [ih']
    simp only [Function.comp]
    by_cases e : y = x
    · subst e; simp
    · have : κ y ≠ κ x := fun h => e (hi y hy x hx h)
      rw [beq_eq_false_iff_ne.2 this, beq_eq_false_iff_ne.2 e]
theorem Qzz {κ : Int → Int} (f : Int) {t : List Nd} (hi : Qym κ t) : ∀ k, k ≤ t.length → nmTo f (ren κ t) k = ((nmTo f t k).1.map κ, (nmTo f t k).2) := by
  intro k
  induction k with
  | zero => intro _; rfl
  | succ k ih =>
    intro hk
    have hk' : k < (ren κ t).length := by rw [Qcl]; omega
    have hmet := Jaa f t k (by omega)
    rw [Qbb f _ k hk', Qbb f t k (by omega), ih (by omega)]
    have e : (ren κ t)[k] = renN κ (t[k]'(by omega)) := by simp [ren]
    have hmem : t[k]'(by omega) ∈ t := List.getElem_mem _
    rw [e]
    revert hmet hmem
    generalize t[k]'(by omega) = n
    generalize nmTo f t k = s
    intro hmet hmem
    unfold Qbt
    rw [Qfq]
    by_cases h61 : n.kind = 61
    · rw [if_pos h61, if_pos h61]
      have hn : (renN κ n).num = κ n.num := by simp [renN, h61]
      have e3 : (renN κ n).text = n.text ∧ (renN κ n).kids = n.kids ∧ (renN κ n).place = n.place := by simp [renN, h61]
      have hpl := Qml hi hmet (Qjw hmem h61)
      simp only [hn, hpl, List.length_map, e3.1, e3.2.1, e3.2.2]
      split
      · simp
      · rfl
    · rw [if_neg h61, if_neg h61]
      have e2 : renN κ n = n := by simp [renN, h61]
      rw [e2]
theorem Qrp {κ : Int → Int} {t : List Nd} (hi : Qym κ t) (ht : typeb t = true) (ht' : typeb (ren κ t) = true) : Qab (ren κ t) = Qab t := by
  rw [Qbk ht, Qbk ht', Qcl, Qzz 1 hi t.length (Nat.le_refl _)]
theorem Qps {s t : List Nd} (hs : typeb s = true) (ht : typeb t = true) {θ θ' : Int → List Nd} (hθ : ∀ x, One (θ x)) (hθ' : ∀ x, One (θ' x)) (h1 : fill θ s = t) (h2 : fill θ' t = s) : Qab t = Qab s ∧ t.length = s.length := by
  have hff : ∀ t : List Nd, fill θ' (fill θ t) = fill (fun x => fill θ' (θ x)) t := by
    intro t
    induction t with
    | nil => rfl
    | cons n t ih =>
      have e9 : ∀ (θ : Int → List Nd) (n : Nd) (t : List Nd), fill θ (n :: t) = Qas θ n ++ fill θ t := fun θ n t => by simp [fill]
      rw [e9, e9, Qaj, ih]
      congr 1
      unfold Qas
      by_cases hk : n.kind = 61
      · rw [if_pos hk, if_pos hk]
      · rw [if_neg hk, if_neg hk]; simp [fill, Qas, hk]
  have hsub : ∀ x ∈ metas s, ∀ n ∈ θ x, n ∈ t := by
    intro x hx n hn
    obtain ⟨m, hm, rfl⟩ := List.mem_map.1 hx
    obtain ⟨hm1, hm2⟩ := List.mem_filter.1 hm
    rw [← h1]
    refine List.mem_flatMap.2 ⟨m, hm1, ?_⟩
    unfold Qas
    rw [if_pos (by simpa using hm2)]
    exact hn
  have hlt : Leafy t := Qaq (Qal ht)
  classical
  obtain ⟨τ, hτ⟩ : ∃ τ : Int → List Nd, τ = fun x => if x ∈ metas s then fill θ' (θ x) else [Qav x] := ⟨_, rfl⟩
  have hτ1 : ∀ x, One (τ x) := by
    intro x
    subst hτ
    simp only
    split
    · next hx => exact Qec hθ' (fun n hn hk => hlt n (hsub x hx n hn) hk) (hθ x)
    · exact Qbu x
  have e : fill τ s = fill (fun x => [Qav x]) s := by
    have e9 : fill τ s = fill (fun x => fill θ' (θ x)) s := Qbi (fun x hx => by subst hτ; simp only; rw [if_pos hx])
    rw [e9, ← hff, h1, h2, Qih (Qal hs)]
  have hinj := Qda hτ1 Qbu (Qaq (Qal hs)) (Qix hs) e
  obtain ⟨κ, hκ⟩ : ∃ κ : Int → Int, κ = fun x => ((θ x).head?.map Nd.num).getD 0 := ⟨_, rfl⟩
  have hθκ : ∀ x ∈ metas s, θ x = [Qav (κ x)] ∧ θ' (κ x) = [Qav x] := by
    intro x hx
    have h9 := hinj x hx
    rw [hτ] at h9
    simp only [if_pos hx] at h9
    have hl := Qhi hθ' (θ x)
    rw [h9] at hl
    have hp := List.length_pos_iff.2 (hθ x).ne
    obtain ⟨n, hn⟩ : ∃ n, θ x = [n] := List.length_eq_one_iff.1 (by simp at hl; omega)
    have hnt := hsub x hx n (by rw [hn]; simp)
    have hpl := List.all_eq_true.1 (Qal ht) n hnt
    rw [hn] at h9
    by_cases hk : n.kind = 61
    · have hm := Qdk hpl hk
      have hkx : κ x = n.num := by rw [hκ]; simp [hn]
      refine ⟨by rw [hn, hkx, ← hm], ?_⟩
      rw [hkx]
      have ef : fill θ' [n] = θ' n.num := by simp [fill, Qas, hk]
      rw [ef] at h9
      exact h9
    · exfalso
      have ef : fill θ' [n] = [n] := by simp [fill, Qas, hk]
      rw [ef] at h9
      simp only [List.cons.injEq, and_true] at h9
      rw [h9] at hk
      exact hk rfl
  have hrm : ∀ u : List Nd, u.all Nd.plainb = true → fill (fun x => [Qav (κ x)]) u = ren κ u := by
    intro u
    induction u with
    | nil => intro _; rfl
    | cons n u ih =>
      intro hu
      simp only [List.all_cons, Bool.and_eq_true] at hu
      have e9 : fill (fun x => [Qav (κ x)]) (n :: u) = Qas (fun x => [Qav (κ x)]) n ++ fill (fun x => [Qav (κ x)]) u := by simp [fill]
      rw [e9, ih hu.2]
      unfold Qas
      by_cases hk : n.kind = 61
      · rw [if_pos hk]
        have hm := Qdk hu.1 hk
        show [Qav (κ n.num)] ++ ren κ u = renN κ n :: ren κ u
        have : renN κ n = Qav (κ n.num) := by
          rw [hm]
          simp [renN, Qav]
        rw [this]
        rfl
      · rw [if_neg hk]
        show [n] ++ ren κ u = renN κ n :: ren κ u
        have : renN κ n = n := by simp [renN, hk]
        rw [this]
        rfl
  have htr : t = ren κ s := by
    rw [← h1, ← hrm s (Qal hs)]
    exact Qbi (fun x hx => (hθκ x hx).1)
  have hInj : Qym κ s := by
    intro x hx y hy exy
    have h1 := (hθκ x hx).2
    have h2 := (hθκ y hy).2
    rw [exy, h2] at h1
    exact (Qfu h1).symm
  refine ⟨?_, by rw [htr, Qcl]⟩
  rw [htr]
  exact Qrp hInj hs (by rw [← htr]; exact ht)
structure Mgci (a b m : List Nd) : Prop where
  ea : ∃ α : Int → List Nd, (∀ x, One (α x)) ∧ fill α a = m
  eb : ∃ β : Int → List Nd, (∀ x, One (β x)) ∧ fill β b = m
  all : ∀ α β : Int → List Nd, (∀ x, One (α x)) → (∀ x, One (β x)) → fill α a = fill β b → ∃ θ : Int → List Nd, (∀ x, One (θ x)) ∧ fill θ m = fill α a
theorem Mgci.swap {a b m : List Nd} (h : Mgci a b m) : Mgci b a m := by
  refine ⟨h.eb, h.ea, fun α β hα hβ e => ?_⟩
  obtain ⟨θ, h1, h2⟩ := h.all β α hβ hα e.symm
  exact ⟨θ, h1, by rw [h2, e]⟩
theorem Mgci.same {a b m m' : List Nd} (h : Mgci a b m) (h' : Mgci a b m') (hm : typeb m = true) (hm' : typeb m' = true) : Qab m = Qab m' ∧ m.length = m'.length := by
  obtain ⟨α, ha1, ha2⟩ := h.ea
  obtain ⟨β, hb1, hb2⟩ := h.eb
  obtain ⟨α', ha1', ha2'⟩ := h'.ea
  obtain ⟨β', hb1', hb2'⟩ := h'.eb
  obtain ⟨θ, t1, t2⟩ := h'.all α β ha1 hb1 (by rw [ha2, hb2])
  obtain ⟨θ', s1, s2⟩ := h.all α' β' ha1' hb1' (by rw [ha2', hb2'])
  rw [ha2] at t2
  rw [ha2'] at s2
  exact Qps hm' hm t1 s1 t2 s2
theorem Mgci.len {a b m m' : List Nd} (h : Mgci a b m) (h' : Mgci a b m') : m.length = m'.length := by
  obtain ⟨α, ha1, ha2⟩ := h.ea
  obtain ⟨β, hb1, hb2⟩ := h.eb
  obtain ⟨α', ha1', ha2'⟩ := h'.ea
  obtain ⟨β', hb1', hb2'⟩ := h'.eb
  obtain ⟨θ, t1, t2⟩ := h'.all α β ha1 hb1 (by rw [ha2, hb2])
  obtain ⟨θ', s1, s2⟩ := h.all α' β' ha1' hb1' (by rw [ha2', hb2'])
  rw [ha2] at t2
  rw [ha2'] at s2
  have l1 := Qhi t1 m'
  have l2 := Qhi s1 m
  rw [t2] at l1
  rw [s2] at l2
  omega
theorem Qgk {l r : List Int} {x : Int} (h : x ∈ l) : placeIn (l ++ r) x = placeIn l x := by
  unfold placeIn
  have hlt : l.findIdx (· == x) < l.length := List.findIdx_lt_length_of_exists ⟨x, h, by simp⟩
  rw [List.findIdx_append, if_pos hlt]
theorem Qlk {l : List Int} {x : Int} (h : x ∈ l) : l[placeIn l x]? = some x := by
  unfold placeIn
  have hlt : l.findIdx (· == x) < l.length := List.findIdx_lt_length_of_exists ⟨x, h, by simp⟩
  rw [List.getElem?_eq_getElem hlt]
  have h8 : (l[l.findIdx (· == x)] == x) = true := List.findIdx_getElem (w := hlt)
  simpa using h8
theorem placeIn_not {l : List Int} {x : Int} : placeIn l x = l.length ↔ x ∉ l := by
  unfold placeIn
  rw [List.findIdx_eq_length]
  constructor
  · intro h hx
    have := h x hx
    simp at this
  · intro h y hy
    simp only [beq_eq_false_iff_ne]
    intro e
    exact h (e ▸ hy)
theorem Qlo (f : Int) (t : List Nd) (k : Nat) : ∀ j, k ≤ j → j ≤ t.length → ∃ r, (nmTo f t j).1 = (nmTo f t k).1 ++ r := by
  intro j
  induction j with
  | zero => intro h _; obtain rfl : k = 0 := by omega
            exact ⟨[], by simp⟩
  | succ j ih =>
    intro hkj hj
    by_cases e : k = j + 1
    · subst e; exact ⟨[], by simp⟩
    · obtain ⟨r, hr⟩ := ih (by omega) (by omega)
      rw [Qbb f t j (by omega)]
      unfold Qbt
      split
      · simp only
        split
        · exact ⟨r ++ [_], by rw [hr, List.append_assoc]⟩
        · exact ⟨r, hr⟩
      · exact ⟨r, hr⟩
theorem Qoh (f : Int) (t : List Nd) : ∃ κ : Int → Int, Qym κ t ∧ (nmTo f t t.length).2 = ren κ t := by
  obtain ⟨M, hM⟩ : ∃ M, (nmTo f t t.length).1 = M := ⟨_, rfl⟩
  have step : ∀ k (hk : k < t.length), (t[k]).kind = 61 → t[k].num ∈ (nmTo f t (k + 1)).1 ∧ placeIn (nmTo f t k).1 t[k].num = placeIn M t[k].num := by
    intro k hk h61
    obtain ⟨r, hr⟩ := Qlo f t (k + 1) t.length (by omega) (Nat.le_refl _)
    rw [hM] at hr
    have hs := Qbb f t k hk
    unfold Qbt at hs
    rw [if_pos h61] at hs
    by_cases hp : placeIn (nmTo f t k).1 t[k].num = (nmTo f t k).1.length
    · have e1 : (nmTo f t (k + 1)).1 = (nmTo f t k).1 ++ [t[k].num] := by rw [hs]; simp only; rw [if_pos hp]
      have hin : t[k].num ∈ (nmTo f t (k + 1)).1 := by rw [e1]; simp
      refine ⟨hin, ?_⟩
      rw [hr, Qgk hin, e1]
      have hnot := placeIn_not.1 hp
      rw [hp]
      unfold placeIn
      rw [List.findIdx_append, if_neg (by rw [show (nmTo f t k).1.findIdx (· == t[k].num) = (nmTo f t k).1.length from hp]; omega)]
      simp
    · have e1 : (nmTo f t (k + 1)).1 = (nmTo f t k).1 := by rw [hs]; simp only; rw [if_neg hp]
      have hin : t[k].num ∈ (nmTo f t k).1 := by
        apply Classical.byContradiction
        intro h9
        exact hp (placeIn_not.2 h9)
      refine ⟨by rw [e1]; exact hin, ?_⟩
      rw [hr, e1, Qgk hin]
  have hmem : ∀ x ∈ metas t, x ∈ M := by
    intro x hx
    obtain ⟨n, hn, rfl⟩ := List.mem_map.1 hx
    obtain ⟨hn1, hn2⟩ := List.mem_filter.1 hn
    obtain ⟨k, hk, rfl⟩ := List.getElem_of_mem hn1
    obtain ⟨r, hr⟩ := Qlo f t (k + 1) t.length (by omega) (Nat.le_refl _)
    rw [hM] at hr
    rw [hr]
    exact List.mem_append_left _ (step k hk (by simpa using hn2)).1
  refine ⟨fun x => f + (placeIn M x : Int), ?_, ?_⟩
  · intro x hx y hy e
    have e2 : placeIn M x = placeIn M y := by simp only at e; omega
    have h1 := Qlk (hmem x hx)
    have h2 := Qlk (hmem y hy)
    rw [e2, h2] at h1
    simpa using h1.symm
  · have key : ∀ k, k ≤ t.length → (nmTo f t k).2 = ren (fun x => f + (placeIn M x : Int)) (t.take k) := by
      intro k
      induction k with
      | zero => intro _; rfl
      | succ k ih =>
        intro hk
        rw [Qbb f t k (by omega), List.take_succ_eq_append_getElem (by omega), Qdj, ← ih (by omega)]
        unfold Qbt
        by_cases h61 : (t[k]'(by omega)).kind = 61
        · rw [if_pos h61]
          simp only
          congr 1
          simp only [ren, renN, List.map_cons, List.map_nil, if_pos h61]
          rw [(step k (by omega) h61).2]
        · rw [if_neg h61]
          simp only
          congr 1
          simp only [ren, renN, List.map_cons, List.map_nil, if_neg h61]
    have := key t.length (Nat.le_refl _)
    rw [List.take_length] at this
    exact this
theorem Qse {σ : Int → List Nd} {t : List Nd} {x : Int} (hx : x ∈ metas t) : (σ x).length ≤ (fill σ t).length := by
  obtain ⟨n, hn, rfl⟩ := List.mem_map.1 hx
  obtain ⟨hn1, hn2⟩ := List.mem_filter.1 hn
  have hk : n.kind = 61 := by simpa using hn2
  obtain ⟨A, B, rfl⟩ := List.append_of_mem hn1
  have e : fill σ (A ++ n :: B) = fill σ A ++ (σ n.num ++ fill σ B) := by
    rw [Qaj]
    congr 1
    simp [fill, Qas, hk]
  rw [e]
  simp
  omega
theorem Qxr (θ σ : Int → List Nd) (t : List Nd) : fill θ (fill σ t) = fill (fun x => fill θ (σ x)) t := by
  induction t with
  | nil => rfl
  | cons n t ih =>
    have e9 : ∀ (θ : Int → List Nd) (n : Nd) (t : List Nd), fill θ (n :: t) = Qas θ n ++ fill θ t := fun θ n t => by simp [fill]
    rw [e9, e9, Qaj, ih]
    congr 1
    unfold Qas
    by_cases hk : n.kind = 61
    · rw [if_pos hk, if_pos hk]
    · rw [if_neg hk, if_neg hk]; simp [fill, Qas, hk]
theorem Qjx {a b : List Nd} (ha : typeb a = true) {f : Int} (hf : (a.length : Int) < f) {α β : Int → List Nd} (hα : ∀ x, One (α x)) (hβ : ∀ x, One (β x)) :
    ∃ γ : Int → List Nd, (∀ x, One (γ x)) ∧ fill γ (Qab a) = fill α a ∧ fill γ (Qbq f b) = fill β b := by
  classical
  obtain ⟨κ, hκ, eκ⟩ := Qoh 1 a
  obtain ⟨lam, hl, el⟩ := Qoh f b
  have hx : Qab a = ren κ a := by rw [Qbk ha, eκ]
  have hy : Qbq f b = ren lam b := by unfold Qbq; rw [el]
  have hκr : ∀ n ∈ metas a, κ n ≤ (a.length : Int) := by
    intro n hn
    have := Qgf 1 a a.length (Nat.le_refl _) (κ n) (by rw [eκ, Qhd]; exact List.mem_map_of_mem hn)
    omega
  have hlr : ∀ n ∈ metas b, f ≤ lam n := by
    intro n hn
    have := Qgf f b b.length (Nat.le_refl _) (lam n) (by rw [el, Qhd]; exact List.mem_map_of_mem hn)
    omega
  refine ⟨fun y => if h : ∃ n, n ∈ metas a ∧ κ n = y then α h.choose else if h : ∃ n, n ∈ metas b ∧ lam n = y then β h.choose else [Qav y], ?_, ?_, ?_⟩
  · intro y
    simp only
    split
    · exact hα _
    · split
      · exact hβ _
      · exact Qbu y
  · rw [hx, Qeb]
    refine Qbi (fun n hn => ?_)
    have h : ∃ m, m ∈ metas a ∧ κ m = κ n := ⟨n, hn, rfl⟩
    rw [dif_pos h]
    rw [hκ _ h.choose_spec.1 _ hn h.choose_spec.2]
  · rw [hy, Qeb]
    refine Qbi (fun n hn => ?_)
    have h0 : ¬ ∃ m, m ∈ metas a ∧ κ m = lam n := by
      rintro ⟨m, hm, e⟩
      have h1 := hκr m hm
      have h2 := hlr n hn
      omega
    have h : ∃ m, m ∈ metas b ∧ lam m = lam n := ⟨n, hn, rfl⟩
    rw [dif_neg h0, dif_pos h]
    rw [hl _ h.choose_spec.1 _ hn h.choose_spec.2]
theorem Qmo {a b : List Nd} (ha : typeb a = true) {f : Int} (hf : (a.length : Int) < f) {σ : Int → List Nd} (hs : SolveOk [(Qab a, Qbq f b)] σ) : Mgci a b (fill σ (Qab a)) := by
  obtain ⟨κ, hκ, eκ⟩ := Qoh 1 a
  obtain ⟨lam, hl, el⟩ := Qoh f b
  have hx : Qab a = ren κ a := by rw [Qbk ha, eκ]
  have hy : Qbq f b = ren lam b := by unfold Qbq; rw [el]
  have hsol := hs.sol (Qab a, Qbq f b) (by simp)
  simp only at hsol
  refine ⟨⟨fun n => σ (κ n), fun n => hs.one _, by rw [hx, Qeb]⟩, ⟨fun n => σ (lam n), fun n => hs.one _, by rw [hsol, hy, Qeb]⟩, ?_⟩
  intro α β hα hβ e
  obtain ⟨γ, g1, g2, g3⟩ := Qjx (b := b) ha hf hα hβ
  have hsg : Solves γ [(Qab a, Qbq f b)] := by
    intro p hp
    simp only [List.mem_singleton] at hp
    subst hp
    simp only
    rw [g2, g3, e]
  refine ⟨γ, g1, ?_⟩
  rw [Qxr, ← g2]
  refine Qbi (fun n _ => hs.gen γ g1 hsg n)
theorem SolveOk.type_at {ps : List (List Nd × List Nd)} {σ : Int → List Nd} (hv : Qbf ps) (hs : SolveOk ps σ) {x : Int} (hx : Occ ps x) (hl : (σ x).length ≤ 300) : typeb (σ x) = true := Qmm (hs.one _) hl (hs.plain _ (Qhz hv hx))
theorem Qtz {σ : Int → List Nd} {t : List Nd} (ht : t.all Nd.plainb = true) (hσ : ∀ x ∈ metas t, (σ x).all Nd.plainb = true) : (fill σ t).all Nd.plainb = true := by
  rw [List.all_eq_true]
  intro n hn
  obtain ⟨m, hm, hnm⟩ := List.mem_flatMap.1 hn
  unfold Qas at hnm
  split at hnm
  · next hk => exact List.all_eq_true.1 (hσ m.num (Qjw hm hk)) n hnm
  · simp only [List.mem_singleton] at hnm
    subst hnm
    exact List.all_eq_true.1 ht _ hm
theorem Qfv {a b out : List Nd} {fl : Bool} (h : Qbe a b out fl) (ha : typeb a = true) (hb : typeb b = true) :
    (fl = true ∧ ∃ m, Mgci a b m ∧ typeb m = true ∧ out = Qab m) ∨ (fl = false ∧ out = [] ∧ ∀ m, Mgci a b m → 300 < m.length) := by
  rcases h with ⟨h1, _, _⟩ | ⟨_, _, hfl, f, ok, i, bs, hf, hs, ho⟩
  · rcases h1 with h1 | h1
    · rw [ha] at h1; cases h1
    · rw [hb] at h1; cases h1
  · have hf1 : 1 ≤ f := by omega
    have hla := Qao ha
    have hlb := Qao hb
    have htx : typeb (Qab a) = true := by rw [Qbk ha]; exact Qmn 1 (by omega) ha
    have hty : typeb (Qbq f b) = true := Qlp hf1 hb
    have hv : Qbf [(Qab a, Qbq f b)] := by
      refine ⟨?_, ?_⟩
      · have h1 := Qao htx
        have h2 := Qao hty
        simp
        omega
      · intro p hp
        simp only [List.mem_singleton] at hp
        subst hp
        exact ⟨htx, hty⟩
    have hocc : ∀ x, Occ [(Qab a, Qbq f b)] x → x ∈ metas (Qab a) ∨ x ∈ metas (Qbq f b) := by
      rintro x ⟨p, hp, hx⟩
      simp only [List.mem_singleton] at hp
      subst hp
      exact hx
    cases hs using SolveRes.inv with
    | bad h1 => exact absurd hv h1
    | no j _ hj _ hn =>
      right
      have hj0 : j = 0 := by simp at hj; omega
      subst hj0
      simp only [Bool.false_eq_true, if_false] at ho
      subst ho
      refine ⟨hfl, rfl, fun m hm => ?_⟩
      exfalso
      obtain ⟨α, a1, a2⟩ := hm.ea
      obtain ⟨β, b1, b2⟩ := hm.eb
      obtain ⟨γ, g1, g2, g3⟩ := Qjx (b := b) ha hf a1 b1
      refine hn γ g1 ?_
      intro p hp
      simp at hp
      subst hp
      simp only
      rw [g2, g3, a2, b2]
    | large σ x _ hsk hox hl =>
      right
      simp only [Bool.false_eq_true, if_false] at ho
      subst ho
      refine ⟨hfl, rfl, fun m hm => ?_⟩
      have hm0 := Qmo ha hf hsk
      rw [hm.len hm0]
      have hsol := hsk.sol (Qab a, Qbq f b) (by simp)
      simp only at hsol
      rcases hocc x hox with h9 | h9
      · have := Qse (σ := σ) h9; omega
      · have := Qse (σ := σ) h9; rw [← hsol] at this; omega
    | ok σ _ _ hsk hup hocc2 hall =>
      simp only [if_true] at ho
      have hm0 := Qmo ha hf hsk
      have hσ : ∀ q ∈ bs, q.2 = σ q.1 := fun q hq => (hall q hq).1
      have hfill : Qam bs (Qab a) = fill σ (Qab a) := by
        rw [Qgo bs (Qal htx)]
        refine Qbi (fun x hx => ?_)
        rw [Qxg hσ ((hocc2 x).2 ⟨_, List.mem_singleton.2 rfl, .inl hx⟩)]
        rfl
      have hts : ∀ b ∈ bs, typeb b.2 = true := by
        intro q hq
        have hoq : Occ [(Qab a, Qbq f b)] q.1 := (hocc2 q.1).1 (List.mem_map.2 ⟨q, hq, rfl⟩)
        have hl := (hall q hq).2
        rw [(hall q hq).1] at hl ⊢
        exact hsk.type_at hv hoq hl
      by_cases hw : (fill σ (Qab a)).length ≤ 300
      · left
        have htm : typeb (fill σ (Qab a)) = true := by
          refine Qmm (Qec hsk.one (Qaq (Qal htx)) (Qix htx)) hw ?_
          exact Qtz (Qal htx) (fun x hx => hsk.plain x (Qhe (Qal htx) hx))
        have hp : Qai bs (Qab a) = fill σ (Qab a) := by
          rw [Qzk htx ((Qct bs).2 hts) (by rw [hfill]; exact hw), hfill]
        rw [hp] at ho
        refine ⟨?_, _, hm0, htm, ho⟩
        rw [hfl, ho, Qga htm]
        exact decide_eq_true (Qfj htm)
      · right
        have hp : Qai bs (Qab a) = [] := by
          unfold Qai
          rw [if_neg (fun h9 => hw (by rw [← hfill]; exact h9.2.2))]
        rw [hp] at ho
        have ho2 : out = [] := by rw [ho]; simp [Qab, typeb, deepOf, Qag]
        refine ⟨by rw [hfl, ho2]; rfl, ho2, fun m hm => ?_⟩
        rw [hm.len hm0]
        omega
theorem Jac {a b out out' : List Nd} {fl fl' : Bool} (h : Qbe a b out fl) (h' : Qbe b a out' fl') : out = out' ∧ fl = fl' := by
  by_cases ha : typeb a = true
  · by_cases hb : typeb b = true
    · rcases Qfv h ha hb with ⟨h1, m, h2, h3, h4⟩ | ⟨h1, h2, h3⟩
      · rcases Qfv h' hb ha with ⟨k1, m', k2, k3, k4⟩ | ⟨k1, k2, k3⟩
        · have hsame := h2.same k2.swap h3 k3
          exact ⟨by rw [h4, k4, hsame.1], by rw [h1, k1]⟩
        · exfalso
          have := k3 m h2.swap
          have := Qao h3
          omega
      · rcases Qfv h' hb ha with ⟨k1, m', k2, k3, k4⟩ | ⟨k1, k2, k3⟩
        · exfalso
          have := h3 m' k2.swap
          have := Qao k3
          omega
        · exact ⟨by rw [h2, k2], by rw [h1, k1]⟩
    · have hb' : typeb b = false := by simpa using hb
      rcases h with ⟨_, h1, h2⟩ | ⟨_, h1, _⟩
      · rcases h' with ⟨_, k1, k2⟩ | ⟨k1, _⟩
        · exact ⟨by rw [h1, k1], by rw [h2, k2]⟩
        · exact absurd k1 hb
      · exact absurd h1 hb
  · rcases h with ⟨_, h1, h2⟩ | ⟨h1, _⟩
    · rcases h' with ⟨_, k1, k2⟩ | ⟨_, k1, _⟩
      · exact ⟨by rw [h1, k1], by rw [h2, k2]⟩
      · exact absurd k1 ha
    · exact absurd h1 ha
end Go.Proofs.YtoiiibplkhedcaaGreatDoor
