import Derived.Test.YtljdcaoibnikjaaWAD
import Derived.Test.YtljdcaoibnikjaaWAM
import Derived.Test.YtljdcaoibnikjaaWAO
import Derived.Test.YtljdcaoibnikjaaWAP
import Derived.Test.YtljdcaoibnikjaaBR
namespace Go.Proofs.Ytljdcaoibnikjaa

open Go.RowKit

set_option maxHeartbeats 2000000 in
theorem specSame_any (xs ys : List Nd) (n m : Nat) (HX : Hid (xs.length = n)) (HY : Hid (ys.length = m)) (ao bo : Option Addr) (cap cbp : Nat) (w : World) (hx : Nodes w ao xs) (hy : Nodes w bo ys) (hlx : n ≤ 140737488355328) (hly : m ≤ 140737488355328) :
    Calls Try.prog 45 #[.slice ao n cap, .slice bo m cbp] w fun e w' =>
      (∃ r : Bool, e = .returned (.bool r) ∧ (r = true ↔ Alike Nd.sameb xs ys)) ∧ Below w.heap.size w w' := by
  by_cases hl : n = m
  · subst hl
    go_enter Try.func45, Try.ntmps45
    go_wp2
    go_loopw [5] (fun i wr => ∃ (k : Nat), k ≤ n ∧ i = .int .i64 k ∧ (∀ i (h : i < xs.length) (h' : i < ys.length), i < k → xs[i].sameb ys[i] = true) ∧ Below w.heap.size w wr) (fun i _ => n - (intOf i).toNat)
    case atStart => exact ⟨0, Nat.zero_le _, rfl, fun i _ _ h => absurd h (by omega), Below.refl _ _⟩
    case round =>
      obtain ⟨k, hk, rfl, hall, hb⟩ := hrel
      by_cases hlt : k < n
      · have hltx : k < xs.length := by have := HX.out; omega
        have hlty : k < ys.length := by have := HY.out; omega
        obtain ⟨x, hxk⟩ : ∃ x, xs[k] = x := ⟨_, rfl⟩
        obtain ⟨y, hyk⟩ : ∃ y, ys[k] = y := ⟨_, rfl⟩
        obtain ⟨b, o, rfl, hcx⟩ := hx.below hb k hltx
        obtain ⟨b', o', rfl, hcy⟩ := hy.below hb k hlty
        rw [hxk] at hcx
        rw [hyk] at hcy
        obtain ⟨c0, c1, c2, c3, c4⟩ := hcx
        obtain ⟨e0, e1, e2, e3, e4⟩ := hcy
        have hlb : b < wr.heap.size := lt_of_cell c0
        have hlb' : b' < wr.heap.size := lt_of_cell e0
        clear hx hy
        have hne := neqN x y
        cases hq : x.sameb y
        · rw [hq] at hne
          have HA : Hid (∀ i (h : i < xs.length) (h' : i < ys.length), i < k → xs[i].sameb ys[i] = true) := hall
          have HXK : Hid (xs[k] = x) := hxk
          have HYK : Hid (ys[k] = y) := hyk
          clear hall hxk hyk
          go_wp2_with fail
          go_region_with (first | (go_at_call_of 66 (x.text); refine (bare_any x _).mono ?_; rintro e w1 ⟨rfl, hb1⟩; first | have hc1 := bcell_drew hb1 | skip) | (go_at_call_of 66 (y.text); refine (bare_any y _).mono ?_; rintro e w2 ⟨rfl, hb2⟩; first | have hc1 := bcell_drew hb2 | skip))
          all_goals
            first | have hbb := Below.step (Below.step hb (undrew hb1)) hb2 | have hbb := Below.step (Below.step hb (undrew hb2)) hb1
            clear hb hb1 hb2 hc1 c0 c1 c2 c3 c4 e0 e1 e2 e3 e4 hne
            go_wp2
            go_ret
            exact ⟨⟨false, rfl, by simp only [Bool.false_eq_true, false_iff]; intro ha; have := ha.2 k hltx hlty; rw [HXK.out, HYK.out, hq] at this; cases this⟩, hbb⟩
        · rw [hq] at hne
          have HA : Hid (∀ i (h : i < xs.length) (h' : i < ys.length), i < k + 1 → xs[i].sameb ys[i] = true) := by
            intro i h h' hi
            by_cases e : i = k
            · subst e; rw [hxk, hyk]; exact hq
            · exact hall i h h' (by omega)
          have HXK : Hid (xs[k] = x) := hxk
          have HYK : Hid (ys[k] = y) := hyk
          clear hall hxk hyk
          go_wp2_with fail
          go_region_with (first | (go_at_call_of 66 (x.text); refine (bare_any x _).mono ?_; rintro e w1 ⟨rfl, hb1⟩; first | have hc1 := bcell_drew hb1 | skip) | (go_at_call_of 66 (y.text); refine (bare_any y _).mono ?_; rintro e w2 ⟨rfl, hb2⟩; first | have hc1 := bcell_drew hb2 | skip))
          all_goals
            first | have hbb := Below.step (Below.step hb (undrew hb1)) hb2 | have hbb := Below.step (Below.step hb (undrew hb2)) hb1
            clear hb hb1 hb2 hc1 c0 c1 c2 c3 c4 e0 e1 e2 e3 e4 hne
            go_wp2
            go_roundw
            case rel => exact ⟨k + 1, by omega, by go_num, HA.out, hbb⟩
            case measure => simp [intOf]; omega
      · have HA : Hid (Alike Nd.sameb xs ys) := ⟨HX.out.trans HY.out.symm, fun i h h' => hall i h h' (by have := HX.out; omega)⟩
        clear hall hx hy
        go_wp2
        go_ret
        exact ⟨⟨true, rfl, by simp only [true_iff]; exact HA.out⟩, hb⟩
  · have hne : ((n : Int) != (m : Int)) = true := by simp; omega
    clear hx hy
    go_enter Try.func45, Try.ntmps45
    go_wp2
    go_ret
    exact ⟨⟨false, rfl, by simp only [Bool.false_eq_true, false_iff]; intro ha; exact hl (HX.out.symm.trans (ha.1.trans HY.out))⟩, Below.refl _ _⟩

/-- A slice of Binds of the call's own, to be appended to. -/
def OwnBs (w : World) (B g c l : Nat) (ps : List (Value × Value)) : Prop := ps.length = l ∧ w.ownsRow B 52 2 (.slice (some ⟨g, 0, none⟩) l c) l (cells2 ps)

theorem OwnBs.row {w : World} {B g c l : Nat} {ps : List (Value × Value)} (h : OwnBs w B g c l ps) : B ≤ g ∧ OwnB w g ps := by
  obtain ⟨hl, ho⟩ := h
  rcases ho.2 with ⟨h', _⟩ | ⟨g2, cap2, cur, he, hb, hh, _, _, _, htake⟩
  · cases h'
  · simp only [Value.slice.injEq, Option.some.injEq, Addr.mk.injEq, and_true, true_and] at he
    obtain ⟨rfl, rfl⟩ := he
    exact ⟨hb, cur, cur.toList.drop (l * 2), hh, by rw [← htake, List.take_append_drop]⟩

theorem OwnBs.empty {w : World} {B : Nat} (hB : B ≤ w.heap.size) : OwnBs (w.alloc (.cells #[] 52)) B w.heap.size 0 0 [] :=
  ⟨rfl, rfl, Or.inr ⟨_, 0, #[], rfl, hB, heap_alloc_new _ _, Nat.le_refl _, by simp [maxLen], rfl, rfl⟩⟩

theorem OwnBs.alloc {w : World} {B g c l : Nat} {ps : List (Value × Value)} (h : OwnBs w B g c l ps) (o : Obj) : OwnBs (w.alloc o) B g c l ps := ⟨h.1, h.2.alloc o⟩

theorem OwnBs.but {S : Nat → Prop} {w w' : World} {B g c l : Nat} {ps : List (Value × Value)} (h : OwnBs w B g c l ps) (hb : But S w w') (hn : ¬ S g) : OwnBs w' B g c l ps := ⟨h.1, owns_but h.2 hb hn⟩

theorem OwnBs.below {w w' : World} {B g c l : Nat} {ps : List (Value × Value)} (h : OwnBs w B g c l ps) (hb : Below w.heap.size w w') : OwnBs w' B g c l ps := h.but (S := fun _ => False) (But.ofBelow hb) (fun h => h)

theorem OwnBs.kept {w w' : World} {B g c l k : Nat} {ps : List (Value × Value)} (h : OwnBs w B g c l ps) (hg : w.grownBy w' (some k)) (hne : g ≠ k) : OwnBs w' B g c l ps := ⟨h.1, owns_kept h.2 hg hne⟩

theorem OwnBs.push {w : World} {B g c l m : Nat} {ps : List (Value × Value)} {x : Value × Value} (h : w.ownsRow B 52 2 (.slice (some ⟨g, 0, none⟩) m c) m (cells2 ps ++ [x.1, x.2])) (hl : ps.length = l) (hm : m = l + 1) : OwnBs w B g c (l + 1) (ps ++ [x]) := by
  subst hm
  refine ⟨by simp [hl], ?_⟩
  rw [cells2_append]
  exact h

theorem bind_cells (w : World) (a : Int) (v : Value) : ∀ j u, [Value.int .i64 a, v][j]? = some u → (w.alloc (.cells #[.int .i64 a, v] 52)).cell? (Addr.add ⟨w.heap.size, 0, none⟩ j) = some u := by
  intro j u hj
  have ad : Addr.add ⟨w.heap.size, 0, none⟩ j = ⟨w.heap.size, j, none⟩ := by
    unfold Addr.add
    split
    · simp_all
    · simp
  rw [ad, cell_of_row _ w.heap.size j _ 52 (0, 0) (heap_alloc_new _ _), ← hj]
  simp

theorem bind_one (a : Int) (ao : Option Addr) (l c : Nat) : ∀ u ∈ [Value.int .i64 a, .slice ao l c], u.oneCell' = true := by
  intro u hu
  simp at hu
  rcases hu with rfl | rfl <;> rfl

theorem Row.kept {w w' : World} {g k : Nat} {ys : List Nd} (h : Row w g ys) (hg : w.grownBy w' (some k)) (hne : g ≠ k) : Row w' g ys := by
  have hlt := h.lt
  obtain ⟨cur, rest, hc, he⟩ := h
  exact ⟨cur, rest, (hg.block g hlt (by simpa using hne)).trans hc, he⟩

theorem TwoR.snoc {w w' : World} {g g' gp cp : Nat} {rs : List (Nat × Nat)} {bs : List (Int × List Nd)} {x : Int} {Y : List Nd} (h : TwoR w g rs bs) (ho : OwnB w' g' (leadR rs bs ++ [(.int .i64 x, .slice (some ⟨gp, 0, none⟩) Y.length cp)]))
    (hr : ∀ i (h : i < rs.length) (h' : i < bs.length), Row w' rs[i].1 bs[i].2) (hy : Row w' gp Y) (hne : ∀ r ∈ rs, r.1 ≠ gp) : TwoR w' g' (rs ++ [(gp, cp)]) (bs ++ [(x, Y)]) := by
  refine ⟨by simp [h.len], ?_, ?_, ?_⟩
  · have e : leadR (rs ++ [(gp, cp)]) (bs ++ [(x, Y)]) = leadR rs bs ++ [(.int .i64 x, .slice (some ⟨gp, 0, none⟩) Y.length cp)] := by
      unfold leadR
      rw [List.zipWith_append h.len]
      rfl
    rw [e]
    exact ho
  · intro i h1 h2
    by_cases hi : i < rs.length
    · have hi' : i < bs.length := by have := h.len; omega
      rw [List.getElem_append_left hi, List.getElem_append_left hi']
      exact hr i hi hi'
    · have hl := h.len
      have e : i = rs.length := by simp at h1; omega
      subst e
      rw [List.getElem_append_right (Nat.le_refl _), List.getElem_append_right (by omega)]
      simpa using hy
  · rw [List.map_append, List.nodup_append]
    refine ⟨h.nodup, by simp, ?_⟩
    intro a ha b hb
    simp at hb
    subst hb
    obtain ⟨r, hr1, rfl⟩ := List.mem_map.1 ha
    exact hne r hr1

theorem placeIn_mem {xs : List Int} {x : Int} (h : x ∈ xs) : placeIn xs x < xs.length := by
  unfold placeIn
  exact List.findIdx_lt_length_of_exists ⟨x, h, by simp⟩

end Go.Proofs.Ytljdcaoibnikjaa
