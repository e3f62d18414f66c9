
import Derived.Test.YtkmlfpfgiblcdaaIPart
import Derived.Test.YtkmlfpfgiblcdaaApp2
import Derived.Deep.Onto
namespace Go.Proofs.Ytkmlfpfgiblcdaa
open Go.RowKit Go.Shelf

attribute [local go_sem] Oper.semAt_some

theorem owns_any_but {S : Nat → Prop} {w w' : World} {base : Nat} {e : TypeId} {size n : Nat} {v : Value} {xs : List Value} (h : w.ownsRow base e size v n xs) (hb : But S w w') (hne : ∀ k, v.ownBlock = some k → ¬ S k) : w'.ownsRow base e size v n xs := by
  refine ⟨h.1, ?_⟩
  rcases h.2 with h' | ⟨g2, cap2, cur, he, hbs, hh, r⟩
  · exact Or.inl h'
  · subst he
    exact Or.inr ⟨g2, cap2, cur, rfl, hbs, (hb.block g2 (Array.getElem?_eq_some_iff.1 hh).1 (hne g2 rfl)).trans hh, r⟩

theorem owns_any_lt {w : World} {base : Nat} {e : TypeId} {size n : Nat} {v : Value} {xs : List Value} (h : w.ownsRow base e size v n xs) : ∀ k, v.ownBlock = some k → base ≤ k ∧ k < w.heap.size := by
  intro k hk
  rcases h.2 with ⟨h', _⟩ | ⟨g2, cap2, cur, he, hbs, hh, r⟩
  · subst h'; cases hk
  · subst he
    cases hk
    exact ⟨hbs, (Array.getElem?_eq_some_iff.1 hh).1⟩

/-- What the loop of AppendSeq keeps. -/
structure Kept (B : Nat) (w : World) (pre : List Sp) (U : Nat → Prop) (W : World) (v : Value) : Prop where
  box : Box1 W B 70 v
  own : W.ownsRow (B + 1) 61 3 v pre.length (flat3 pre)
  same : ∀ k, U k ↔ v.ownBlock = some k
  below : Below B w W

theorem Kept.but {B M : Nat} {w A C : World} {pre : List Sp} {U : Nat → Prop} {v : Value} (h : Kept B w pre U A v) (hM : B < M) (hb : But (fun k => M ≤ k ∧ ¬ U k) A C) : Kept B w pre U C v := by
  have hlt := h.box.lt
  exact ⟨h.box.but hb (fun hk => by omega), owns_any_but h.own hb (fun k hk hn => hn.2 ((h.same k).2 hk)), h.same, h.below.trans (hb.below (by omega) (fun k hk => by omega))⟩

theorem grown_turn {Wb w3 : World} {o : Obj} {r : Option Nat} (hg : (Wb.alloc o).grownBy w3 r) : But (fun k => r = some k) Wb w3 := by
  have hA : Below Wb.heap.size Wb (Wb.alloc o) := (Below.refl _ Wb).alloc (Nat.le_refl _) o
  refine ⟨hg.os.trans hA.os, hg.tape.trans hA.tape, hg.output.trans hA.output, Nat.le_trans hA.size hg.size, ?_⟩
  intro k hk hn
  exact (hg.block k (Nat.lt_of_lt_of_le hk hA.size) (fun e => hn e.symm)).trans (hA.block k hk)

theorem Kept.boxed {B : Nat} {w Wb w3 : World} {pre : List Sp} {U : Nat → Prop} {v : Value} {o : Obj} (h : Kept B w pre U Wb v) (hg : (Wb.alloc o).grownBy w3 v.ownBlock) : Box1 w3 B 70 v :=
  h.box.but (grown_turn hg) (fun hk => by have := owns_any_lt h.own _ hk; omega)

theorem Kept.turns {B M : Nat} {w Wb w3 : World} {pre : List Sp} {U : Nat → Prop} {v u : Value} {o : Obj} (h : Kept B w pre U Wb v) (hg : (Wb.alloc o).grownBy w3 v.ownBlock) (hM : B < M) : But (Turns B M U) Wb (w3.setCell ⟨B, 0, none⟩ u) := by
  refine ((grown_turn hg).mono ?_).setCell (p := ⟨B, 0, none⟩) ⟨Nat.le_refl _, Or.inl hM⟩ u
  intro k hk
  have := owns_any_lt h.own k hk
  exact ⟨by omega, Or.inr ((h.same k).2 hk)⟩

/-- One span more. -/
theorem Kept.push {B : Nat} {w Wb w3 : World} {pre : List Sp} {U : Nat → Prop} {v : Value} {s : Sp} {g' c' : Nat} {o : Obj} (h : Kept B w pre U Wb v)
    (hown : w3.ownsRow (B + 1) 61 3 (.slice (some ⟨g', 0, none⟩) (pre.length + 1) c') (pre.length + 1) (flat3 pre ++ s.row)) (hg : (Wb.alloc o).grownBy w3 v.ownBlock) :
    Kept B w (pre ++ [s]) (· = g') (w3.setCell ⟨B, 0, none⟩ (.slice (some ⟨g', 0, none⟩) (pre.length + 1) c')) (.slice (some ⟨g', 0, none⟩) (pre.length + 1) c') := by
  have hl := owns_any_lt h.own
  have hg' := owns_any_lt hown g' rfl
  have hlt := h.box.lt
  have hb3 := grown_turn hg
  have hbox3 : Box1 w3 B 70 v := h.box.but hb3 (fun hk => by have := hl _ hk; omega)
  have hset : But (· = B) w3 (w3.setCell ⟨B, 0, none⟩ (.slice (some ⟨g', 0, none⟩) (pre.length + 1) c')) := (But.refl (· = B) w3).setCell (p := ⟨B, 0, none⟩) rfl _
  refine ⟨hbox3.set _, ?_, ?_, ?_⟩
  · have h9 : w3.ownsRow (B + 1) 61 3 (.slice (some ⟨g', 0, none⟩) (pre.length + 1) c') (pre ++ [s]).length (flat3 (pre ++ [s])) := by
      rw [flat3_append]
      have e : flat3 [s] = s.row := by simp [flat3]
      rw [e]
      simpa using hown
    refine owns_any_but h9 hset ?_
    intro k hk e
    have := owns_any_lt hown k hk
    omega
  · intro k
    simp only [Value.ownBlock, Option.some.injEq]
    exact ⟨fun e => e.symm, fun e => e.symm⟩
  · have h1 : Below B w w3 := h.below.trans (hb3.below (by omega) (fun k hk => by have := hl k hk; omega))
    exact h1.setCell (p := ⟨B, 0, none⟩) (Nat.le_refl _) _

set_option maxRecDepth 100000 in
set_option maxHeartbeats 2000000 in
theorem appendSeq_any (t : List Nd) (m : Nat) (HM : Hid (t.length = m)) (hm : m ≤ 6000) (h0 : 0 < m) (S ys : List Sp) (HA : Hid (after t m = some (S, ys))) (ao : Option Addr) (cap Bn : Nat) (w : World) (hx : Nodes w ao t) (hbox : Box1 w Bn 25 (.slice ao m cap)) :
    Calls Try.prog 56 #[.slice none 0 0, .func (.func 49) #[] #[.pointer (some ⟨Bn, 0, none⟩)]] w fun e w' => ∃ g c, e = .returned (.slice (some ⟨g, 0, none⟩) m c) ∧ Free w' w.heap.size g m c ys ∧ Below w.heap.size w w' := by
  obtain ⟨i0, hi, hz0, hz1, hz2⟩ := info_parts Try.infoSp
  obtain ⟨n, hn⟩ : ∃ n : Nat, 6 ≤ n := ⟨6, Nat.le_refl _⟩
  refine (callsIn_wide (n := n)).1 ?_
  refine callsIn_of_wp_marks Try.func56 rfl trivial ?_
  simp only [Try.ntmps56, List.size_toArray, List.length_cons, List.length_nil, Nat.reduceAdd, Nat.reduceSub, Array.replicate_succ, Array.replicate_zero, List.push_toArray, List.append_toArray, List.nil_append, List.cons_append]
  gi_wp2
  obtain ⟨W1, hW1⟩ : ∃ W1, w.alloc (.cells #[.slice none 0 0] 70) = W1 := ⟨_, rfl⟩
  have hB1 : Below w.heap.size w W1 := by rw [← hW1]; exact (Below.refl _ w).alloc (Nat.le_refl _) _
  have hs1 : W1.heap.size = w.heap.size + 1 := by rw [← hW1]; simp
  have bL : Box1 W1 w.heap.size 70 (.slice none 0 0) := by rw [← hW1]; exact Box1.new _ _ _
  have bT : Box1 W1 Bn 25 (.slice ao m cap) := by rw [← hW1]; exact hbox.alloc _
  have hBn : Bn < W1.heap.size := bT.lt
  try rw [hW1]
  clear hW1 hbox
  refine wpIn_range2 (α := Sp) rfl (by omega) (gf := 49) (lb := #[.pointer (some ⟨Bn, 0, none⟩)]) rfl trivial (enters_of Try.func49 (by kernel_rfl) rfl)
    (encs := encSp) w.heap.size hB1.size (spans1_turn t m HM (by omega) ao cap Bn w.heap.size (n - 1) W1 hB1.size hBn bT.cell w rfl hx hB1) (fun _ => rfl)
    (fun pre U W => ∃ v, Kept w.heap.size w pre U W v)
    (fun _ _ _ => False) ?hI (fun _ _ _ _ h _ => h) ?hRd ⟨_, bL, ⟨rfl, Or.inl ⟨rfl, rfl⟩⟩, fun k => ⟨fun h => h.elim, fun h => by cases h⟩, hB1⟩ ?round ?done (fun _ _ _ _ h _ => h.elim)
  case hI =>
    rintro s U A C ⟨v, h⟩ hb
    exact ⟨v, h.but (by omega) hb⟩
  case hRd =>
    rintro s U A ⟨v, h⟩
    exact ⟨fun k hk => (owns_any_lt h.own k ((h.same k).1 hk)).2, trivial⟩
  case round =>
    rintro pre U s W ⟨v, hK⟩ hU hlen hfit hsz
    simp only [encSp]
    gi_wp2
    refine ⟨But.ofBelow ((Below.refl _ W).alloc (Nat.le_refl _) _), ?_⟩
    intro Wb hWb
    have bs : Box3 Wb W.heap.size (.int .i64 (s.fr : Int)) (.int .i64 (s.rt : Int)) (.int .i64 (s.dp : Int)) := (hWb.block W.heap.size (by simp) (by omega)).trans (Box3.new W _ _ _)
    have hKb : Kept w.heap.size w pre U Wb v := by
      have hA : Below W.heap.size W (W.alloc (.cells #[.int .i64 (s.fr : Int), .int .i64 (s.rt : Int), .int .i64 (s.dp : Int)] 61)) := (Below.refl _ W).alloc (Nat.le_refl _) _
      refine (hK.but (M := w.heap.size + 1) (by omega) (But.ofBelow hA)).but (M := w.heap.size + 1) (by omega) (hWb.mono ?_)
      rintro k rfl
      exact ⟨by omega, fun h => by have := hU _ h; omega⟩
    have hWbs : W.heap.size < Wb.heap.size := bs.lt
    obtain ⟨u0, u1, u2⟩ := bs.cells
    have v0 := hKb.box.cell
    have hpl : pre.length ≤ 6000 := by omega
    have hbs := hKb.box.lt
    have HK : Hid (Kept w.heap.size w pre U Wb v) := hKb
    clear hWb hK hKb bs
    gi_wp2_with (gi_at_builtin; refine wpListIn_append3 _ rfl _ _ 70 rfl (w.heap.size + 1) 61 i0 _ 3 24 Try.underlying70 hi hz0 hz1 hz2 rfl (by decide) v pre.length (flat3 pre) rfl (HK.out.own.alloc _) ⟨Wb.heap.size, 0, none⟩ 1 1 s.row rfl rfl (new3_cells _ s) (row3_one s) (by omega) (by unfold maxLen; omega) (by omega) (by simp; omega) ?_; intro g' c' w3 hown3 hgrow3 hwh; have b3 := HK.out.boxed hgrow3; have q3 := b3.cell; have f3 := b3.frozen)
    refine ⟨HK.out.turns hgrow3 (by omega), _, ⟨_, HK.out.push hown3 hgrow3⟩, ?_⟩
    rintro k rfl
    exact hwh.elim (fun h => Or.inl ((HK.out.same _).2 h)) (fun h => Or.inr (by simp at h; omega))
  case done =>
    rintro xs U W hcame ⟨v, hK⟩ hD
    have hxs : xs = ys := came_all hcame (by rw [HM.out]; exact HA.out)
    have hyl := (after_fine HA.out).len
    subst hxs
    have hown := hK.own
    rw [hyl] at hown
    obtain ⟨g, c, rfl⟩ : ∃ g c, v = .slice (some ⟨g, 0, none⟩) m c := by
      rcases hown.2 with ⟨_, h⟩ | ⟨g2, cap2, cur, he, _⟩
      · omega
      · exact ⟨g2, cap2, he⟩
    have hgl := owns_any_lt hown g rfl
    have hput : But (· = W1.heap.size) W (W.putObj W1.heap.size (.deferred none)) := But.putObj _ _ _ rfl
    have hDl : W1.heap.size < W.heap.size := (Array.getElem?_eq_some_iff.1 hD).1
    have hq := hK.box.cell
    have hbl := hK.below
    have hbx := hK.box.lt
    have hgne : g ≠ W1.heap.size := by
      rcases hown.2 with ⟨h, _⟩ | ⟨g2, cap2, cur, he, _, hh, _⟩
      · cases h
      · cases he
        rintro rfl
        rw [hD] at hh
        cases hh
    have hF : Free (W.putObj W1.heap.size (.deferred none)) w.heap.size g m c xs := ⟨hyl, (owns_but hown hput hgne).mono (by omega)⟩
    have hb9 := hbl.trans (hput.below hbl.size (fun k hk => by omega))
    clear hcame
    gi_wp2
    refine ⟨by simp, .inl ⟨_, _, rfl, run_takeDeferred hD, ?_⟩⟩
    exact ⟨_, results_tmp rfl _ _ _, _, _, rfl, hF, hb9⟩

set_option maxHeartbeats 400000 in
theorem collect_any (t : List Nd) (m : Nat) (HM : Hid (t.length = m)) (hm : m ≤ 6000) (h0 : 0 < m) (S ys : List Sp) (HA : Hid (after t m = some (S, ys))) (ao : Option Addr) (cap Bn : Nat) (w : World) (hx : Nodes w ao t) (hbox : Box1 w Bn 25 (.slice ao m cap)) :
    Calls Try.prog 54 #[.func (.func 49) #[] #[.pointer (some ⟨Bn, 0, none⟩)]] w fun e w' => ∃ g c, e = .returned (.slice (some ⟨g, 0, none⟩) m c) ∧ Free w' w.heap.size g m c ys ∧ Below w.heap.size w w' := by
  go_enter Try.func54, Try.ntmps54
  go_wp2_with fail
  refine (appendSeq_any t m HM hm h0 S ys HA ao cap Bn w hx hbox).mono ?_
  rintro e w1 ⟨g, c, rfl, hF, hb⟩
  clear hx hbox
  go_wp2
  go_ret
  exact ⟨_, _, rfl, hF, hb⟩

end Go.Proofs.Ytkmlfpfgiblcdaa
