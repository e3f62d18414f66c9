
import Derived.Test.YtkmlfpfgiblcdaaIDeep
import Derived.Test.YtkmlfpfgiblcdaaClone
namespace Go.Proofs.Ytkmlfpfgiblcdaa
open Go.RowKit Go.Shelf

attribute [local go_sem] Oper.semAt_some

/-- A box of one cell. -/
def Box1 (w : World) (b : Nat) (t : TypeId) (v : Value) : Prop := w.heap[b]? = some (.cells #[v] t (0, 0))

theorem Box1.lt {w : World} {b : Nat} {t : TypeId} {v : Value} (h : Box1 w b t v) : b < w.heap.size := (Array.getElem?_eq_some_iff.1 h).1

theorem Box1.cell {w : World} {b : Nat} {t : TypeId} {v : Value} (h : Box1 w b t v) : w.cell? ⟨b, 0, none⟩ = some v := by rw [cell_of_row w b 0 _ t (0, 0) h]; rfl

theorem Box1.frozen {w : World} {b : Nat} {t : TypeId} {v : Value} (h : Box1 w b t v) : w.frozen? ⟨b, 0, none⟩ = false := frozen_of_row w b 0 _ t h

theorem Box1.set {w : World} {b : Nat} {t : TypeId} {v : Value} (h : Box1 w b t v) (u : Value) : Box1 (w.setCell ⟨b, 0, none⟩ u) b t u := heap_setCell_same w b 0 _ t u h

theorem Box1.below {w w' : World} {B b : Nat} {t : TypeId} {v : Value} (h : Box1 w b t v) (hb : Below B w w') (hlt : b < B) : Box1 w' b t v := (hb.block b hlt).trans h

theorem Box1.but {S : Nat → Prop} {w w' : World} {b : Nat} {t : TypeId} {v : Value} (h : Box1 w b t v) (hb : But S w w') (hs : ¬ S b) : Box1 w' b t v := (hb.block b h.lt hs).trans h

theorem Box1.new (w : World) (t : TypeId) (v : Value) : Box1 (w.alloc (.cells #[v] t)) w.heap.size t v := heap_alloc_new _ _

theorem Box1.alloc {w : World} {b : Nat} {t : TypeId} {v : Value} (h : Box1 w b t v) (o : Obj) : Box1 (w.alloc o) b t v := (Below.heap_alloc w o b h.lt).trans h

/-- The three boxes of Part. -/
def boxes (w : World) (g m cm : Nat) (i : Int) : World :=
  ((w.alloc (.cells #[.slice (some ⟨g, 0, none⟩) m cm] 25)).alloc (.cells #[.int .i64 i] 3)).alloc (.cells #[.slice none 0 0] 25)

theorem boxes_size (w : World) (g m cm : Nat) (i : Int) : (boxes w g m cm i).heap.size = w.heap.size + 3 := by simp [boxes]

theorem boxes_below (w : World) (g m cm : Nat) (i : Int) : Below w.heap.size w (boxes w g m cm i) := (((Below.refl _ w).alloc (Nat.le_refl _) _).alloc (by simp) _).alloc (by simp; omega) _

theorem boxes_at (w : World) (g m cm : Nat) (i : Int) : Box1 (boxes w g m cm i) w.heap.size 25 (.slice (some ⟨g, 0, none⟩) m cm) ∧ Box1 (boxes w g m cm i) (w.heap.size + 1) 3 (.int .i64 i) ∧ Box1 (boxes w g m cm i) (w.heap.size + 1 + 1) 25 (.slice none 0 0) := by
  refine ⟨((Box1.new w _ _).alloc _).alloc _, ?_, ?_⟩
  · have := (Box1.new (w.alloc (.cells #[.slice (some ⟨g, 0, none⟩) m cm] 25)) 3 (.int .i64 i)).alloc (.cells #[.slice none 0 0] 25)
    rw [World.size_alloc] at this
    exact this
  · have := Box1.new ((w.alloc (.cells #[.slice (some ⟨g, 0, none⟩) m cm] 25)).alloc (.cells #[.int .i64 i] 3)) 25 (.slice none 0 0)
    rw [World.size_alloc, World.size_alloc] at this
    exact this

set_option maxHeartbeats 1000000 in
theorem implPart_badC (t : List Nd) (m cm : Nat) (i : Int) (HM : Hid (t.length = m)) (hm : m ≤ 1048576) (g : Nat) (w : World) (hx : Row w g t) (hd : ¬ 0 < deepOf t) :
    Calls Try.prog 29 #[.slice (some ⟨g, 0, none⟩) m cm, .int .i64 i] w fun e w' => ∃ g' c l, e = .returned (.slice (some ⟨g', 0, none⟩) l c) ∧ w.heap.size ≤ g' ∧ (partOf t i).length = l ∧ Row w' g' (partOf t i) ∧ Below w.heap.size w w' := by
  have HP : Hid (partOf t i = []) := partOf_none (fun h => hd h.1)
  have e1 : decide (0 < deepOf t) = false := by simp; omega
  have hxb := hx.below (boxes_below w g m cm i)
  have hbb := boxes_below w g m cm i
  have hsz := boxes_size w g m cm i
  obtain ⟨k0, k1, k2⟩ := boxes_at w g m cm i
  have HB : Hid (boxes w g m cm i = ((w.alloc (.cells #[.slice (some ⟨g, 0, none⟩) m cm] 25)).alloc (.cells #[.int .i64 i] 3)).alloc (.cells #[.slice none 0 0] 25)) := rfl
  clear hx hd
  go_enter Try.func29, Try.ntmps29
  go_wp2_with fail
  rw [← HB.out]
  refine (implGood_any t m HM hm _ _ _ hxb.nodes).mono ?_
  rintro e w1 ⟨rfl, hb⟩
  rw [e1]
  have k2' := k2.below hb k2.lt
  have q2 := k2'.cell
  have f2 := k2'.frozen
  have hb2 := Below.step hbb hb
  have hq3 : w.heap.size + 1 + 1 < w1.heap.size := by have := hb.size; omega
  have hres : ((w1.setCell ⟨w.heap.size + 1 + 1, 0, none⟩ (.slice (some ⟨w1.heap.size, 0, none⟩) 0 0)).alloc (.cells #[] 36)).cell? ⟨w.heap.size + 1 + 1, 0, none⟩ = some (.slice (some ⟨w1.heap.size, 0, none⟩) 0 0) := ((k2'.set _).alloc _).cell
  have hfin : Row ((w1.setCell ⟨w.heap.size + 1 + 1, 0, none⟩ (.slice (some ⟨w1.heap.size, 0, none⟩) 0 0)).alloc (.cells #[] 36)) w1.heap.size [] := by
    have h9 := (OwnN.empty (w := w1.setCell ⟨w.heap.size + 1 + 1, 0, none⟩ (.slice (some ⟨w1.heap.size, 0, none⟩) 0 0)) (B := w.heap.size) (by rw [size_setCell]; exact hb2.size)).row.2
    rw [size_setCell] at h9
    exact h9
  have hbf := (hb2.setCell (p := ⟨w.heap.size + 1 + 1, 0, none⟩) (by show w.heap.size ≤ w.heap.size + 1 + 1; omega) (.slice (some ⟨w1.heap.size, 0, none⟩) 0 0)).alloc (by rw [size_setCell]; exact hb2.size) (.cells #[] 36)
  clear hxb hbb k0 k1 k2 k2' hb e1
  go_wp2
  refine bodyPost_ret (v := .slice (some ⟨w1.heap.size, 0, none⟩) 0 0) (by simp [results, Try.results29, go_sem, hres]) rfl ?_
  exact ⟨_, _, _, rfl, by omega, by rw [HP.out]; rfl, by rw [HP.out]; exact hfin, hbf⟩

theorem came_all {t : List Nd} {S ys xs : List Sp} (h : Came t xs) (ha : after t t.length = some (S, ys)) : xs = ys := by
  obtain ⟨k, S', hk, he⟩ := h
  have hle := after_le hk
  by_cases hkl : k = t.length
  · subst hkl
    rw [ha] at hk
    simp only [Option.some.injEq, Prod.mk.injEq] at hk
    exact hk.2.symm
  · have hn : after t (k + 1) = none := by
      rcases he with h | h
      · exact absurd h hkl
      · exact h
    rw [after_none hn t.length (by omega)] at ha
    cases ha

set_option maxRecDepth 100000 in
set_option maxHeartbeats 2000000 in
theorem implPart_goodC (t : List Nd) (m cm : Nat) (hcm : m ≤ cm) (i : Int) (HM : Hid (t.length = m)) (g : Nat) (w : World) (hx : Row w g t) (hd : 0 < deepOf t) :
    Calls Try.prog 29 #[.slice (some ⟨g, 0, none⟩) m cm, .int .i64 i] w fun e w' => ∃ g' c l, e = .returned (.slice (some ⟨g', 0, none⟩) l c) ∧ w.heap.size ≤ g' ∧ (partOf t i).length = l ∧ Row w' g' (partOf t i) ∧ Below w.heap.size w w' := by
  obtain ⟨h0, h6, S, ys, ha, hyl⟩ := deep_after HM.out hd
  have HA : Hid (after t m = some (S, ys)) := ha
  have HYL : Hid (ys.length = m) := hyl
  have HD : Hid (0 < deepOf t) := hd
  have e1 : decide (0 < deepOf t) = true := by simp [hd]
  have hxb := hx.below (boxes_below w g m cm i)
  have hbb := boxes_below w g m cm i
  have hsz := boxes_size w g m cm i
  obtain ⟨k0, k1, k2⟩ := boxes_at w g m cm i
  have HB : Hid (boxes w g m cm i = ((w.alloc (.cells #[.slice (some ⟨g, 0, none⟩) m cm] 25)).alloc (.cells #[.int .i64 i] 3)).alloc (.cells #[.slice none 0 0] 25)) := rfl
  have hglt := hx.lt
  clear ha hyl hd
  obtain ⟨n, hn⟩ : ∃ n : Nat, 6 ≤ n := ⟨6, Nat.le_refl _⟩
  refine (callsIn_wide (n := n)).1 ?_
  refine callsIn_of_wp_marks Try.func29 rfl trivial ?_
  simp only [Try.ntmps29, List.size_toArray, List.length_cons, List.length_nil, Nat.reduceAdd, Nat.reduceSub, Array.replicate_succ, Array.replicate_zero, List.push_toArray, List.append_toArray, List.nil_append, List.cons_append]
  gi_wp2_with fail
  rw [← HB.out]
  refine ⟨trivial, fun h => (by cases h), callsIn_wide.2 ((implGood_any t m HM (by omega) _ _ _ hxb.nodes).mono ?_)⟩
  rintro e w1 ⟨rfl, hb⟩
  rw [e1]
  have k0' := k0.below hb k0.lt
  have k1' := k1.below hb k1.lt
  have k2' := k2.below hb k2.lt
  have c0 := k0'.cell
  have hb2 := Below.step hbb hb
  have hq3 : w.heap.size + 1 + 1 < w1.heap.size := by have := hb.size; omega
  clear hxb hbb k0 k1 k2 hb e1
  gi_wp2_with fail
  refine ⟨trivial, fun h => (by cases h), callsIn_wide.2 ((spans_any _ m cm _).mono ?_)⟩
  rintro e w2 ⟨rfl, rfl⟩
  gi_wp2
  obtain ⟨W1, hW1⟩ : ∃ W1, w1.alloc (.cells #[.slice (some ⟨g, 0, none⟩) m cm] 25) = W1 := ⟨_, rfl⟩
  have hB1 : Below w.heap.size w W1 := by rw [← hW1]; exact hb2.alloc hb2.size _
  have hs1 : W1.heap.size = w1.heap.size + 1 := by rw [← hW1]; simp
  have bT : Box1 W1 w1.heap.size 25 (.slice (some ⟨g, 0, none⟩) m cm) := by rw [← hW1]; exact Box1.new _ _ _
  have b0 : Box1 W1 w.heap.size 25 (.slice (some ⟨g, 0, none⟩) m cm) := by rw [← hW1]; exact k0'.alloc _
  have b1 : Box1 W1 (w.heap.size + 1) 3 (.int .i64 i) := by rw [← hW1]; exact k1'.alloc _
  have b2 : Box1 W1 (w.heap.size + 1 + 1) 25 (.slice none 0 0) := by rw [← hW1]; exact k2'.alloc _
  try rw [hW1]
  clear hW1 k0' k1' k2' c0 hb2
  refine wpIn_range (α := Sp) rfl (by omega) (gf := 49) (lb := #[.pointer (some ⟨w1.heap.size, 0, none⟩)]) rfl trivial (enters_of Try.func49 (by kernel_rfl) rfl)
    (encs := encSp) w.heap.size hB1.size (spans1_any t m HM (by omega) _ cm w1.heap.size w.heap.size (n - 1) W1 hB1.size (by omega) bT.cell w rfl hx.nodes hB1) (fun _ => rfl)
    (fun pre W => (∀ s ∈ pre, (s.rt : Int) ≠ i) ∧ Box1 W w.heap.size 25 (.slice (some ⟨g, 0, none⟩) m cm) ∧ Box1 W (w.heap.size + 1) 3 (.int .i64 i) ∧ Box1 W (w.heap.size + 1 + 1) 25 (.slice none 0 0) ∧ Below w.heap.size w W)
    (fun c pre W => c = .ret ∧ ∃ s g' c', pre.getLast? = some s ∧ (s.rt : Int) = i ∧ Box1 W (w.heap.size + 1 + 1) 25 (.slice (some ⟨g', 0, none⟩) (s.rt + 1 - s.fr) c') ∧ W1.heap.size + 2 ≤ g' ∧ Row W g' (span t s.fr s.rt) ∧ Below w.heap.size w W)
    ?hI ?hIx (fun _ _ _ => trivial) ⟨by simp, b0, b1, b2, hB1⟩ ?round ?done ?stop
  case hI =>
    rintro s A C ⟨h1, h2, h3, h4, h5⟩ hb
    exact ⟨h1, h2.below hb (by omega), h3.below hb (by omega), h4.below hb (by omega), h5.trans (hb.mono (by omega))⟩
  case hIx =>
    rintro c s A C ⟨h1, s', g', c', h2, h3, h4, h5, h6', h7⟩ hb
    refine ⟨h1, s', g', c', h2, h3, h4.but hb (by omega), h5, hb.row h6' (by omega), h7.trans (hb.below ?_ (fun k hk => by omega))⟩
    have := h7.size
    omega
  case round =>
    rintro pre s W ⟨hpre, p0, p1, p2, hb⟩ hlen hfit hsz2
    simp only [encSp]
    gi_wp2
    refine ⟨But.ofBelow ((Below.refl _ W).alloc (Nat.le_refl _) _), ?_⟩
    intro Wb hWb
    have bs : Box3 Wb W.heap.size (.int .i64 (s.fr : Int)) (.int .i64 (s.rt : Int)) (.int .i64 (s.dp : Int)) := (hWb.block W.heap.size (by simp) (by omega)).trans (Box3.new W _ _ _)
    have r0 := (p0.alloc (Obj.cells #[Value.int IntKind.i64 ↑s.fr, Value.int IntKind.i64 ↑s.rt, Value.int IntKind.i64 ↑s.dp] 61)).but hWb (by omega)
    have r1 := (p1.alloc (Obj.cells #[Value.int IntKind.i64 ↑s.fr, Value.int IntKind.i64 ↑s.rt, Value.int IntKind.i64 ↑s.dp] 61)).but hWb (by omega)
    have r2 := (p2.alloc (Obj.cells #[Value.int IntKind.i64 ↑s.fr, Value.int IntKind.i64 ↑s.rt, Value.int IntKind.i64 ↑s.dp] 61)).but hWb (by omega)
    have hbb : Below w.heap.size w Wb := (hb.alloc hb.size _).trans (hWb.below (by have := hb.size; simp; omega) (fun k hk => by omega))
    obtain ⟨u0, u1, u2⟩ := bs.cells
    have v0 := r0.cell
    have v1 := r1.cell
    have v2 := r2.cell
    have hWs : W1.heap.size + 1 < Wb.heap.size := by have := hWb.size; simp at this; omega
    clear hWb p0 p1 p2 hb bs
    have hfs : s.fr ≤ s.rt ∧ s.rt < m := by
      obtain ⟨k, S', hk⟩ := hfit
      have hf := after_fine hk
      have hle := after_le hk
      have hl9 := hf.len
      have hr9 := hf.root pre.length (by simp)
      rw [List.getElem_append_right (Nat.le_refl _)] at hr9
      simp at hr9 hl9
      have := HM.out
      omega
    clear hfit
    by_cases hrt : (s.rt : Int) = i
    · have hxb := hx.below hbb
      have hnodes := span_nodes hxb s.fr s.rt (by have := HM.out; omega)
      have HSL : Hid ((span t s.fr s.rt).length = s.rt + 1 - s.fr) := span_length t s.fr s.rt (by have := HM.out; omega)
      subst hrt
      have HS1 : Hid (W1.heap.size = w1.heap.size + 1) := hs1
      have f2 := r2.frozen
      clear hs1 bT b0 b1 b2 hpre
      gi_wp2_with fail
      refine ⟨trivial, fun h => (by cases h), CallsIn.inRound _ (callsIn_wide.2 ((cut_any m cm hcm s hfs.1 hfs.2 h6 g Wb).mono ?_))⟩
      rintro e w3 ⟨rfl, hb3⟩
      have hn3 := hnodes.below hb3
      have r2' := r2.below hb3 r2.lt
      have hbb3 := Below.step hbb hb3
      gi_wp2_with fail
      refine ⟨trivial, fun h => (by cases h), CallsIn.inRound _ (callsIn_wide.2 ((clone_any (span t s.fr s.rt) (s.rt + 1 - s.fr) HSL (by omega) _ _ w3 hn3).mono ?_))⟩
      rintro e w4 ⟨g', c', rfl, hg', hr4, hb4⟩
      have r24 := r2'.below hb4 r2'.lt
      have q24 := r24.cell
      have f24 := r24.frozen
      have hbb4 := Below.step hbb3 hb4
      have hbut : But (Mine w.heap.size W1.heap.size) Wb w4 := (But.ofBelow hb3).trans (But.ofBelow hb4)
      have hmine : Mine w.heap.size W1.heap.size (w.heap.size + 1 + 1) := ⟨by omega, by have := HS1.out; omega⟩
      have hbut2 := hbut.setCell (p := ⟨w.heap.size + 1 + 1, 0, none⟩) hmine (.slice (some ⟨g', 0, none⟩) (s.rt + 1 - s.fr) c')
      have hres := r24.set (.slice (some ⟨g', 0, none⟩) (s.rt + 1 - s.fr) c')
      have hgb : W1.heap.size + 2 ≤ g' := by have := hb3.size; omega
      have hrow : Row (w4.setCell ⟨w.heap.size + 1 + 1, 0, none⟩ (.slice (some ⟨g', 0, none⟩) (s.rt + 1 - s.fr) c')) g' (span t s.fr s.rt) := by
        refine But.row (S := fun k => k = w.heap.size + 1 + 1) ((But.refl (fun k => k = w.heap.size + 1 + 1) w4).setCell (p := ⟨w.heap.size + 1 + 1, 0, none⟩) rfl _) hr4 ?_
        have := HS1.out
        omega
      have hbel := hbb4.setCell (p := ⟨w.heap.size + 1 + 1, 0, none⟩) (by show w.heap.size ≤ w.heap.size + 1 + 1; omega) (.slice (some ⟨g', 0, none⟩) (s.rt + 1 - s.fr) c')
      clear hb3 hb4 hn3 r2' r24 hbb3 hbb4 hbut hr4 hnodes hxb
      gi_wp2
      exact ⟨hbut2, rfl, s, g', c', by simp, rfl, hres, hgb, hrow, hbel⟩
    · have hne : ((s.rt : Int) == i) = false := by simp [hrt]
      gi_wp2
      exact ⟨But.refl _ _, fun x hx => by rcases List.mem_append.1 hx with h | h; · exact hpre x h
                                          · simp at h; subst h; exact hrt, r0, r1, r2, hbb⟩
  case done =>
    rintro xs W hcame ⟨hxs, p0, p1, p2, hb⟩ hK
    have HP : Hid (partOf t i = []) := by
      refine partOf_none ?_
      rintro ⟨_, hi0, hi1⟩
      have hxm : xs = ys := came_all hcame (by rw [HM.out]; exact HA.out)
      have hl := HYL.out
      have hm' := HM.out
      have hj : i.toNat < ys.length := by omega
      have hr9 := ((after_fine HA.out).root i.toNat hj).1
      exact hxs ys[i.toNat] (by rw [hxm]; exact List.getElem_mem hj) (by omega)
    have q2 := p2.cell
    have f2 := p2.frozen
    have hq9 : w.heap.size + 1 + 1 < W.heap.size := p2.lt
    have HS1 : Hid (W1.heap.size = w1.heap.size + 1) := hs1
    have hKl : W1.heap.size < W.heap.size := (Array.getElem?_eq_some_iff.1 hK).1
    obtain ⟨WE, hWE⟩ : ∃ WE, (W.setCell ⟨w.heap.size + 1 + 1, 0, none⟩ (.slice (some ⟨W.heap.size, 0, none⟩) 0 0)).alloc (.cells #[] 36) = WE := ⟨_, rfl⟩
    have hK2 : WE.heap[W1.heap.size]? = some (.deferred (some [])) := by
      rw [← hWE]
      exact (Below.heap_alloc _ _ _ (by rw [size_setCell]; exact hKl)).trans ((Below.heap_setCell _ _ _ _ (by show W1.heap.size ≠ w.heap.size + 1 + 1; omega)).trans hK)
    have hO : Row WE W.heap.size [] := by
      have h9 := (OwnN.empty (w := W.setCell ⟨w.heap.size + 1 + 1, 0, none⟩ (.slice (some ⟨W.heap.size, 0, none⟩) 0 0)) (B := w.heap.size) (by rw [size_setCell]; exact hb.size)).row.2
      rw [size_setCell, hWE] at h9
      exact h9
    have hbx : Box1 WE (w.heap.size + 1 + 1) 25 (.slice (some ⟨W.heap.size, 0, none⟩) 0 0) := by rw [← hWE]; exact (p2.set _).alloc _
    have hbE : Below w.heap.size w WE := by
      rw [← hWE]
      exact (hb.setCell (p := ⟨w.heap.size + 1 + 1, 0, none⟩) (by show w.heap.size ≤ w.heap.size + 1 + 1; omega) _).alloc (by rw [size_setCell]; exact hb.size) _
    have hput : But (· = W1.heap.size) WE (WE.putObj W1.heap.size (.deferred none)) := But.putObj _ _ _ rfl
    have hres := (hbx.but hput (by omega)).cell
    have hO2 := hput.row hO (by omega)
    have hb9 := hbE.trans (hput.below hbE.size (fun k hk => by omega))
    have hgW := hb.size
    clear hs1 p0 p1 p2 hb hO hbx hbE hput hcame hxs
    gi_wp2
    try rw [hWE]
    refine ⟨by simp, .inl ⟨_, _, rfl, run_takeDeferred hK2, ?_⟩⟩
    exact ⟨.slice (some ⟨W.heap.size, 0, none⟩) 0 0, by simp [results, Try.results29, go_sem, hres], _, _, _, rfl, hgW, by rw [HP.out]; rfl, by rw [HP.out]; exact hO2, hb9⟩
  case stop =>
    rintro c pre W hpart ⟨rfl, s, g', c', hlast, hrt, hbx, hg', hrow, hb⟩ hK
    have hprt : ∃ k S', after t k = some (S', pre) := hpart
    obtain ⟨k, S', hk⟩ := hprt
    have hkl := after_le hk
    have hml := HM.out
    obtain ⟨S'', hk2⟩ := after_part HA.out k (by omega)
    rw [hk] at hk2
    simp only [Option.some.injEq, Prod.mk.injEq] at hk2
    have hpl := (after_fine hk).len
    have hkp : 0 < pre.length := by
      rcases Nat.eq_zero_or_pos pre.length with h | h
      · have : pre = [] := List.eq_nil_of_length_eq_zero h
        rw [this] at hlast
        simp at hlast
      · exact h
    have hsl : pre[pre.length - 1]? = some s := by rw [← hlast, List.getLast?_eq_getElem?]
    have hr9 := (after_fine hk).root (pre.length - 1) (by omega)
    have hs9 : pre[pre.length - 1]'(by omega) = s := by
      obtain ⟨_, h9⟩ := List.getElem?_eq_some_iff.1 hsl
      exact h9
    rw [hs9] at hr9
    have hys : ys[s.rt]? = some s := by
      have h9 : (ys.take k)[s.rt]? = some s := by rw [← hk2.2, hr9.1]; exact hsl
      rw [List.getElem?_take, if_pos (by omega)] at h9
      exact h9
    have HP : Hid (partOf t i = span t s.fr s.rt) := by
      rw [← hrt]
      exact partOf_some HD.out (by omega) (by rw [HM.out]; exact HA.out) hys
    have HSL : Hid ((span t s.fr s.rt).length = s.rt + 1 - s.fr) := span_length t s.fr s.rt (by omega)
    have hput : But (· = W1.heap.size) W (W.putObj W1.heap.size (.deferred none)) := But.putObj _ _ _ rfl
    have hres := (hbx.but hput (by omega)).cell
    have hO2 := hput.row hrow (by omega)
    have hb9 := hb.trans (hput.below hb.size (fun k hk => by omega))
    have hgW : w.heap.size ≤ g' := by omega
    clear hs9 hsl hr9 hpl hk hk2 hkl hkp hlast hys hbx hrow hb hput hs1 bT b0 b1 b2 hB1 hml
    gi_wp2
    refine ⟨by simp, .inl ⟨_, _, rfl, run_takeDeferred hK, ?_⟩⟩
    exact ⟨.slice (some ⟨g', 0, none⟩) (s.rt + 1 - s.fr) c', by simp [results, Try.results29, go_sem, hres], _, _, _, rfl, hgW, by rw [HP.out]; exact HSL.out, by rw [HP.out]; exact hO2, hb9⟩

theorem implPart_anyC (t : List Nd) (m cm : Nat) (hcm : m ≤ cm) (i : Int) (HM : Hid (t.length = m)) (hm : m ≤ 1048576) (g : Nat) (w : World) (hx : Row w g t) :
    Calls Try.prog 29 #[.slice (some ⟨g, 0, none⟩) m cm, .int .i64 i] w fun e w' => ∃ g' c l, e = .returned (.slice (some ⟨g', 0, none⟩) l c) ∧ w.heap.size ≤ g' ∧ (partOf t i).length = l ∧ Row w' g' (partOf t i) ∧ Below w.heap.size w w' := by
  by_cases hd : 0 < deepOf t
  · exact implPart_goodC t m cm hcm i HM g w hx hd
  · exact implPart_badC t m cm i HM hm g w hx hd

theorem implPart_any (t : List Nd) (m : Nat) (i : Int) (HM : Hid (t.length = m)) (hm : m ≤ 1048576) (g : Nat) (w : World) (hx : Row w g t) :
    Calls Try.prog 29 #[.slice (some ⟨g, 0, none⟩) m m, .int .i64 i] w fun e w' => ∃ g' c l, e = .returned (.slice (some ⟨g', 0, none⟩) l c) ∧ w.heap.size ≤ g' ∧ (partOf t i).length = l ∧ Row w' g' (partOf t i) ∧ Below w.heap.size w w' :=
  implPart_anyC t m m (Nat.le_refl _) i HM hm g w hx

end Go.Proofs.Ytkmlfpfgiblcdaa
