import Derived.Test.YtekogjmmfhbinaaSpans
namespace Go.Proofs.Ytekogjmmfhbinaa
open Go.RowKit Go.Shelf

attribute [local go_sem] Oper.semAt_some

def lastOf (xs : List Sp) : Sp := xs.getLast?.getD ⟨0, 0, 0⟩

theorem lastOf_snoc (xs : List Sp) (s : Sp) : lastOf (xs ++ [s]) = s := by simp [lastOf]

/-- How deep the list is, however great and deep; 0 where it is no term. -/
def rawDeep (t : List Nd) : Nat :=
  match after t t.length with
  | none => 0
  | some (_, ys) => match ys.getLast? with
    | none => 0
    | some s => if s.fr = 0 then s.dp else 0

theorem deep_came {t : List Nd} {xs : List Sp} (h : Came t xs) :
    rawDeep t = if (lastOf xs).fr ≠ 0 ∨ ((lastOf xs).rt : Int) ≠ (t.length : Int) - 1 then 0 else (lastOf xs).dp := by
  obtain ⟨k, S, ha, hk⟩ := h
  have hf := after_fine ha
  have hle := after_le ha
  unfold rawDeep
  by_cases hkl : k = t.length
  · subst hkl
    rw [ha]
    simp only
    cases hx : xs.getLast? with
    | none =>
      have hx0 : xs = [] := List.getLast?_eq_none_iff.1 hx
      subst hx0
      have h0 : t.length = 0 := by have := hf.len; simpa using this.symm
      simp [lastOf, h0]
    | some s =>
      have hls : lastOf xs = s := by simp [lastOf, hx]
      rw [hls]
      have hne : xs ≠ [] := by intro e; rw [e] at hx; simp at hx
      have hlen : 0 < xs.length := List.length_pos_iff.2 hne
      have hs : xs[xs.length - 1]'(by omega) = s := by
        rw [List.getLast?_eq_getElem?, List.getElem?_eq_getElem (by omega)] at hx
        simpa using hx
      have hr := (hf.root (xs.length - 1) (by omega)).1
      rw [hs] at hr
      have hl2 := hf.len
      have hrt : ¬ ((s.rt : Int) ≠ (t.length : Int) - 1) := by omega
      simp only
      by_cases h1 : s.fr = 0
      · rw [if_pos h1, if_neg (by omega)]
      · rw [if_neg h1, if_pos (by omega)]
  · have hk : after t (k + 1) = none := by
      rcases hk with h | h
      · exact absurd h hkl
      · exact h
    have hn := after_none hk t.length
    rw [hn (by omega)]
    simp only
    by_cases hk0 : k = 0
    · subst hk0
      have hx0 : xs = [] := List.eq_nil_of_length_eq_zero hf.len
      subst hx0
      simp [lastOf]
    · have hlen := hf.len
      have hx : xs.getLast? = some (xs[xs.length - 1]'(by omega)) := by
        rw [List.getLast?_eq_getElem?, List.getElem?_eq_getElem (by omega)]
      have hls : lastOf xs = xs[xs.length - 1]'(by omega) := by simp [lastOf, hx]
      have hr := (hf.root (xs.length - 1) (by omega)).1
      rw [← hls] at hr
      rw [if_pos (by right; omega)]

set_option maxRecDepth 100000 in
set_option maxHeartbeats 2000000 in
theorem implDeepOf_any (t : List Nd) (m : Nat) (HM : Hid (t.length = m)) (hm : m ≤ 60000) (ao : Option Addr) (cap : Nat) (w : World) (hx : Nodes w ao t) :
    Calls Try.prog 47 #[.slice ao m cap] w fun e w' => e = .returned (.int .i64 (rawDeep t : Int)) ∧ Below w.heap.size w w' := by
  obtain ⟨n, hn⟩ : ∃ n : Nat, 6 ≤ n := ⟨6, Nat.le_refl _⟩
  refine (callsIn_wide (n := n)).1 ?_
  refine callsIn_of_wp_marks Try.func47 rfl trivial ?_
  simp only [Try.ntmps47, List.size_toArray, List.length_cons, List.length_nil, Nat.reduceAdd, Nat.reduceSub, Array.replicate_succ, Array.replicate_zero, List.push_toArray, List.append_toArray, List.nil_append, List.cons_append]
  gi_wp2_with fail
  refine ⟨trivial, fun h => (by cases h), callsIn_wide.2 ((spans_any ao m cap _).mono ?_)⟩
  rintro e w1 ⟨rfl, rfl⟩
  gi_wp2
  obtain ⟨W1, hW1⟩ : ∃ W1, ((w.alloc (Obj.cells #[Value.int IntKind.i64 0, Value.int IntKind.i64 0, Value.int IntKind.i64 0] 85)).alloc (.cells #[.slice ao m cap] 28)) = W1 := ⟨_, rfl⟩
  have hB1 : Below w.heap.size w W1 := by rw [← hW1]; exact ((Below.refl _ w).alloc (Nat.le_refl _) _).alloc (by simp) _
  have hs1 : W1.heap.size = w.heap.size + 2 := by rw [← hW1]; simp
  have bL : Box3 W1 w.heap.size (.int .i64 0) (.int .i64 0) (.int .i64 0) := by rw [← hW1]; exact (Box3.new w _ _ _).alloc _
  have bT : W1.cell? ⟨w.heap.size + 1, 0, none⟩ = some (.slice ao m cap) := by
    rw [← hW1]
    have := cell_of_row ((w.alloc (Obj.cells #[Value.int IntKind.i64 0, Value.int IntKind.i64 0, Value.int IntKind.i64 0] 85)).alloc (.cells #[.slice ao m cap] 28)) (w.heap.size + 1) 0 #[.slice ao m cap] 28 (0, 0) (by have := heap_alloc_new (w.alloc (Obj.cells #[Value.int IntKind.i64 0, Value.int IntKind.i64 0, Value.int IntKind.i64 0] 85)) (.cells #[.slice ao m cap] 28); rw [World.size_alloc] at this; exact this)
    rw [this]; rfl
  try rw [hW1]
  clear hW1
  refine wpIn_range (α := Sp) rfl (by omega) (gf := 82) (lb := #[.pointer (some ⟨w.heap.size + 1, 0, none⟩)]) rfl trivial (enters_of Try.func82 (by kernel_rfl) rfl)
    (encs := encSp) w.heap.size hB1.size (spans1_any t m HM hm ao cap (w.heap.size + 1) w.heap.size (n - 1) W1 hB1.size (by omega) bT w rfl hx hB1) (fun _ => rfl)
    (fun pre W => Box3 W w.heap.size (.int .i64 ((lastOf pre).fr : Int)) (.int .i64 ((lastOf pre).rt : Int)) (.int .i64 ((lastOf pre).dp : Int)) ∧ Below w.heap.size w W)
    (fun _ _ _ => False) ?hI (fun _ _ _ _ h _ => h) (fun _ _ _ => trivial) ⟨bL, hB1⟩ ?round ?done (fun _ _ _ _ h _ => h.elim)
  case hI =>
    rintro s A C ⟨h1, h2⟩ hb
    exact ⟨(hb.block _ (by omega)).trans h1, h2.trans (hb.mono (by omega))⟩
  case round =>
    rintro pre s W ⟨hbx, hb⟩ hlen _ hsz
    simp only [encSp]
    gi_wp2
    refine ⟨But.ofBelow ((Below.refl _ W).alloc (Nat.le_refl _) _), ?_⟩
    intro Wb hWb
    have bs : Box3 Wb W.heap.size (.int .i64 (s.fr : Int)) (.int .i64 (s.rt : Int)) (.int .i64 (s.dp : Int)) := (hWb.block W.heap.size (by simp) (by omega)).trans (Box3.new W _ _ _)
    have bl := (hWb.block w.heap.size (by have := hbx.lt; simp; omega) (by omega)).trans (hbx.alloc (Obj.cells #[Value.int IntKind.i64 ↑s.fr, Value.int IntKind.i64 ↑s.rt, Value.int IntKind.i64 ↑s.dp] 85))
    have hbb : Below w.heap.size w Wb := (hb.alloc hb.size _).trans (hWb.below (by have := hb.size; simp; omega) (fun k hk => by omega))
    have bl' : Box3 Wb w.heap.size _ _ _ := bl
    obtain ⟨p0, p1, p2⟩ := bs.cells
    obtain ⟨q0, q1, q2⟩ := bl'.cells
    have f0 := bl'.frozen 0
    have f1 := bl'.frozen 1
    have f2 := bl'.frozen 2
    have hfin : Box3 (((Wb.setCell ⟨w.heap.size, 0, none⟩ (.int .i64 (s.fr : Int))).setCell ⟨w.heap.size, 1, none⟩ (.int .i64 (s.rt : Int))).setCell ⟨w.heap.size, 2, none⟩ (.int .i64 (s.dp : Int))) w.heap.size (.int .i64 (s.fr : Int)) (.int .i64 (s.rt : Int)) (.int .i64 (s.dp : Int)) := ((bl'.set0 _).set1 _).set2 _
    have hmine : Mine w.heap.size W1.heap.size w.heap.size := ⟨Nat.le_refl _, by omega⟩
    have hbut : But (Mine w.heap.size W1.heap.size) Wb (((Wb.setCell ⟨w.heap.size, 0, none⟩ (.int .i64 (s.fr : Int))).setCell ⟨w.heap.size, 1, none⟩ (.int .i64 (s.rt : Int))).setCell ⟨w.heap.size, 2, none⟩ (.int .i64 (s.dp : Int))) :=
      (((But.refl _ Wb).setCell (p := ⟨w.heap.size, 0, none⟩) hmine _).setCell (p := ⟨w.heap.size, 1, none⟩) hmine _).setCell (p := ⟨w.heap.size, 2, none⟩) hmine _
    have hbel : Below w.heap.size w (((Wb.setCell ⟨w.heap.size, 0, none⟩ (.int .i64 (s.fr : Int))).setCell ⟨w.heap.size, 1, none⟩ (.int .i64 (s.rt : Int))).setCell ⟨w.heap.size, 2, none⟩ (.int .i64 (s.dp : Int))) :=
      ((hbb.setCell (p := ⟨w.heap.size, 0, none⟩) (Nat.le_refl _) _).setCell (p := ⟨w.heap.size, 1, none⟩) (Nat.le_refl _) _).setCell (p := ⟨w.heap.size, 2, none⟩) (Nat.le_refl _) _
    clear hbx hb bl bl' bs hbb hmine hWb
    gi_wp2
    exact ⟨hbut, by rw [lastOf_snoc]; exact hfin, hbel⟩
  case done =>
    rintro xs W hcame ⟨hbx, hb⟩ hK
    have HD := deep_came hcame
    obtain ⟨L, hL⟩ : ∃ L, lastOf xs = L := ⟨_, rfl⟩
    rw [hL] at hbx HD
    rw [HM.out] at HD
    have HDD : Hid (rawDeep t = if L.fr ≠ 0 ∨ (L.rt : Int) ≠ (m : Int) - 1 then 0 else L.dp) := HD
    obtain ⟨q0, q1, q2⟩ := hbx.cells
    clear HD hcame hL
    have hput : Below w.heap.size w (W.putObj W1.heap.size (.deferred none)) := hb.trans ((But.putObj (S := (· = W1.heap.size)) W _ _ rfl).below hb.size (fun k hk => by omega))
    clear hs1 hB1 bL bT
    by_cases h1 : L.fr = 0
    · by_cases h2 : (L.rt : Int) = (m : Int) - 1
      · have HV : Hid (rawDeep t = L.dp) := by rw [HDD.out, if_neg (by omega)]; rfl
        clear hbx hb
        gi_wp2
        refine ⟨by simp, .inl ⟨_, _, rfl, run_takeDeferred hK, ?_⟩⟩
        exact ⟨_, results_tmp rfl _ _ _, by rw [HV.out]; rfl, hput⟩
      · have HV : Hid (rawDeep t = 0) := by rw [HDD.out, if_pos (by omega)]; rfl
        clear hbx hb
        gi_wp2
        refine ⟨by simp, .inl ⟨_, _, rfl, run_takeDeferred hK, ?_⟩⟩
        exact ⟨_, results_tmp rfl _ _ _, by rw [HV.out]; rfl, hput⟩
    · have HV : Hid (rawDeep t = 0) := by rw [HDD.out, if_pos (by omega)]; rfl
      have h1' : ¬ ((L.fr : Int) = 0) := by omega
      clear hbx hb
      gi_wp2
      refine ⟨by simp, .inl ⟨_, _, rfl, run_takeDeferred hK, ?_⟩⟩
      exact ⟨_, results_tmp rfl _ _ _, by rw [HV.out]; rfl, hput⟩

end Go.Proofs.Ytekogjmmfhbinaa
