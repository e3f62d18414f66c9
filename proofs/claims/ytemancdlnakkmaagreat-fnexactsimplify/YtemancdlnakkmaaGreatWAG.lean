import Derived.Test.YtemancdlnakkmaaGreatWAF
import Derived.Test.YtemancdlnakkmaaGreatWAC
import Derived.OwnWalkIn
namespace Go.Proofs.YtemancdlnakkmaaGreat
open Go.RowKit
theorem results_cell7 {fn : Func} {a : Tmp} (h : fn.results = #[.cell a 51]) (tmps : Array Value) (b : Nat) (hta : tmps[a]?.getD undef = .pointer (some ⟨b, 0, none⟩)) (w : World) (T : Tre) (s : Sl3) (hr : Row7 w b 0 T s) : (results fn tmps).run Tryz.prog w = .ok (.agg (sv T s).toArray) w := by
  obtain ⟨c0, c1, c2, c3, c4, c5, c6⟩ := hr
  simp only [Nat.zero_add] at c0 c1 c2 c3 c4 c5 c6
  have e : ∀ w, (isAgg 51).run Tryz.prog w = .ok true w := fun w => by kernel_rfl
  have e2 : ∀ w, (sizeOf 51).run Tryz.prog w = .ok 7 w := fun w => by kernel_rfl
  simp [results, h, go_sem, hta, e, e2, c0, c1, c2, c3, c4, c5, c6, sv]
theorem row7_of {w : World} {g : Nat} {T : Tre} {s : Sl3} (h : w.heap[g]? = some (.cells (sv T s).toArray 51 (0, 0))) : Row7 w g 0 T s := by
  refine ⟨?_, ?_, ?_, ?_, ?_, ?_, ?_⟩ <;> (rw [cell_of_row _ _ _ _ _ _ h]; rfl)
theorem set7 {w : World} {g t : Nat} {x0 x1 x2 x3 x4 x5 x6 : Value} (h : w.heap[g]? = some (.cells #[x0, x1, x2, x3, x4, x5, x6] t (0, 0))) (a0 a1 a2 a3 a4 a5 a6 : Value) :
    (((((((w.setCell ⟨g, 0, none⟩ a0).setCell ⟨g, 1, none⟩ a1).setCell ⟨g, 2, none⟩ a2).setCell ⟨g, 3, none⟩ a3).setCell ⟨g, 4, none⟩ a4).setCell ⟨g, 5, none⟩ a5).setCell ⟨g, 6, none⟩ a6).heap[g]? = some (.cells #[a0, a1, a2, a3, a4, a5, a6] t (0, 0)) := by
  rw [heap_setCell_same _ _ _ _ _ _ (heap_setCell_same _ _ _ _ _ _ (heap_setCell_same _ _ _ _ _ _ (heap_setCell_same _ _ _ _ _ _ (heap_setCell_same _ _ _ _ _ _ (heap_setCell_same _ _ _ _ _ _ (heap_setCell_same _ _ _ _ _ _ h))))))]
  rfl
theorem set7_below {w0 w : World} {B g : Nat} (h : Below B w0 w) (hg : B ≤ g) (a0 a1 a2 a3 a4 a5 a6 : Value) :
    Below B w0 (((((((w.setCell ⟨g, 0, none⟩ a0).setCell ⟨g, 1, none⟩ a1).setCell ⟨g, 2, none⟩ a2).setCell ⟨g, 3, none⟩ a3).setCell ⟨g, 4, none⟩ a4).setCell ⟨g, 5, none⟩ a5).setCell ⟨g, 6, none⟩ a6) :=
  ((((((h.setCell (p := ⟨g, 0, none⟩) hg _).setCell (p := ⟨g, 1, none⟩) hg _).setCell (p := ⟨g, 2, none⟩) hg _).setCell (p := ⟨g, 3, none⟩) hg _).setCell (p := ⟨g, 4, none⟩) hg _).setCell (p := ⟨g, 5, none⟩) hg _).setCell (p := ⟨g, 6, none⟩) hg _
theorem make_fin (w : World) (kd nm : Int) (tx : ByteArray) (kk pl : Int) (ks : List Tre) (q : Nat) (hq : ks.length = q) (so : Option Addr) (sc : Nat) (b : Bool) (hb : knT (mkT ⟨kd, nm, tx, kk, pl⟩ ks) = b) (X : Obj) :
    Row7 (((w.alloc (.cells #[.int .i64 kd, .int .i64 nm, .string tx, .int .i64 (q : Int), .int .i64 pl] 34)).alloc (.cells #[.int .i64 kd, .int .i64 nm, .string tx, .int .i64 (q : Int), .int .i64 pl, .slice so q sc, .bool b] 51)).alloc X) (w.heap.size + 1) 0 (mkT ⟨kd, nm, tx, kk, pl⟩ ks) (so, q, sc) ∧
    Below w.heap.size w (((w.alloc (.cells #[.int .i64 kd, .int .i64 nm, .string tx, .int .i64 (q : Int), .int .i64 pl] 34)).alloc (.cells #[.int .i64 kd, .int .i64 nm, .string tx, .int .i64 (q : Int), .int .i64 pl, .slice so q sc, .bool b] 51)).alloc X) := by
  have b1 := (Below.refl w.heap.size w).alloc (Nat.le_refl _) (.cells #[.int .i64 kd, .int .i64 nm, .string tx, .int .i64 (q : Int), .int .i64 pl] 34)
  have b2 := b1.alloc b1.size (.cells #[.int .i64 kd, .int .i64 nm, .string tx, .int .i64 (q : Int), .int .i64 pl, .slice so q sc, .bool b] 51)
  refine ⟨row7_of ?_, b2.alloc b2.size _⟩
  refine (Below.heap_alloc _ _ _ (by simp)).trans ?_
  have h9 := heap_alloc_new (w.alloc (.cells #[.int .i64 kd, .int .i64 nm, .string tx, .int .i64 (q : Int), .int .i64 pl] 34)) (.cells #[.int .i64 kd, .int .i64 nm, .string tx, .int .i64 (q : Int), .int .i64 pl, .slice so q sc, .bool b] 51)
  rw [World.size_alloc] at h9
  rw [h9, ← hb]
  simp [sv, mkT, Tre.nd, hq]
set_option maxRecDepth 20000 in
set_option maxHeartbeats 4000000 in
theorem make_any (n : Nd) (ks : List Tre) (s : Sl3) (A : Nat → Prop) (w : World) (h : SKids w A s ks) (h77 : n.kind = 77 → ∃ a b, ks = [a, b]) :
    Calls Tryz.prog 45 #[.agg #[.int .i64 n.kind, .int .i64 n.num, .string n.text, .int .i64 n.kids, .int .i64 n.place], .slice s.1 s.2.1 s.2.2] w fun e w' => e = .returned (.agg (sv (mkT n ks) s).toArray) ∧ Below w.heap.size w w' := by
  obtain ⟨so, sl, sc⟩ := s
  obtain ⟨h1, h2, h3, h4⟩ := h
  simp only at h1 h2 h4 ⊢
  subst h1
  have HV : Hid (knT (mkT n ks) = knStep { n with kids := (ks.length : Int) } ks (ks.map knT)) := knT_eq _ _
  obtain ⟨q, hq⟩ : ∃ q, ks.length = q := ⟨_, rfl⟩
  have HQ : Hid (ks.length = q) := hq
  rw [hq] at h2 h3 ⊢
  clear hq
  have HKS : Hid (∀ j (h : j < ks.length), ∃ g sj, so = some ⟨g, 0, none⟩ ∧ A g ∧ Row7 w g (j * 7) ks[j] sj ∧ SRep w A ks[j] sj) := h4
  clear h4
  obtain ⟨kd, nm, tx, kk, pl⟩ := n
  simp only at h77 ⊢
  by_cases h7 : kd = 72 ∨ kd = 73 ∨ kd = 74
  · have HK : Hid (knT (mkT ⟨kd, nm, tx, kk, pl⟩ ks) = true) := by show _ = _; rw [HV.out]; unfold knStep; rw [if_pos h7]
    obtain ⟨hfin, hbel⟩ := make_fin w kd nm tx kk pl ks q HQ.out so sc true HK.out (.cells #[.int .i64 kd, .int .i64 nm, .string tx, .int .i64 (q : Int), .int .i64 pl, .slice so q sc, .bool true] 51)
    have HF : Hid (Row7 _ _ _ _ _) := hfin
    clear HV HKS h77 hfin
    rcases h7 with rfl | rfl | rfl
    all_goals
      go_enter Tryz.func45, Tryz.ntmps45
      go_wp2
      refine bodyPost_ret (results_cell7 rfl _ (w.heap.size + 1) rfl _ _ _ HF.out) rfl ?_
      exact ⟨rfl, hbel⟩
  have t72 : (kd == 72) = false := by simp; omega
  have t73 : (kd == 73) = false := by simp; omega
  have t74 : (kd == 74) = false := by simp; omega
  by_cases h77' : kd = 77
  · subst h77'
    obtain ⟨a, b, rfl⟩ := h77 rfl
    have hq1 : 1 < q := by have := HQ.out; simp at this; omega
    have hq0 : 0 < q := by omega
    have HK : Hid (knT (mkT ⟨77, nm, tx, kk, pl⟩ [a, b]) = (a.nd.kind == 74 && knT b)) := by
      show _ = _
      rw [HV.out]
      simp [knStep]
    obtain ⟨g, s0, e0, -, r0, -⟩ := HKS.out 0 (by simp)
    obtain ⟨g', s1, e1, -, r1, -⟩ := HKS.out 1 (by simp)
    rw [e0] at e1
    simp only [Option.some.injEq, Addr.mk.injEq, and_true] at e1
    subst e1
    subst e0
    obtain ⟨c0, -⟩ := r0
    obtain ⟨-, -, -, -, -, -, c6⟩ := r1
    simp only [List.getElem_cons_zero, Nat.zero_mul, List.getElem_cons_succ, Nat.one_mul] at c0 c6
    have lg : g < w.heap.size := lt_of_cell c0
    have lg1 : g < w.heap.size + 1 := by omega
    have lg2 : g < w.heap.size + 1 + 1 := by omega
    have c13 : w.cell? ⟨g, 13, none⟩ = some (.bool (knT b)) := c6
    clear c6
    obtain ⟨ak, hak⟩ : ∃ ak, a.nd.kind = ak := ⟨_, rfl⟩
    obtain ⟨kb, hkb⟩ : ∃ kb, knT b = kb := ⟨_, rfl⟩
    rw [hak] at c0 HK
    rw [hkb] at c13 HK
    clear hak hkb HV HKS
    by_cases hk4 : ak = 74
    · subst hk4
      obtain ⟨hfin, hbel⟩ := make_fin w 77 nm tx kk pl [a, b] q HQ.out (some ⟨g, 0, none⟩) sc kb (by rw [HK.out]; rfl) (.cells #[.int .i64 77, .int .i64 nm, .string tx, .int .i64 (q : Int), .int .i64 pl, .slice (some ⟨g, 0, none⟩) q sc, .bool kb] 51)
      have HF : Hid (Row7 _ _ _ _ _) := hfin
      clear hfin
      go_enter Tryz.func45, Tryz.ntmps45
      go_wp2
      refine bodyPost_ret (results_cell7 rfl _ (w.heap.size + 1) rfl _ _ _ HF.out) rfl ?_
      exact ⟨rfl, hbel⟩
    · have tk4 : (ak == 74) = false := by simpa using hk4
      rw [tk4] at HK
      obtain ⟨hfin, hbel⟩ := make_fin w 77 nm tx kk pl [a, b] q HQ.out (some ⟨g, 0, none⟩) sc false (by rw [HK.out]; rfl) (.cells #[.int .i64 77, .int .i64 nm, .string tx, .int .i64 (q : Int), .int .i64 pl, .slice (some ⟨g, 0, none⟩) q sc, .bool false] 51)
      have HF : Hid (Row7 _ _ _ _ _) := hfin
      clear hfin
      go_enter Tryz.func45, Tryz.ntmps45
      go_wp2
      refine bodyPost_ret (results_cell7 rfl _ (w.heap.size + 1) rfl _ _ _ HF.out) rfl ?_
      exact ⟨rfl, hbel⟩
  have t77 : (kd == 77) = false := by simpa using h77'
  by_cases h75 : kd = 75
  rotate_left
  · have t75 : (kd == 75) = false := by simpa using h75
    have HK : Hid (knT (mkT ⟨kd, nm, tx, kk, pl⟩ ks) = false) := by
      show _ = _
      rw [HV.out]
      unfold knStep
      rw [if_neg h7, if_neg h75]
      simp [h77']
    obtain ⟨hfin, hbel⟩ := make_fin w kd nm tx kk pl ks q HQ.out so sc false HK.out (.cells #[.int .i64 kd, .int .i64 nm, .string tx, .int .i64 (q : Int), .int .i64 pl, .slice so q sc, .bool false] 51)
    have HF : Hid (Row7 _ _ _ _ _) := hfin
    clear HV HKS hfin
    go_enter Tryz.func45, Tryz.ntmps45
    go_wp2
    refine bodyPost_ret (results_cell7 rfl _ (w.heap.size + 1) rfl _ _ _ HF.out) rfl ?_
    exact ⟨rfl, hbel⟩
  subst h75
  have HK : Hid (knT (mkT ⟨75, nm, tx, kk, pl⟩ ks) = ks.all knT) := by
    show _ = _
    rw [HV.out]
    simp [knStep, List.all_map, Function.comp_def]
  clear HV
  have b1 := (Below.refl w.heap.size w).alloc (Nat.le_refl _) (.cells #[.int .i64 75, .int .i64 nm, .string tx, .int .i64 (q : Int), .int .i64 pl] 34)
  have b2 := b1.alloc b1.size (.cells #[.int .i64 0, .int .i64 0, .string ⟨#[]⟩, .int .i64 0, .int .i64 0, .slice none 0 0, .bool false] 51)
  have b3 := b2.alloc b2.size (.cells #[.int .i64 75, .int .i64 nm, .string tx, .int .i64 (q : Int), .int .i64 pl, .slice so q sc, .bool true] 51)
  have r0 : (((w.alloc (.cells #[.int .i64 75, .int .i64 nm, .string tx, .int .i64 (q : Int), .int .i64 pl] 34)).alloc (.cells #[.int .i64 0, .int .i64 0, .string ⟨#[]⟩, .int .i64 0, .int .i64 0, .slice none 0 0, .bool false] 51)).alloc (.cells #[.int .i64 75, .int .i64 nm, .string tx, .int .i64 (q : Int), .int .i64 pl, .slice so q sc, .bool true] 51)).heap[w.heap.size]? = some (.cells #[.int .i64 75, .int .i64 nm, .string tx, .int .i64 (q : Int), .int .i64 pl] 34 (0, 0)) :=
    (Below.heap_alloc _ _ _ (by simp; omega)).trans ((Below.heap_alloc _ _ _ (by simp)).trans (heap_alloc_new _ _))
  have r1 : (((w.alloc (.cells #[.int .i64 75, .int .i64 nm, .string tx, .int .i64 (q : Int), .int .i64 pl] 34)).alloc (.cells #[.int .i64 0, .int .i64 0, .string ⟨#[]⟩, .int .i64 0, .int .i64 0, .slice none 0 0, .bool false] 51)).alloc (.cells #[.int .i64 75, .int .i64 nm, .string tx, .int .i64 (q : Int), .int .i64 pl, .slice so q sc, .bool true] 51)).heap[w.heap.size + 1]? = some (.cells #[.int .i64 0, .int .i64 0, .string ⟨#[]⟩, .int .i64 0, .int .i64 0, .slice none 0 0, .bool false] 51 (0, 0)) := by
    have h9 := heap_alloc_new (w.alloc (.cells #[.int .i64 75, .int .i64 nm, .string tx, .int .i64 (q : Int), .int .i64 pl] 34)) (.cells #[.int .i64 0, .int .i64 0, .string ⟨#[]⟩, .int .i64 0, .int .i64 0, .slice none 0 0, .bool false] 51)
    rw [World.size_alloc] at h9
    exact (Below.heap_alloc _ _ _ (by simp)).trans h9
  have r2 : (((w.alloc (.cells #[.int .i64 75, .int .i64 nm, .string tx, .int .i64 (q : Int), .int .i64 pl] 34)).alloc (.cells #[.int .i64 0, .int .i64 0, .string ⟨#[]⟩, .int .i64 0, .int .i64 0, .slice none 0 0, .bool false] 51)).alloc (.cells #[.int .i64 75, .int .i64 nm, .string tx, .int .i64 (q : Int), .int .i64 pl, .slice so q sc, .bool true] 51)).heap[w.heap.size + 1 + 1]? = some (.cells #[.int .i64 75, .int .i64 nm, .string tx, .int .i64 (q : Int), .int .i64 pl, .slice so q sc, .bool true] 51 (0, 0)) := by
    have h9 := heap_alloc_new ((w.alloc (.cells #[.int .i64 75, .int .i64 nm, .string tx, .int .i64 (q : Int), .int .i64 pl] 34)).alloc (.cells #[.int .i64 0, .int .i64 0, .string ⟨#[]⟩, .int .i64 0, .int .i64 0, .slice none 0 0, .bool false] 51)) (.cells #[.int .i64 75, .int .i64 nm, .string tx, .int .i64 (q : Int), .int .i64 pl, .slice so q sc, .bool true] 51)
    rw [World.size_alloc, World.size_alloc] at h9
    exact h9
  have HR0 : Hid _ := r0
  have HR1 : Hid _ := r1
  have HR2 : Hid _ := r2
  clear r0 r1 r2 b1 b2
  go_enter Tryz.func45, Tryz.ntmps45
  go_wp2
  have r0 := HR0.out
  have r1 := HR1.out
  have r2 := HR2.out
  clear HR0 HR1 HR2
  generalize ((w.alloc (.cells #[.int .i64 75, .int .i64 nm, .string tx, .int .i64 (q : Int), .int .i64 pl] 34)).alloc (.cells #[.int .i64 0, .int .i64 0, .string ⟨#[]⟩, .int .i64 0, .int .i64 0, .slice none 0 0, .bool false] 51)).alloc (.cells #[.int .i64 75, .int .i64 nm, .string tx, .int .i64 (q : Int), .int .i64 pl, .slice so q sc, .bool true] 51) = W0 at r0 r1 r2 b3 ⊢
  go_loopw [6] (fun v wr => ∃ (k : Nat) (b : Bool), k ≤ q ∧ v = .int .i64 (k : Int) ∧ b = (ks.take k).all knT ∧ wr.heap[w.heap.size]? = some (.cells #[.int .i64 75, .int .i64 nm, .string tx, .int .i64 (q : Int), .int .i64 pl] 34 (0, 0)) ∧ wr.heap[w.heap.size + 1]? = some (.cells #[.int .i64 0, .int .i64 0, .string ⟨#[]⟩, .int .i64 0, .int .i64 0, .slice none 0 0, .bool false] 51 (0, 0)) ∧ wr.heap[w.heap.size + 1 + 1]? = some (.cells #[.int .i64 75, .int .i64 nm, .string tx, .int .i64 (q : Int), .int .i64 pl, .slice so q sc, .bool b] 51 (0, 0)) ∧ Below w.heap.size w wr) (fun v _ => q - (intOf v).toNat)
  case atStart => exact ⟨0, true, Nat.zero_le _, rfl, by simp, r0, r1, r2, b3⟩
  case round =>
    clear r0 r1 r2 b3
    obtain ⟨k, b, hk, rfl, hbk, r0, r1, r2, hb⟩ := hrel
    have HBK : Hid (b = (ks.take k).all knT) := hbk
    have c0 : wr.cell? ⟨w.heap.size, 0, none⟩ = some (.int .i64 75) := by rw [cell_of_row _ _ _ _ _ _ r0]; rfl
    have d0 : wr.cell? ⟨w.heap.size + 1 + 1, 0, none⟩ = some (.int .i64 75) := by rw [cell_of_row _ _ _ _ _ _ r2]; rfl
    have d1 : wr.cell? ⟨w.heap.size + 1 + 1, 1, none⟩ = some (.int .i64 nm) := by rw [cell_of_row _ _ _ _ _ _ r2]; rfl
    have d2 : wr.cell? ⟨w.heap.size + 1 + 1, 2, none⟩ = some (.string tx) := by rw [cell_of_row _ _ _ _ _ _ r2]; rfl
    have d3 : wr.cell? ⟨w.heap.size + 1 + 1, 3, none⟩ = some (.int .i64 (q : Int)) := by rw [cell_of_row _ _ _ _ _ _ r2]; rfl
    have d4 : wr.cell? ⟨w.heap.size + 1 + 1, 4, none⟩ = some (.int .i64 pl) := by rw [cell_of_row _ _ _ _ _ _ r2]; rfl
    have d5 : wr.cell? ⟨w.heap.size + 1 + 1, 5, none⟩ = some (.slice so q sc) := by rw [cell_of_row _ _ _ _ _ _ r2]; rfl
    have d6 : wr.cell? ⟨w.heap.size + 1 + 1, 6, none⟩ = some (.bool b) := by rw [cell_of_row _ _ _ _ _ _ r2]; rfl
    have f2 : ∀ j, wr.frozen? ⟨w.heap.size + 1 + 1, j, none⟩ = false := fun j => frozen_of_row _ _ _ _ _ r2
    have f1 : ∀ j, wr.frozen? ⟨w.heap.size + 1, j, none⟩ = false := fun j => frozen_of_row _ _ _ _ _ r1
    clear hbk
    by_cases hkq : k < q
    · have hkl : k < ks.length := by have := HQ.out; omega
      obtain ⟨g, sj, e0, -, rj, -⟩ := HKS.out k hkl
      subst e0
      have c6 := rj.2.2.2.2.2.2
      have lg : g < w.heap.size := lt_of_cell rj.1
      have c6' : wr.cell? ⟨g, k * 7 + 6, none⟩ = some (.bool (knT ks[k])) := (hb.cell (p := ⟨g, k * 7 + 6, none⟩) lg).trans c6
      have lgr : g < wr.heap.size := lt_of_cell c6'
      obtain ⟨kb, hkb⟩ : ∃ kb, knT ks[k] = kb := ⟨_, rfl⟩
      rw [hkb] at c6'
      have HS : Hid ((ks.take (k + 1)).all knT = (b && kb)) := by
        show _ = _
        rw [List.take_succ_eq_append_getElem hkl, List.all_append, ← HBK.out]
        simp [hkb]
      have HN : Hid (∀ v, (wr.setCell ⟨w.heap.size + 1 + 1, 6, none⟩ (.bool v)).heap[w.heap.size]? = some (.cells #[.int .i64 75, .int .i64 nm, .string tx, .int .i64 (q : Int), .int .i64 pl] 34 (0, 0)) ∧ (wr.setCell ⟨w.heap.size + 1 + 1, 6, none⟩ (.bool v)).heap[w.heap.size + 1]? = some (.cells #[.int .i64 0, .int .i64 0, .string ⟨#[]⟩, .int .i64 0, .int .i64 0, .slice none 0 0, .bool false] 51 (0, 0)) ∧ (wr.setCell ⟨w.heap.size + 1 + 1, 6, none⟩ (.bool v)).heap[w.heap.size + 1 + 1]? = some (.cells #[.int .i64 75, .int .i64 nm, .string tx, .int .i64 (q : Int), .int .i64 pl, .slice (some ⟨g, 0, none⟩) q sc, .bool v] 51 (0, 0)) ∧ Below w.heap.size w (wr.setCell ⟨w.heap.size + 1 + 1, 6, none⟩ (.bool v))) := by
        intro v
        refine ⟨(Below.heap_setCell _ _ _ _ (by show w.heap.size ≠ w.heap.size + 1 + 1; omega)).trans r0, (Below.heap_setCell _ _ _ _ (by show w.heap.size + 1 ≠ w.heap.size + 1 + 1; omega)).trans r1, ?_, hb.setCell (p := ⟨w.heap.size + 1 + 1, 6, none⟩) (by show w.heap.size ≤ w.heap.size + 1 + 1; omega) _⟩
        rw [heap_setCell_same _ _ _ _ _ _ r2]
        rfl
      have f26 := f2 6
      clear f2 f1 r0 r1 r2 hb hkb c6 rj d0 d1 d2 d3 d4 d5
      cases b
      · obtain ⟨n0, n1, n2, n3⟩ := HN.out false
        go_wp2
        go_roundw
        case rel => exact ⟨k + 1, false, by omega, by go_num, by rw [HS.out]; rfl, n0, n1, n2, n3⟩
        case measure => simp [intOf]; omega
      · obtain ⟨n0, n1, n2, n3⟩ := HN.out kb
        go_wp2
        go_roundw
        case rel => exact ⟨k + 1, kb, by omega, by go_num, by rw [HS.out]; simp, n0, n1, n2, n3⟩
        case measure => simp [intOf]; omega
    · obtain rfl : k = q := by omega
      have HKB : Hid (knT (mkT ⟨75, nm, tx, kk, pl⟩ ks) = b) := by
        show _ = _
        rw [HK.out, HBK.out, List.take_of_length_le (by have := HQ.out; omega)]
      have e0 : wr.cell? ⟨w.heap.size + 1, 0, none⟩ = some (.int .i64 0) := by rw [cell_of_row _ _ _ _ _ _ r1]; rfl
      have e1 : wr.cell? ⟨w.heap.size + 1, 1, none⟩ = some (.int .i64 0) := by rw [cell_of_row _ _ _ _ _ _ r1]; rfl
      have e2 : wr.cell? ⟨w.heap.size + 1, 2, none⟩ = some (.string ⟨#[]⟩) := by rw [cell_of_row _ _ _ _ _ _ r1]; rfl
      have e3 : wr.cell? ⟨w.heap.size + 1, 3, none⟩ = some (.int .i64 0) := by rw [cell_of_row _ _ _ _ _ _ r1]; rfl
      have e4 : wr.cell? ⟨w.heap.size + 1, 4, none⟩ = some (.int .i64 0) := by rw [cell_of_row _ _ _ _ _ _ r1]; rfl
      have e5 : wr.cell? ⟨w.heap.size + 1, 5, none⟩ = some (.slice none 0 0) := by rw [cell_of_row _ _ _ _ _ _ r1]; rfl
      have e6 : wr.cell? ⟨w.heap.size + 1, 6, none⟩ = some (.bool false) := by rw [cell_of_row _ _ _ _ _ _ r1]; rfl
      have l1 : w.heap.size + 1 < wr.heap.size := lt_of_cell e0
      have l2 : w.heap.size + 1 + 1 < wr.heap.size := lt_of_cell d0
      have g0 := f1 0
      have g1 := f1 1
      have g2 := f1 2
      have g3 := f1 3
      have g4 := f1 4
      have g5 := f1 5
      have g6 := f1 6
      have HR1 : Hid _ := r1
      have hfin := set7 r1 (.int .i64 75) (.int .i64 nm) (.string tx) (.int .i64 (k : Int)) (.int .i64 pl) (.slice so k sc) (.bool b)
      have hbel := set7_below hb (show w.heap.size ≤ w.heap.size + 1 by omega) (.int .i64 75) (.int .i64 nm) (.string tx) (.int .i64 (k : Int)) (.int .i64 pl) (.slice so k sc) (.bool b)
      have HF : Hid (Row7 _ _ 0 (mkT ⟨75, nm, tx, kk, pl⟩ ks) (so, k, sc)) := row7_of (by rw [hfin, ← HKB.out]; simp [sv, mkT, Tre.nd, HQ.out])
      clear f1 f2 r0 r1 r2 hfin hb
      go_wp2
      refine bodyPost_ret (results_cell7 rfl _ (w.heap.size + 1) rfl _ _ _ HF.out) rfl ?_
      exact ⟨rfl, hbel⟩
theorem run_append3 {P : Program} (w : World) (base : Nat) (t ty e : TypeId) (i : TypeInfo) (z : Value) (size bytes : Nat) (ht : P.underlying t = some (.slice e)) (hi : P.info? e = some i) (hz : i.zero = some z)
    (hsize : i.size = size) (hby : i.bytes = bytes) (hzs : z.cells.size = size) (hsz : 0 < size) (v : Value) (n : Nat) (xs : List Value) (hown : w.ownsRow base e size v n xs)
    (ad : Addr) (m c : Nat) (news : List Value) (hl : news.length = m * size) (hnews : ∀ j u, news[j]? = some u → w.cell? (ad.add j) = some u) (h1 : ∀ u ∈ news, u.oneCell' = true)
    (hm : 0 < m) (h63 : n + m ≤ maxLen) (hbytes : (n + m) * bytes ≤ 140737488355328) (hbase : base ≤ w.heap.size) :
    ∃ g' cap' w', (Builtin.append_ #[t, t] ty #[v, .slice (some ad) m c]).run P w = .ok (.slice (some ⟨g', 0, none⟩) (n + m) cap') w' ∧ w'.ownsRow base e size (.slice (some ⟨g', 0, none⟩) (n + m) cap') (n + m) (xs ++ news) ∧ w.grownBy w' v.ownBlock ∧ (v.ownBlock = some g' ∨ w.heap.size ≤ g') := by
  obtain ⟨v', w', hr, h2, h3, h4⟩ := run_append_own (P := P) w base t ty e i z size bytes ht hi hz hsize hby hzs hsz v n xs hown ad m c news hl hnews h1 h63 hbytes hbase
  rcases hown.2 with ⟨hv, hn⟩ | ⟨g2, cap2, cur, he, _⟩
  · subst hv
    have hown2 : w.ownsRow w.heap.size e size (.slice none 0 0) n xs := ⟨hown.1, Or.inl ⟨rfl, hn⟩⟩
    obtain ⟨v2, w2, hr2, h22, h23, h24⟩ := run_append_own (P := P) w w.heap.size t ty e i z size bytes ht hi hz hsize hby hzs hsz _ n xs hown2 ad m c news hl hnews h1 h63 hbytes (Nat.le_refl _)
    rw [hr] at hr2
    simp only [Result.ok.injEq] at hr2
    obtain ⟨rfl, rfl⟩ := hr2
    rcases h22.2 with ⟨hv2, hn2⟩ | ⟨g3, cap3, cur3, he3, hb3, _⟩
    · omega
    · subst he3
      exact ⟨g3, cap3, _, hr, h2, h3, Or.inr hb3⟩
  · subst he
    subst hsize
    obtain ⟨g', cap', rfl, hw⟩ := append_where w t ty e i z ht hi hz base g2 n cap2 xs hown ad m c news hl hnews h1 h63 (by rw [hby]; exact hbytes) hr
    exact ⟨g', cap', _, hr, h2, h3, hw.elim (fun e => Or.inl (by rw [e]; rfl)) (fun e => Or.inr (by omega))⟩
end Go.Proofs.YtemancdlnakkmaaGreat
