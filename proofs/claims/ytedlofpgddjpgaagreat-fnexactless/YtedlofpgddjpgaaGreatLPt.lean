import Derived.Test.YtedlofpgddjpgaaGreatWBW
import Derived.Test.YtedlofpgddjpgaaGreatWBU
namespace Go.Proofs.YtedlofpgddjpgaaGreat
open Go.RowKit
theorem wpAnyH_inv {P : Program} {md : Region.Mode} {ops : Array Oper} {Q : Exit → Act → World → Prop} {Inv : Nat → Array Bool → Act → World → Prop}
    (h0 : ∀ l a w, Inv 0 l a w → Region.ready md ops l = [] ∧ Q .normal a w) (h1 : ∀ n l a w, Inv (n + 1) l a w → Region.ready md ops l ≠ [])
    (h2 : ∀ n l a w, Inv (n + 1) l a w → ∀ i ∈ Region.ready md ops l, ∃ o, ops[i]? = some o ∧ ∀ K' : Act → World → Prop, Shut (∀ a' w', Inv n (l.setIfInBounds i true) a' w' → K' a' w') → if Region.wanted o (yielded ops a.tmps) = true then Oper.wp P o a w K' Q else K' (a.put o.dst undef) w) :
    ∀ n l a w, Inv n l a w → wpAnyH P md ops Q (fun _ => True) n l a w := by
  intro n
  induction n with
  | zero => intro l a w h; exact h0 l a w h
  | succ n ih =>
    intro l a w h
    refine ⟨fun e => absurd e (h1 n l a w h), fun i hi => ?_⟩
    obtain ⟨o, ho, hk⟩ := h2 n l a w h i hi
    exact wpOp_step ho (fun K' hK => hk K' (fun a' w' hI => hK a' w' ⟨trivial, ih _ _ _ hI⟩))
theorem mem_ready {md : Region.Mode} {ops : Array Oper} {l : Array Bool} {i : Nat} (h : i ∈ Region.ready md ops l) : i < ops.size ∧ l.getD i true = false ∧ ((ops[i]?).map (·.after.all fun e => !Region.binds md e || l.getD e.on false)).getD false = true := by
  unfold Region.ready at h
  simp only [List.mem_filter, List.mem_range, Bool.and_eq_true, Bool.not_eq_true'] at h
  exact ⟨h.1, h.2.1, h.2.2⟩
def lessL (t : List Nd) (m : Nat) : List Nd := outT (lessT (cntK bndK t) (cntK (· == 70) t) (treT t m (m - 1)) (fun _ => none)).1
theorem belowAfter {B : Nat} {a b c : World} (h : Below B b c) (k : Below B a b) : Below B a c :=
  ⟨h.os.trans k.os, h.tape.trans k.tape, h.output.trans k.output, Nat.le_trans k.size h.size, fun i hi => (h.block i hi).trans (k.block i hi)⟩
theorem ready_ne {md : Region.Mode} {ops : Array Oper} {l : Array Bool} (h : (Region.ready md ops l).isEmpty = false) : Region.ready md ops l ≠ [] := by
  intro e
  rw [e] at h
  cases h
set_option maxRecDepth 20000 in
set_option maxHeartbeats 8000000 in
theorem pass_any (t : List Nd) (m : Nat) (HM : Hid (t.length = m)) (hm : m ≤ 60000) (hm0 : 0 < m) (S ys : List Sp) (HAF : Hid (after t m = some (S, ys))) (HSL : Hid (S.length = 1)) (HPL : Hid (∀ f i, i < f → i < m → PlT (treT t f i))) (b0 o0 cap : Nat) (w : World) (hx : Nodes w (some ⟨b0, o0, none⟩) t) :
    Calls Tryz.prog 16 #[.slice (some ⟨b0, o0, none⟩) m cap] w fun e w' => ∃ g c l, e = .returned (.slice (some ⟨g, 0, none⟩) l c) ∧ OwnN w' w.heap.size g c l (lessL t m) ∧ Below w.heap.size w w' := by
  have HSZ : Hid (sizesOf t = ys.map szOf) := by show _ = _; unfold sizesOf; rw [HM.out, HAF.out]
  have HRO : Hid (outT (treT t m (m - 1)) = t) := tree_root HM.out HAF.out HSL.out hm0
  obtain ⟨ci, zi, hci, mki⟩ := mkInts 200001 rfl
  obtain ⟨cb, zb, hcb, mkb⟩ := mkBools 200001 rfl
  obtain ⟨ct, zt, mkt⟩ := mkTrees 200001 rfl
  have MKI : Hid (∀ w : World, (Instr.makeSlice 46 (.int .i64 200001) (.int .i64 200001)).run Tryz.prog w = .ok (.slice (some ⟨w.heap.size, 0, none⟩) 200001 200001) (w.alloc (.cells ci 3))) := mki
  have MKB : Hid (∀ w : World, (Instr.makeSlice 54 (.int .i64 200001) (.int .i64 200001)).run Tryz.prog w = .ok (.slice (some ⟨w.heap.size, 0, none⟩) 200001 200001) (w.alloc (.cells cb 4))) := mkb
  have MKT : Hid (∀ w : World, (Instr.makeSlice 53 (.int .i64 200001) (.int .i64 200001)).run Tryz.prog w = .ok (.slice (some ⟨w.heap.size, 0, none⟩) 200001 200001) (w.alloc (.cells ct 59))) := mkt
  have HX : Hid (Nodes w (some ⟨b0, o0, none⟩) t) := hx
  have HLS : Hid ((sizesOf t).length = m) := by show _ = _; rw [HSZ.out, List.length_map]; exact (after_fine HAF.out).len
  clear mki mkb mkt hx
  go_enter Tryz.func16, Tryz.ntmps16
  go_upto_region 1 with fail
  refine wp_region_held_drew (S := fun _ => True) (by kernel_rfl) trivial (fun hS => ?_)
  refine take_in 0 6 (v := ?_) (oi := _) (ixA rfl) (by rfl) (by kernel_rfl) (by kernel_rfl) (by kernel_rfl) (by exact fun _ _ _ h => h) (Or.inl ⟨by rfl, ?_⟩) hS ?_
  rotate_left
  · intro w' hSw; (try dsimp only at hSw); (go_simp <;> with_reducible rfl)
  simp only [List.setIfInBounds_toArray, List.set_cons_zero, List.set_cons_succ]
  refine take_in 1 7 (v := ?_) (oi := _) (ixA rfl) (by rfl) (by kernel_rfl) (by kernel_rfl) (by kernel_rfl) (by exact fun _ _ _ h => h) (Or.inl ⟨by rfl, ?_⟩) hS ?_
  rotate_left
  · intro w' hSw; (try dsimp only at hSw); (go_simp <;> with_reducible rfl)
  simp only [List.setIfInBounds_toArray, List.set_cons_zero, List.set_cons_succ]
  refine wpAnyH_inv (Inv := fun n l a w9 => ∃ (b2 b3 b4 b5 b6 b8 : Option Nat) (cz : Nat), (Mk w (PK m (sizesOf t) ci ct cb cz #[.slice none 0 0, .slice none 0 0, .slice none 0 0, .slice none 0 0, .slice none 0 0, .slice none 0 0]) (six b2 b3 b4 b5 b6 b8) w9 ∧ ((l = #[true, true, b2.isSome, b3.isSome, b4.isSome, b5.isSome, b6.isSome, false, b8.isSome, false] ∧ a = ⟨#[.slice (some ⟨b0, o0, none⟩) m cap, undef, .slice none 0 0, (mkP b8), undef, undef, .slice (some ⟨b0, o0, none⟩) m cap, .slice (some ⟨b0, o0, none⟩) m cap, (mkV m cz b2), (mkV 200001 200001 b3), (mkV 200001 200001 b4), (mkV 200001 200001 b5), (mkV 200001 200001 b6), undef, undef, undef, undef, undef, undef, undef, undef, undef, undef, undef, undef, undef, undef, undef, undef, undef, undef, undef, undef, undef, undef, undef, undef, undef, undef, undef, undef, undef, undef, undef, undef, undef, undef, undef, undef, undef, undef, undef, undef, undef, undef, undef, undef, undef, undef, undef, undef, undef, undef, undef, undef, undef, undef, undef, undef, undef, undef, undef, undef, undef, undef, undef, undef, undef, undef, undef, undef, undef, undef, undef, undef, undef, undef, undef, undef, undef, undef, undef, undef, undef, undef, undef, undef, undef, undef, undef, undef, undef], []⟩ ∧ n = 2 + cntN b2 + cntN b3 + cntN b4 + cntN b5 + cntN b6 + cntN b8) ∨ (b2.isSome = true ∧ b3.isSome = true ∧ b4.isSome = true ∧ b5.isSome = true ∧ b6.isSome = true ∧ l = #[true, true, b2.isSome, b3.isSome, b4.isSome, b5.isSome, b6.isSome, true, b8.isSome, false] ∧ a = ⟨#[.slice (some ⟨b0, o0, none⟩) m cap, undef, .slice none 0 0, (mkP b8), undef, undef, .slice (some ⟨b0, o0, none⟩) m cap, .slice (some ⟨b0, o0, none⟩) m cap, (mkV m cz b2), (mkV 200001 200001 b3), (mkV 200001 200001 b4), (mkV 200001 200001 b5), (mkV 200001 200001 b6), .agg #[.slice (some ⟨b0, o0, none⟩) m cap, (mkV m cz b2), (mkV 200001 200001 b3), (mkV 200001 200001 b4), (mkV 200001 200001 b5), (mkV 200001 200001 b6)], undef, undef, undef, undef, undef, undef, undef, undef, undef, undef, undef, undef, undef, undef, undef, undef, undef, undef, undef, undef, undef, undef, undef, undef, undef, undef, undef, undef, undef, undef, undef, undef, undef, undef, undef, undef, undef, undef, undef, undef, undef, undef, undef, undef, undef, undef, undef, undef, undef, undef, undef, undef, undef, undef, undef, undef, undef, undef, undef, undef, undef, undef, undef, undef, undef, undef, undef, undef, undef, undef, undef, undef, undef, undef, undef, undef, undef, undef, undef, undef, undef, undef, undef, undef, undef, undef, undef, undef], []⟩ ∧ n = 1 + cntN b8))) ∨ (∃ a2 a3 a4 a5 a6 a8 : Nat, b2 = some a2 ∧ b3 = some a3 ∧ b4 = some a4 ∧ b5 = some a5 ∧ b6 = some a6 ∧ b8 = some a8 ∧ l = #[true, true, b2.isSome, b3.isSome, b4.isSome, b5.isSome, b6.isSome, true, b8.isSome, true] ∧ a = ⟨#[.slice (some ⟨b0, o0, none⟩) m cap, undef, .slice none 0 0, (mkP b8), undef, undef, .slice (some ⟨b0, o0, none⟩) m cap, .slice (some ⟨b0, o0, none⟩) m cap, (mkV m cz b2), (mkV 200001 200001 b3), (mkV 200001 200001 b4), (mkV 200001 200001 b5), (mkV 200001 200001 b6), .agg #[.slice (some ⟨b0, o0, none⟩) m cap, (mkV m cz b2), (mkV 200001 200001 b3), (mkV 200001 200001 b4), (mkV 200001 200001 b5), (mkV 200001 200001 b6)], undef, undef, undef, undef, undef, undef, undef, undef, undef, undef, undef, undef, undef, undef, undef, undef, undef, undef, undef, undef, undef, undef, undef, undef, undef, undef, undef, undef, undef, undef, undef, undef, undef, undef, undef, undef, undef, undef, undef, undef, undef, undef, undef, undef, undef, undef, undef, undef, undef, undef, undef, undef, undef, undef, undef, undef, undef, undef, undef, undef, undef, undef, undef, undef, undef, undef, undef, undef, undef, undef, undef, undef, undef, undef, undef, undef, undef, undef, undef, undef, undef, undef, undef, undef, undef, undef, undef, undef], []⟩ ∧ n = 0 ∧ Mk w (PK m (sizesOf t) ci ct cb cz #[.slice (some ⟨b0, o0, none⟩) m cap, .slice (some ⟨a2, 0, none⟩) m cz, .slice (some ⟨a3, 0, none⟩) 200001 200001, .slice (some ⟨a4, 0, none⟩) 200001 200001, .slice (some ⟨a5, 0, none⟩) 200001 200001, .slice (some ⟨a6, 0, none⟩) 200001 200001]) (six b2 b3 b4 b5 b6 b8) w9)) ?_ ?_ ?_ 8 _ _ _ ?_
  · intro l a w9 h
    obtain ⟨b2, b3, b4, b5, b6, b8, cz, ⟨-, h | h⟩ | ⟨a2, a3, a4, a5, a6, a8, rfl, rfl, rfl, rfl, rfl, rfl, rfl, rfl, -, hmk⟩⟩ := h
    · exfalso; omega
    · exfalso; omega
    refine ⟨by kernel_rfl, ?_⟩
    have k2 : ∃ Bz, Ints w9 Bz a2 cz m (sizesOf t) := by
      have h9 := hmk.k 2 a2 rfl
      unfold PK at h9
      rw [if_pos rfl] at h9
      exact h9
    have k3 : w9.heap[a3]? = some (.cells ci 3 (0, 0)) := by
      have h9 := hmk.k 3 a3 rfl
      unfold PK at h9
      rw [if_neg (by decide), if_pos (by decide)] at h9
      exact h9
    have k4 : w9.heap[a4]? = some (.cells ci 3 (0, 0)) := by
      have h9 := hmk.k 4 a4 rfl
      unfold PK at h9
      rw [if_neg (by decide), if_pos (by decide)] at h9
      exact h9
    have k5 : w9.heap[a5]? = some (.cells ct 59 (0, 0)) := by
      have h9 := hmk.k 5 a5 rfl
      unfold PK at h9
      rw [if_neg (by decide), if_neg (by decide), if_pos (by decide)] at h9
      exact h9
    have k6 : w9.heap[a6]? = some (.cells cb 4 (0, 0)) := by
      have h9 := hmk.k 6 a6 rfl
      unfold PK at h9
      rw [if_neg (by decide), if_neg (by decide), if_neg (by decide), if_pos (by decide)] at h9
      exact h9
    have k8 : w9.heap[a8]? = some (.cells #[.slice (some ⟨b0, o0, none⟩) m cap, .slice (some ⟨a2, 0, none⟩) m cz, .slice (some ⟨a3, 0, none⟩) 200001 200001, .slice (some ⟨a4, 0, none⟩) 200001 200001, .slice (some ⟨a5, 0, none⟩) 200001 200001, .slice (some ⟨a6, 0, none⟩) 200001 200001] 56 (0, 0)) := by
      have h9 := hmk.k 8 a8 rfl
      unfold PK at h9
      rw [if_neg (by decide), if_neg (by decide), if_neg (by decide), if_neg (by decide)] at h9
      exact h9
    have q2 := hmk.lt 2 a2 rfl
    have q3 := hmk.lt 3 a3 rfl
    have q4 := hmk.lt 4 a4 rfl
    have q5 := hmk.lt 5 a5 rfl
    have q6 := hmk.lt 6 a6 rfl
    have q8 := hmk.lt 8 a8 rfl
    have n23 : a2 ≠ a3 := fun e => hmk.ne 2 3 a2 (by decide) rfl (by rw [e]; rfl)
    have n24 : a2 ≠ a4 := fun e => hmk.ne 2 4 a2 (by decide) rfl (by rw [e]; rfl)
    have n25 : a2 ≠ a5 := fun e => hmk.ne 2 5 a2 (by decide) rfl (by rw [e]; rfl)
    have n26 : a2 ≠ a6 := fun e => hmk.ne 2 6 a2 (by decide) rfl (by rw [e]; rfl)
    have n34 : a3 ≠ a4 := fun e => hmk.ne 3 4 a3 (by decide) rfl (by rw [e]; rfl)
    have n35 : a3 ≠ a5 := fun e => hmk.ne 3 5 a3 (by decide) rfl (by rw [e]; rfl)
    have n36 : a3 ≠ a6 := fun e => hmk.ne 3 6 a3 (by decide) rfl (by rw [e]; rfl)
    have n38 : a3 ≠ a8 := fun e => hmk.ne 3 8 a3 (by decide) rfl (by rw [e]; rfl)
    have n45 : a4 ≠ a5 := fun e => hmk.ne 4 5 a4 (by decide) rfl (by rw [e]; rfl)
    have n46 : a4 ≠ a6 := fun e => hmk.ne 4 6 a4 (by decide) rfl (by rw [e]; rfl)
    have n48 : a4 ≠ a8 := fun e => hmk.ne 4 8 a4 (by decide) rfl (by rw [e]; rfl)
    have n56 : a5 ≠ a6 := fun e => hmk.ne 5 6 a5 (by decide) rfl (by rw [e]; rfl)
    have hbw := hmk.below
    have hxw := HX.out.below hbw
    have hxb : b0 < w.heap.size := by
      obtain ⟨b, o, e, hn⟩ := HX.out 0 (by have := HM.out; omega)
      simp only [Option.some.injEq, Addr.mk.injEq, and_true] at e
      obtain ⟨rfl, rfl⟩ := e
      exact lt_of_cell hn.1
    have HQ : Hid ((w.heap.size ≤ a2 ∧ a2 < w9.heap.size) ∧ (w.heap.size ≤ a3 ∧ a3 < w9.heap.size) ∧ (w.heap.size ≤ a4 ∧ a4 < w9.heap.size) ∧ (w.heap.size ≤ a5 ∧ a5 < w9.heap.size) ∧ (w.heap.size ≤ a6 ∧ a6 < w9.heap.size) ∧ (w.heap.size ≤ a8 ∧ a8 < w9.heap.size) ∧ b0 < w.heap.size ∧ w.heap.size ≤ w9.heap.size) := ⟨q2, q3, q4, q5, q6, q8, hxb, hbw.size⟩
    have HNE : Hid (a2 ≠ a3 ∧ a2 ≠ a4 ∧ a2 ≠ a5 ∧ a2 ≠ a6 ∧ a3 ≠ a4 ∧ a3 ≠ a5 ∧ a3 ≠ a6 ∧ a3 ≠ a8 ∧ a4 ≠ a5 ∧ a4 ≠ a6 ∧ a4 ≠ a8 ∧ a5 ≠ a6) := ⟨n23, n24, n25, n26, n34, n35, n36, n38, n45, n46, n48, n56⟩
    have K2 : Hid _ := k2
    have K5 : Hid _ := k5
    have K6 : Hid _ := k6
    have HCB : Hid (∀ j, j < 200001 → cb[j]? = some (.bool false)) := hcb
    have K8 : Hid _ := k8
    have K3 : Hid (RowC w9 a3 (cntK bndK (t.take 0))) := RowC.start k3 zi hci
    have K4 : Hid (RowC w9 a4 (cntK (· == 70) (t.take 0))) := RowC.start k4 zi hci
    have HBW : Hid _ := hbw
    have HXW : Hid (Nodes w9 (some ⟨b0, o0, none⟩) t) := hxw
    clear k2 k3 k4 k5 k6 k8 q2 q3 q4 q5 q6 q8 n23 n24 n25 n26 n34 n35 n36 n38 n45 n46 n48 n56 hbw hxw hxb hmk hci hcb zi MKI MKB MKT hS
    simp only [mkV, mkP]
    go_wp2
    go_loopw [4, 5] (fun v4 v5 wr => ∃ j : Nat, j ≤ m ∧ v4 = .int .i64 (j : Int) ∧ RowC wr a3 (cntK bndK (t.take j)) ∧ RowC wr a4 (cntK (· == 70) (t.take j)) ∧ But (fun q => q = a3 ∨ q = a4) w9 wr) (fun v4 _ _ => m - (intOf v4).toNat)
    case atStart => exact ⟨0, Nat.zero_le _, rfl, K3.out, K4.out, But.refl _ _⟩
    case round =>
      obtain ⟨j, hjm, rfl, hr3, hr4, hbut⟩ := hrel
      have HQ9 := HQ.out
      have HN9 := HNE.out
      have k8 := (hbut.block a8 (by omega) (by rintro (e | e) <;> omega)).trans K8.out
      by_cases hlt : j < m
      · have hjt : j < t.length := by have := HM.out; omega
        obtain ⟨b9, o9, e9, hnd⟩ := HXW.out j hjt
        simp only [Option.some.injEq, Addr.mk.injEq, and_true] at e9
        obtain ⟨rfl, rfl⟩ := e9
        have hTK : t.take (j + 1) = t.take j ++ [t[j]] := List.take_succ_eq_append_getElem hjt
        obtain ⟨nd, hnde⟩ : ∃ nd, t[j] = nd := ⟨_, rfl⟩
        rw [hnde] at hnd hTK
        have c0 := hbut.cellL hnd.1 (by rintro (e | e) <;> omega)
        have c1 := hbut.cellL hnd.2.1 (by rintro (e | e) <;> omega)
        have lb : b0 < wr.heap.size := lt_of_cell c0
        have HTK : Hid _ := hTK
        obtain ⟨kd, nm, tx, kk, pl⟩ := nd
        simp only at c0 c1
        have hj1 : (j : Int) < (m : Int) := by omega
        have hj0 : (0 : Int) ≤ (j : Int) := by omega
        have HR3 : Hid (RowC wr a3 (cntK bndK (t.take j))) := hr3
        have HR4 : Hid (RowC wr a4 (cntK (· == 70) (t.take j))) := hr4
        have HBU : Hid (But (fun q => q = a3 ∨ q = a4) w9 wr) := hbut
        have K8r : Hid _ := k8
        have HLT : Hid (j < m) := hlt
        clear hnd hnde hTK hr3 hr4 hbut k8 HQ9 HN9
        by_cases h1 : nm < 1
        · have t1 : decide (nm < 1) = true := by simpa using h1
          have HN3 : Hid (RowC wr a3 (cntK bndK (t.take (j + 1)))) := by show RowC _ _ _; rw [HTK.out, cntK_skip _ _ (.inl h1)]; exact HR3.out
          have HN4 : Hid (RowC wr a4 (cntK (· == 70) (t.take (j + 1)))) := by show RowC _ _ _; rw [HTK.out, cntK_skip _ _ (.inl h1)]; exact HR4.out
          clear h1
          go_wp2
          go_roundw
          case rel => exact ⟨j + 1, by have := HLT.out; omega, by go_num, HN3.out, HN4.out, HBU.out⟩
          case measure => have := HLT.out; simp [intOf]; omega
        have t1 : decide (nm < 1) = false := by simpa using h1
        by_cases h2 : nm > 200000
        · have t2 : decide (200000 < nm) = true := by simpa using h2
          have HN3 : Hid (RowC wr a3 (cntK bndK (t.take (j + 1)))) := by show RowC _ _ _; rw [HTK.out]; exact HR3.out.far _ _ h2 rfl
          have HN4 : Hid (RowC wr a4 (cntK (· == 70) (t.take (j + 1)))) := by show RowC _ _ _; rw [HTK.out]; exact HR4.out.far _ _ h2 rfl
          clear h1 h2
          go_wp2
          go_roundw
          case rel => exact ⟨j + 1, by have := HLT.out; omega, by go_num, HN3.out, HN4.out, HBU.out⟩
          case measure => have := HLT.out; simp [intOf]; omega
        have t2 : decide (200000 < nm) = false := by simpa using h2
        obtain ⟨x, rfl⟩ : ∃ x : Nat, nm = (x : Int) := ⟨nm.toNat, by omega⟩
        have hx1 : (x : Int) < 200001 := by omega
        have hx0 : (0 : Int) ≤ (x : Int) := by omega
        have HX1 : Hid (1 ≤ x ∧ x ≤ 200000) := by show _ ∧ _; omega
        have k8 := K8r.out
        have x2c : wr.cell? ⟨a8, 2, none⟩ = some (.slice (some ⟨a3, 0, none⟩) 200001 200001) := by rw [cell_of_row _ _ _ _ _ _ k8]; rfl
        have x3c : wr.cell? ⟨a8, 3, none⟩ = some (.slice (some ⟨a4, 0, none⟩) 200001 200001) := by rw [cell_of_row _ _ _ _ _ _ k8]; rfl
        have l8 : a8 < wr.heap.size := lt_of_cell x2c
        clear k8 h1 h2
        by_cases h70 : kd = 70
        · subst h70
          have hfz : wr.frozen? ⟨a4, x, none⟩ = false := HR4.out.frozen x
          have hce := HR4.out.cell x HX1.out.2
          have lbk : a4 < wr.heap.size := lt_of_cell hce
          have hinc := HR4.out.inc ⟨70, (x : Int), tx, kk, pl⟩ x HX1.out.2 HX1.out.1 rfl rfl
          have hle := cntK_le (· == 70) (t.take j) (x : Int)
          have hl2 : (t.take j).length ≤ 60000 := by rw [List.length_take]; omega
          obtain ⟨cv, hcv⟩ : ∃ cv, cntK (· == 70) (t.take j) (x : Int) = cv := ⟨_, rfl⟩
          rw [hcv] at hce hinc hle
          have hwr : IntKind.i64.wrap ((cv : Int) + 1) = (cv : Int) + 1 := by rw [IntKind.wrap_i64]; omega
          have HN4 : Hid (RowC (wr.setCell ⟨a4, x, none⟩ (.int .i64 ((cv : Int) + 1))) a4 (cntK (· == 70) (t.take (j + 1)))) := by show RowC _ _ _; rw [HTK.out]; exact hinc
          have bs : But (· = a4) wr (wr.setCell ⟨a4, x, none⟩ (.int .i64 ((cv : Int) + 1))) := (But.refl (· = a4) wr).setCell (p := ⟨a4, x, none⟩) (show a4 = a4 from rfl) _
          have HN3 : Hid (RowC (wr.setCell ⟨a4, x, none⟩ (.int .i64 ((cv : Int) + 1))) a3 (cntK bndK (t.take (j + 1)))) := by show RowC _ _ _; rw [HTK.out, cntK_skip _ _ (.inr rfl)]; exact HR3.out.but bs (by have := HNE.out; omega)
          have HBN : Hid (But (fun q => q = a3 ∨ q = a4) w9 (wr.setCell ⟨a4, x, none⟩ (.int .i64 ((cv : Int) + 1)))) := HBU.out.setCell (p := ⟨a4, x, none⟩) (Or.inr rfl) _
          clear hinc hle hl2 hcv bs
          go_upto_region 8 with fail
          clear x2c
          go_region
          have d3 := HN3.out
          have d4 := HN4.out
          have dB := HBN.out.drewL
          clear hfz hce lbk x3c l8 HR3 HR4 HBU hwr
          go_wp2
          go_roundw
          case rel => exact ⟨j + 1, by have := HLT.out; omega, by go_num, d3, d4, dB⟩
          case measure => have := HLT.out; simp [intOf]; omega
        have t70 : (kd == 70) = false := by simpa using h70
        by_cases hbk : bndK kd = true
        · have hfz : wr.frozen? ⟨a3, x, none⟩ = false := HR3.out.frozen x
          have hce := HR3.out.cell x HX1.out.2
          have lbk : a3 < wr.heap.size := lt_of_cell hce
          have hinc := HR3.out.inc ⟨kd, (x : Int), tx, kk, pl⟩ x HX1.out.2 HX1.out.1 rfl hbk
          have hle := cntK_le bndK (t.take j) (x : Int)
          have hl2 : (t.take j).length ≤ 60000 := by rw [List.length_take]; omega
          obtain ⟨cv, hcv⟩ : ∃ cv, cntK bndK (t.take j) (x : Int) = cv := ⟨_, rfl⟩
          rw [hcv] at hce hinc hle
          have hwr : IntKind.i64.wrap ((cv : Int) + 1) = (cv : Int) + 1 := by rw [IntKind.wrap_i64]; omega
          have HN3 : Hid (RowC (wr.setCell ⟨a3, x, none⟩ (.int .i64 ((cv : Int) + 1))) a3 (cntK bndK (t.take (j + 1)))) := by show RowC _ _ _; rw [HTK.out]; exact hinc
          have bs : But (· = a3) wr (wr.setCell ⟨a3, x, none⟩ (.int .i64 ((cv : Int) + 1))) := (But.refl (· = a3) wr).setCell (p := ⟨a3, x, none⟩) (show a3 = a3 from rfl) _
          have HN4 : Hid (RowC (wr.setCell ⟨a3, x, none⟩ (.int .i64 ((cv : Int) + 1))) a4 (cntK (· == 70) (t.take (j + 1)))) := by show RowC _ _ _; rw [HTK.out, cntK_skip _ _ (.inr t70)]; exact HR4.out.but bs (by have := HNE.out; omega)
          have HBN : Hid (But (fun q => q = a3 ∨ q = a4) w9 (wr.setCell ⟨a3, x, none⟩ (.int .i64 ((cv : Int) + 1)))) := HBU.out.setCell (p := ⟨a3, x, none⟩) (Or.inl rfl) _
          have hks := bnd_kinds hbk
          clear hinc hle hl2 hcv bs hbk h70 x3c
          rcases hks with rfl | rfl | rfl | rfl | rfl
          all_goals
            go_upto_region 10 with fail
            go_region
            have d3 := HN3.out
            have d4 := HN4.out
            have dB := HBN.out.drewL
            clear hfz hce lbk x2c l8 HR3 HR4 HBU hwr
            go_wp2
            go_roundw
            case rel => exact ⟨j + 1, by have := HLT.out; omega, by go_num, d3, d4, dB⟩
            case measure => have := HLT.out; simp [intOf]; omega
        · have hbf : bndK kd = false := by simpa using hbk
          have HN3 : Hid (RowC wr a3 (cntK bndK (t.take (j + 1)))) := by show RowC _ _ _; rw [HTK.out, cntK_skip _ _ (.inr hbf)]; exact HR3.out
          have HN4 : Hid (RowC wr a4 (cntK (· == 70) (t.take (j + 1)))) := by show RowC _ _ _; rw [HTK.out, cntK_skip _ _ (.inr t70)]; exact HR4.out
          obtain ⟨t76, t80, t82, t90, t91⟩ := bnd_none hbf
          clear hbf hbk h70 x2c x3c
          go_wp2
          go_roundw
          case rel => exact ⟨j + 1, by have := HLT.out; omega, by go_num, HN3.out, HN4.out, HBU.out⟩
          case measure => have := HLT.out; simp [intOf]; omega
      · obtain rfl : j = m := by omega
        have hfull : t.take j = t := List.take_of_length_le (by have := HM.out; omega)
        rw [hfull] at hr3 hr4
        obtain ⟨Bz, k2⟩ := K2.out
        rw [HSZ.out] at k2
        have hzt : ct.size = 1400007 := by omega
        have hPas : Pas ⟨b0, o0, cap, a2, cz, Bz, a3, 200001, a4, 200001, a5, 200001, a6, 200001⟩ t j ys (cntK bndK t) (cntK (· == 70) t) wr (fun q => q ≠ a5 ∧ q ≠ a6) (fun _ => none) := by
          refine ⟨HXW.out.butL hbut (fun b o e => by simp only [Option.some.injEq, Addr.mk.injEq, and_true] at e; rintro (e9 | e9) <;> omega), k2.butL hbut (by rintro (e9 | e9) <;> omega), hr3.cnt, hr4.cnt, fun n hn => ?_, (fun n hn V hV => (by cases hV)), ⟨ct, (hbut.block a5 (by omega) (by rintro (e9 | e9) <;> omega)).trans K5.out, hzt⟩, ⟨cb, (hbut.block a6 (by omega) (by rintro (e9 | e9) <;> omega)).trans K6.out, zb⟩, ?_, ?_⟩
          · rw [cell_of_row _ _ _ _ _ _ ((hbut.block a6 (by omega) (by rintro (e9 | e9) <;> omega)).trans K6.out)]
            exact HCB.out n (by omega)
          · simp only [PasAt.W]
            omega
          · intro q hq
            simp only [PasAt.W]
            omega
        have hLS := less_any ⟨b0, o0, cap, a2, cz, Bz, a3, 200001, a4, 200001, a5, 200001, a6, 200001⟩ t j HM hm S ys HAF (cntK bndK t) (cntK (· == 70) t) HPL j (j - 1) wr _ _ (by omega) (by omega) hPas (fun x V h => (by cases h)) (fun q hq => (by have := hbut.size; omega))
        have HKP := less_kept (cntK bndK t) (cntK (· == 70) t) (treT t j (j - 1)) (fun _ => none) (HPL.out j (j - 1) (by omega) (by omega)) (fun x V h => (by cases h))
        obtain ⟨L, hL⟩ : ∃ L, lessT (cntK bndK t) (cntK (· == 70) t) (treT t j (j - 1)) (fun _ => none) = L := ⟨_, rfl⟩
        rw [hL] at hLS HKP
        have HLEN : Hid ((outT L.1).length ≤ 60000) := by
          show _ ≤ _
          have h9 := HKP.1.le
          rw [HRO.out] at h9
          have := HM.out
          omega
        have HLL : Hid (lessL t j = outT L.1) := by show _ = _; unfold lessL; rw [hL]
        simp only at hLS
        have hsub : ((j : Int) - 1) = ((j - 1 : Nat) : Int) := by omega
        have xc0 : wr.cell? ⟨a8, 0, none⟩ = some (.slice (some ⟨b0, o0, none⟩) j cap) := by rw [cell_of_row _ _ _ _ _ _ k8]; rfl
        have xc1 : wr.cell? ⟨a8, 1, none⟩ = some (.slice (some ⟨a2, 0, none⟩) j cz) := by rw [cell_of_row _ _ _ _ _ _ k8]; rfl
        have xc2 : wr.cell? ⟨a8, 2, none⟩ = some (.slice (some ⟨a3, 0, none⟩) 200001 200001) := by rw [cell_of_row _ _ _ _ _ _ k8]; rfl
        have xc3 : wr.cell? ⟨a8, 3, none⟩ = some (.slice (some ⟨a4, 0, none⟩) 200001 200001) := by rw [cell_of_row _ _ _ _ _ _ k8]; rfl
        have xc4 : wr.cell? ⟨a8, 4, none⟩ = some (.slice (some ⟨a5, 0, none⟩) 200001 200001) := by rw [cell_of_row _ _ _ _ _ _ k8]; rfl
        have xc5 : wr.cell? ⟨a8, 5, none⟩ = some (.slice (some ⟨a6, 0, none⟩) 200001 200001) := by rw [cell_of_row _ _ _ _ _ _ k8]; rfl
        have l8 : a8 < wr.heap.size := lt_of_cell xc0
        have HBF : Hid (But (fun q => q = a3 ∨ q = a4) w9 wr) := hbut
        have HWS : Hid (w9.heap.size ≤ wr.heap.size) := hbut.size
        clear hfull k2 hzt hPas hL HKP k8 HQ9 HN9 hr3 hr4 hbut
        go_wp2_with fail
        refine hLS.mono ?_
        rintro e w6 ⟨s6, rfl, hs6, -, hb6⟩
        simp only [sv]
        have bE := (Below.refl w6.heap.size w6).alloc (Nat.le_refl _) (.cells #[] 34)
        have hoE := OwnN.empty (w := w6) (B := w.heap.size) (by have := hb6.size; have := HWS.out; have := HQ.out; omega)
        have hrE := hs6.but (A' := fun q => q < w6.heap.size) (But.ofBelow (S := fun _ => False) bE) (fun _ _ h => h) (fun q _ hl => hl)
        have hOut := out_any L.1 w.heap.size w6.heap.size 0 0 [] s6 (fun q => q < w6.heap.size) (w6.alloc (.cells #[] 34)) hrE (fun q hq => by omega) hoE (by have := hb6.size; have := HWS.out; have := HQ.out; simp; omega) (by have := HLEN.out; omega)
        simp only [sv] at hOut
        have HB6 : Hid _ := hb6
        have hsE : (w6.alloc (.cells #[] 34)).heap.size = w6.heap.size + 1 := by simp
        have HSE : Hid _ := hsE
        have HBE : Hid _ := bE
        clear hLS hsub hb6 bE hoE hrE hs6 xc0 xc1 xc2 xc3 xc4 xc5 l8 hsE
        go_wp2_with fail
        refine hOut.mono ?_
        rintro e w7 ⟨g7, c7, rfl, hO7, hb7, hg7⟩
        have HBF7 : Hid (Below w.heap.size w w7) := by
          have q9 := HQ.out
          have h1 : But (fun q => w.heap.size ≤ q) w9 wr := HBF.out.mono (fun q hq => by rcases hq with e | e <;> omega)
          have h2 : But (fun q => w.heap.size ≤ q) wr w6 := HB6.out.mono (fun q hq => by rcases hq with e | e <;> (simp only at e; omega))
          have h3 : But (fun q => w.heap.size ≤ q) w6 w7 := (But.ofBelow HBE.out).trans (hb7.mono (fun q hq => by have := HB6.out.size; have := HWS.out; omega))
          exact belowAfter ((h1.trans (h2.trans h3)).below q9.2.2.2.2.2.2.2 (fun q hq => hq)) HBW.out
        rw [Nat.zero_add, List.nil_append] at hO7
        have HO7 : Hid (OwnN w7 w.heap.size g7 c7 (outT L.1).length (lessL t j)) := by show OwnN _ _ _ _ _ _; rw [HLL.out]; exact hO7
        clear hOut hO7 hb7 hg7
        go_wp2
        go_ret
        exact ⟨g7, c7, (outT L.1).length, rfl, HO7.out, HBF7.out⟩
  · intro n l a w9 h
    obtain ⟨b2, b3, b4, b5, b6, b8, cz, ⟨-, ⟨rfl, -, hn⟩ | ⟨h2, h3, h4, h5, h6, rfl, -, hn⟩⟩ | ⟨a2, a3, a4, a5, a6, a8, -, -, -, -, -, -, -, -, hn, -⟩⟩ := h
    · cases b2 <;> cases b3 <;> cases b4 <;> cases b5 <;> cases b6 <;> cases b8 <;> exact ready_ne (by kernel_rfl)
    · obtain ⟨a2, rfl⟩ := Option.isSome_iff_exists.1 h2
      obtain ⟨a3, rfl⟩ := Option.isSome_iff_exists.1 h3
      obtain ⟨a4, rfl⟩ := Option.isSome_iff_exists.1 h4
      obtain ⟨a5, rfl⟩ := Option.isSome_iff_exists.1 h5
      obtain ⟨a6, rfl⟩ := Option.isSome_iff_exists.1 h6
      cases b8 <;> exact ready_ne (by kernel_rfl)
    · cases hn
  · intro n l a w9 h i hi
    obtain ⟨hi1, hi2, hi3⟩ := mem_ready hi
    clear hi
    have hi10 : i < 10 := hi1
    clear hi1
    obtain ⟨b2, b3, b4, b5, b6, b8, cz, ⟨hmk, ⟨rfl, rfl, hn⟩ | ⟨h2, h3, h4, h5, h6, rfl, rfl, hn⟩⟩ | ⟨a2, a3, a4, a5, a6, a8, -, -, -, -, -, -, -, -, hn, -⟩⟩ := h
    rotate_right
    · cases hn
    all_goals rcases (by omega : i = 0 ∨ i = 1 ∨ i = 2 ∨ i = 3 ∨ i = 4 ∨ i = 5 ∨ i = 6 ∨ i = 7 ∨ i = 8 ∨ i = 9) with rfl | rfl | rfl | rfl | rfl | rfl | rfl | rfl | rfl | rfl
    · cases hi2
    · cases hi2
    · have hb : b2 = none := by cases b2 with | none => rfl | some _ => cases hi2
      subst hb
      refine ⟨_, (ixA rfl), fun K' hK' => ?_⟩
      rw [if_pos (by rfl)]
      go_simp
      have hxw := HX.out.below hmk.below
      refine (sizes60_any t m HM hm (some ⟨b0, o0, none⟩) cap w9 hxw).mono ?_
      rintro e w10 ⟨g, c, n9, rfl, hI, hb10⟩
      have hn9 : n9 = m := by rw [← hI.1]; exact HLS.out
      subst hn9
      refine hK'.out _ _ ⟨some g, b3, b4, b5, b6, b8, c, .inl ⟨hmk.add 2 g hb10 hI.block.1 hI.block.2 (by unfold PK; rw [if_pos rfl]; exact ⟨_, hI⟩) (fun j b hj hk hl => hk.keep hb10 hl (.inl hj)) (by simp [six]) (fun j hj => by simp [six, hj]), .inl ⟨rfl, rfl, by simp only [cntN, Option.isSome_some, Option.isSome_none, if_true, Bool.false_eq_true, if_false] at hn ⊢; omega⟩⟩⟩
    · have hb : b3 = none := by cases b3 with | none => rfl | some _ => cases hi2
      subst hb
      refine ⟨_, (ixA rfl), fun K' hK' => ?_⟩
      rw [if_pos (by rfl)]
      go_simp
      rw [MKI.out]
      simp only [Result.andThen]
      rw [Oper.upon_value]
      simp only [Act.put, List.setIfInBounds_toArray, List.set_cons_zero, List.set_cons_succ]
      have bA := (Below.refl w9.heap.size w9).alloc (Nat.le_refl _) (.cells ci 3)
      refine hK'.out _ _ ⟨b2, some w9.heap.size, b4, b5, b6, b8, cz, .inl ⟨hmk.add 3 w9.heap.size bA (Nat.le_refl _) (by simp) (by unfold PK; rw [if_neg (by decide), if_pos (by decide)]; exact heap_alloc_new _ _) (fun j b _ hk hl => hk.keep bA hl (.inr rfl)) (by simp [six]) (fun j hj => by simp [six, hj]), .inl ⟨rfl, rfl, by simp only [cntN, Option.isSome_some, Option.isSome_none, if_true, Bool.false_eq_true, if_false] at hn ⊢; omega⟩⟩⟩
    · have hb : b4 = none := by cases b4 with | none => rfl | some _ => cases hi2
      subst hb
      refine ⟨_, (ixA rfl), fun K' hK' => ?_⟩
      rw [if_pos (by rfl)]
      go_simp
      rw [MKI.out]
      simp only [Result.andThen]
      rw [Oper.upon_value]
      simp only [Act.put, List.setIfInBounds_toArray, List.set_cons_zero, List.set_cons_succ]
      have bA := (Below.refl w9.heap.size w9).alloc (Nat.le_refl _) (.cells ci 3)
      refine hK'.out _ _ ⟨b2, b3, some w9.heap.size, b5, b6, b8, cz, .inl ⟨hmk.add 4 w9.heap.size bA (Nat.le_refl _) (by simp) (by unfold PK; rw [if_neg (by decide), if_pos (by decide)]; exact heap_alloc_new _ _) (fun j b _ hk hl => hk.keep bA hl (.inr rfl)) (by simp [six]) (fun j hj => by simp [six, hj]), .inl ⟨rfl, rfl, by simp only [cntN, Option.isSome_some, Option.isSome_none, if_true, Bool.false_eq_true, if_false] at hn ⊢; omega⟩⟩⟩
    · have hb : b5 = none := by cases b5 with | none => rfl | some _ => cases hi2
      subst hb
      refine ⟨_, (ixA rfl), fun K' hK' => ?_⟩
      rw [if_pos (by rfl)]
      go_simp
      rw [MKT.out]
      simp only [Result.andThen]
      rw [Oper.upon_value]
      simp only [Act.put, List.setIfInBounds_toArray, List.set_cons_zero, List.set_cons_succ]
      have bA := (Below.refl w9.heap.size w9).alloc (Nat.le_refl _) (.cells ct 59)
      refine hK'.out _ _ ⟨b2, b3, b4, some w9.heap.size, b6, b8, cz, .inl ⟨hmk.add 5 w9.heap.size bA (Nat.le_refl _) (by simp) (by unfold PK; rw [if_neg (by decide), if_neg (by decide), if_pos (by decide)]; exact heap_alloc_new _ _) (fun j b _ hk hl => hk.keep bA hl (.inr rfl)) (by simp [six]) (fun j hj => by simp [six, hj]), .inl ⟨rfl, rfl, by simp only [cntN, Option.isSome_some, Option.isSome_none, if_true, Bool.false_eq_true, if_false] at hn ⊢; omega⟩⟩⟩
    · have hb : b6 = none := by cases b6 with | none => rfl | some _ => cases hi2
      subst hb
      refine ⟨_, (ixA rfl), fun K' hK' => ?_⟩
      rw [if_pos (by rfl)]
      go_simp
      rw [MKB.out]
      simp only [Result.andThen]
      rw [Oper.upon_value]
      simp only [Act.put, List.setIfInBounds_toArray, List.set_cons_zero, List.set_cons_succ]
      have bA := (Below.refl w9.heap.size w9).alloc (Nat.le_refl _) (.cells cb 4)
      refine hK'.out _ _ ⟨b2, b3, b4, b5, some w9.heap.size, b8, cz, .inl ⟨hmk.add 6 w9.heap.size bA (Nat.le_refl _) (by simp) (by unfold PK; rw [if_neg (by decide), if_neg (by decide), if_neg (by decide), if_pos (by decide)]; exact heap_alloc_new _ _) (fun j b _ hk hl => hk.keep bA hl (.inr rfl)) (by simp [six]) (fun j hj => by simp [six, hj]), .inl ⟨rfl, rfl, by simp only [cntN, Option.isSome_some, Option.isSome_none, if_true, Bool.false_eq_true, if_false] at hn ⊢; omega⟩⟩⟩
    · have hall : b2.isSome = true ∧ b3.isSome = true ∧ b4.isSome = true ∧ b5.isSome = true ∧ b6.isSome = true := by
        cases b2 with
        | none => simp [Region.binds] at hi3
        | some a2 =>
          cases b3 with
          | none => simp [Region.binds] at hi3
          | some a3 =>
            cases b4 with
            | none => simp [Region.binds] at hi3
            | some a4 =>
              cases b5 with
              | none => simp [Region.binds] at hi3
              | some a5 =>
                cases b6 with
                | none => simp [Region.binds] at hi3
                | some a6 => exact ⟨rfl, rfl, rfl, rfl, rfl⟩
      obtain ⟨h2, h3, h4, h5, h6⟩ := hall
      obtain ⟨a2, rfl⟩ := Option.isSome_iff_exists.1 h2
      obtain ⟨a3, rfl⟩ := Option.isSome_iff_exists.1 h3
      obtain ⟨a4, rfl⟩ := Option.isSome_iff_exists.1 h4
      obtain ⟨a5, rfl⟩ := Option.isSome_iff_exists.1 h5
      obtain ⟨a6, rfl⟩ := Option.isSome_iff_exists.1 h6
      refine ⟨_, (ixA rfl), fun K' hK' => ?_⟩
      rw [if_pos (by rfl)]
      simp only [mkV] at hK' ⊢
      go_simp
      refine hK'.out _ _ ⟨some a2, some a3, some a4, some a5, some a6, b8, cz, .inl ⟨hmk, .inr ⟨h2, h3, h4, h5, h6, rfl, rfl, by simp only [cntN, Option.isSome_some, if_true] at hn ⊢; omega⟩⟩⟩
    · have hb : b8 = none := by cases b8 with | none => rfl | some _ => cases hi2
      subst hb
      refine ⟨_, (ixA rfl), fun K' hK' => ?_⟩
      rw [if_pos (by rfl)]
      go_simp
      have bA := (Below.refl w9.heap.size w9).alloc (Nat.le_refl _) (.cells #[.slice none 0 0, .slice none 0 0, .slice none 0 0, .slice none 0 0, .slice none 0 0, .slice none 0 0] 56)
      refine hK'.out _ _ ⟨b2, b3, b4, b5, b6, some w9.heap.size, cz, .inl ⟨hmk.add 8 w9.heap.size bA (Nat.le_refl _) (by simp) (by unfold PK; rw [if_neg (by decide), if_neg (by decide), if_neg (by decide), if_neg (by decide)]; exact heap_alloc_new _ _) (fun j b _ hk hl => hk.keep bA hl (.inr rfl)) (by simp [six]) (fun j hj => by simp [six, hj]), .inl ⟨rfl, rfl, by simp only [cntN, Option.isSome_some, Option.isSome_none, if_true, Bool.false_eq_true, if_false] at hn ⊢; omega⟩⟩⟩
    · simp [Region.binds] at hi3
    · cases hi2
    · cases hi2
    · cases b2 with | none => cases h2 | some _ => cases hi2
    · cases b3 with | none => cases h3 | some _ => cases hi2
    · cases b4 with | none => cases h4 | some _ => cases hi2
    · cases b5 with | none => cases h5 | some _ => cases hi2
    · cases b6 with | none => cases h6 | some _ => cases hi2
    · cases hi2
    · have hb : b8 = none := by cases b8 with | none => rfl | some _ => cases hi2
      subst hb
      refine ⟨_, (ixA rfl), fun K' hK' => ?_⟩
      rw [if_pos (by rfl)]
      go_simp
      have bA := (Below.refl w9.heap.size w9).alloc (Nat.le_refl _) (.cells #[.slice none 0 0, .slice none 0 0, .slice none 0 0, .slice none 0 0, .slice none 0 0, .slice none 0 0] 56)
      refine hK'.out _ _ ⟨b2, b3, b4, b5, b6, some w9.heap.size, cz, .inl ⟨hmk.add 8 w9.heap.size bA (Nat.le_refl _) (by simp) (by unfold PK; rw [if_neg (by decide), if_neg (by decide), if_neg (by decide), if_neg (by decide)]; exact heap_alloc_new _ _) (fun j b _ hk hl => hk.keep bA hl (.inr rfl)) (by simp [six]) (fun j hj => by simp [six, hj]), .inr ⟨h2, h3, h4, h5, h6, rfl, rfl, by simp only [cntN, Option.isSome_some, Option.isSome_none, if_true, Bool.false_eq_true, if_false] at hn ⊢; omega⟩⟩⟩
    · obtain ⟨a2, rfl⟩ := Option.isSome_iff_exists.1 h2
      obtain ⟨a3, rfl⟩ := Option.isSome_iff_exists.1 h3
      obtain ⟨a4, rfl⟩ := Option.isSome_iff_exists.1 h4
      obtain ⟨a5, rfl⟩ := Option.isSome_iff_exists.1 h5
      obtain ⟨a6, rfl⟩ := Option.isSome_iff_exists.1 h6
      cases b8 with
      | none => simp [Region.binds] at hi3
      | some a8 =>
        have r8 : w9.heap[a8]? = some (.cells #[.slice none 0 0, .slice none 0 0, .slice none 0 0, .slice none 0 0, .slice none 0 0, .slice none 0 0] 56 (0, 0)) := by
          have h9 := hmk.k 8 a8 rfl
          unfold PK at h9
          rw [if_neg (by decide), if_neg (by decide), if_neg (by decide), if_neg (by decide)] at h9
          exact h9
        have f9 : ∀ j, w9.frozen? ⟨a8, j, none⟩ = false := fun j => frozen_of_row _ _ _ _ _ r8
        have f0 := f9 0
        have d0 : w9.cell? ⟨a8, 0, none⟩ = some (.slice none 0 0) := by rw [cell_of_row _ _ _ _ _ _ r8]; rfl
        have f1 := f9 1
        have d1 : w9.cell? ⟨a8, 1, none⟩ = some (.slice none 0 0) := by rw [cell_of_row _ _ _ _ _ _ r8]; rfl
        have f2 := f9 2
        have d2 : w9.cell? ⟨a8, 2, none⟩ = some (.slice none 0 0) := by rw [cell_of_row _ _ _ _ _ _ r8]; rfl
        have f3 := f9 3
        have d3 : w9.cell? ⟨a8, 3, none⟩ = some (.slice none 0 0) := by rw [cell_of_row _ _ _ _ _ _ r8]; rfl
        have f4 := f9 4
        have d4 : w9.cell? ⟨a8, 4, none⟩ = some (.slice none 0 0) := by rw [cell_of_row _ _ _ _ _ _ r8]; rfl
        have f5 := f9 5
        have d5 : w9.cell? ⟨a8, 5, none⟩ = some (.slice none 0 0) := by rw [cell_of_row _ _ _ _ _ _ r8]; rfl
        have l8 : a8 < w9.heap.size := lt_of_cell d0
        refine ⟨_, (ixA rfl), fun K' hK' => ?_⟩
        rw [if_pos (by rfl)]
        simp only [mkV, mkP] at hK' ⊢
        clear f9
        go_simp
        have r9 : ((((((w9.setCell ⟨a8, 0, none⟩ (.slice (some ⟨b0, o0, none⟩) m cap)).setCell ⟨a8, 1, none⟩ (.slice (some ⟨a2, 0, none⟩) m cz)).setCell ⟨a8, 2, none⟩ (.slice (some ⟨a3, 0, none⟩) 200001 200001)).setCell ⟨a8, 3, none⟩ (.slice (some ⟨a4, 0, none⟩) 200001 200001)).setCell ⟨a8, 4, none⟩ (.slice (some ⟨a5, 0, none⟩) 200001 200001)).setCell ⟨a8, 5, none⟩ (.slice (some ⟨a6, 0, none⟩) 200001 200001)).heap[a8]? = some (.cells #[.slice (some ⟨b0, o0, none⟩) m cap, .slice (some ⟨a2, 0, none⟩) m cz, .slice (some ⟨a3, 0, none⟩) 200001 200001, .slice (some ⟨a4, 0, none⟩) 200001 200001, .slice (some ⟨a5, 0, none⟩) 200001 200001, .slice (some ⟨a6, 0, none⟩) 200001 200001] 56 (0, 0)) := set6 r8 (.slice (some ⟨b0, o0, none⟩) m cap) (.slice (some ⟨a2, 0, none⟩) m cz) (.slice (some ⟨a3, 0, none⟩) 200001 200001) (.slice (some ⟨a4, 0, none⟩) 200001 200001) (.slice (some ⟨a5, 0, none⟩) 200001 200001) (.slice (some ⟨a6, 0, none⟩) 200001 200001)
        have bs : But (· = a8) w9 ((((((w9.setCell ⟨a8, 0, none⟩ (.slice (some ⟨b0, o0, none⟩) m cap)).setCell ⟨a8, 1, none⟩ (.slice (some ⟨a2, 0, none⟩) m cz)).setCell ⟨a8, 2, none⟩ (.slice (some ⟨a3, 0, none⟩) 200001 200001)).setCell ⟨a8, 3, none⟩ (.slice (some ⟨a4, 0, none⟩) 200001 200001)).setCell ⟨a8, 4, none⟩ (.slice (some ⟨a5, 0, none⟩) 200001 200001)).setCell ⟨a8, 5, none⟩ (.slice (some ⟨a6, 0, none⟩) 200001 200001)) := set6_but (.slice (some ⟨b0, o0, none⟩) m cap) (.slice (some ⟨a2, 0, none⟩) m cz) (.slice (some ⟨a3, 0, none⟩) 200001 200001) (.slice (some ⟨a4, 0, none⟩) 200001 200001) (.slice (some ⟨a5, 0, none⟩) 200001 200001) (.slice (some ⟨a6, 0, none⟩) 200001 200001)
        refine hK'.out _ _ ⟨some a2, some a3, some a4, some a5, some a6, some a8, cz, .inr ⟨a2, a3, a4, a5, a6, a8, rfl, rfl, rfl, rfl, rfl, rfl, rfl, rfl, by simp only [cntN, Option.isSome_some, if_true] at hn; omega, ?_⟩⟩
        refine ⟨bs.ofHead hmk.below (hmk.lt 8 a8 rfl).1, fun i a h => ?_, hmk.ne, fun i a h => ?_⟩
        · have := hmk.lt i a h
          have := bs.size
          omega
        · by_cases e8 : i = 8
          · subst e8
            have h8 : some a8 = some a := h
            cases h8
            unfold PK
            rw [if_neg (by decide), if_neg (by decide), if_neg (by decide), if_neg (by decide)]
            exact r9
          · have hne : a ≠ a8 := fun e => hmk.ne i 8 a e8 h (by rw [e]; rfl)
            exact (hmk.k i a h).turn bs hne (hmk.lt i a h).2 (by intro e; subst e; exact e8 rfl) (six_mem h)
  · exact ⟨none, none, none, none, none, none, 0, .inl ⟨⟨(Below.refl _ _).drew, fun i a h => by simp [six] at h, fun i j a _ h => by simp [six] at h, fun i a h => by simp [six] at h⟩, .inl ⟨by kernel_rfl, rfl, rfl⟩⟩⟩
end Go.Proofs.YtedlofpgddjpgaaGreat
