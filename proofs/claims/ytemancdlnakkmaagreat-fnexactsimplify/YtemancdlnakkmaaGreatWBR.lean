import Derived.Test.YtemancdlnakkmaaGreatWBQ
import Derived.Test.YtemancdlnakkmaaGreatWAD
namespace Go.Proofs.YtemancdlnakkmaaGreat
open Go.RowKit Go.Maps
inductive VRep (w : World) (A : Nat → Prop) : Tre → Value → Prop
  | int (n : Nd) (ks : List Tre) (h : n.kind = 72) : VRep w A (.mk n ks) (.iface 149 (.int .i64 n.num))
  | str (n : Nd) (ks : List Tre) (h : n.kind = 73) : VRep w A (.mk n ks) (.iface 150 (.string n.text))
  | con (n : Nd) (ks : List Tre) (h : n.kind = 74) (c : Nat) (hA : A c) (blk : w.heap[c]? = some (.cells #[.string n.text, .nilIface] 153 (0, 0))) : VRep w A (.mk n ks) (.iface 151 (.pointer (some ⟨c, 0, none⟩)))
  | app (n : Nd) (x y : Tre) (h : n.kind = 77) (c : Nat) (t : TypeId) (u : Value) (hA : A c) (blk : w.heap[c]? = some (.cells #[.string x.nd.text, .iface t u] 153 (0, 0))) (k : VRep w A y (.iface t u)) : VRep w A (.mk n [x, y]) (.iface 151 (.pointer (some ⟨c, 0, none⟩)))
  | tup (n : Nd) (ks : List Tre) (h : n.kind = 75) (g : Nat) (vs : Nat → Value) (hA : A g) (lt : g < w.heap.size) (small : ks.length ≤ 60000) (cells : ∀ j, j < ks.length → w.cell? ⟨g, j, none⟩ = some (vs j)) (kids : ∀ j (h : j < ks.length), VRep w A ks[j] (vs j)) : VRep w A (.mk n ks) (.iface 154 (.slice (some ⟨g, 0, none⟩) ks.length ks.length))
theorem VRep.but {w w' : World} {A A' S : Nat → Prop} {T : Tre} {v : Value} (h : VRep w A T v) (hb : But S w w') (hS : ∀ q, A q → ¬ S q) (hA : ∀ q, A q → q < w.heap.size → A' q) : VRep w' A' T v := by
  induction h with
  | int n ks h => exact .int n ks h
  | str n ks h => exact .str n ks h
  | con n ks h c h1 blk =>
    have l1 := (Array.getElem?_eq_some_iff.1 blk).1
    exact .con n ks h c (hA c h1 l1) ((hb.block c l1 (hS c h1)).trans blk)
  | app n x y h c t u h1 blk k ih =>
    have l1 := (Array.getElem?_eq_some_iff.1 blk).1
    exact .app n x y h c t u (hA c h1 l1) ((hb.block c l1 (hS c h1)).trans blk) ih
  | tup n ks h g vs h1 lg small cells kids ih =>
    have h9 := hb.block g lg (hS g h1)
    refine .tup n ks h g vs (hA g h1 lg) (Nat.lt_of_lt_of_le lg hb.size) small (fun j hj => ?_) ih
    rw [← cells j hj]
    simp only [World.cell?, h9]
theorem VRep.under {w w' : World} {A : Nat → Prop} {T : Tre} {v : Value} (h : VRep w A T v) (hb : Below w.heap.size w w') : VRep w' A T v :=
  h.but (But.ofBelow (S := fun _ => False) hb) (fun _ _ h => h) (fun _ h _ => h)
theorem VRep.wide {w : World} {A A' : Nat → Prop} {T : Tre} {v : Value} (h : VRep w A T v) (hA : ∀ q, A q → q < w.heap.size → A' q) : VRep w A' T v :=
  h.but (But.ofBelow (S := fun _ => False) (Below.refl _ _)) (fun _ _ h => h) hA
theorem VRep.iface {w : World} {A : Nat → Prop} {T : Tre} {v : Value} (h : VRep w A T v) : ∃ t u, v = .iface t u := by
  cases h with
  | int n ks h => exact ⟨_, _, rfl⟩
  | str n ks h => exact ⟨_, _, rfl⟩
  | con n ks h c h1 blk => exact ⟨_, _, rfl⟩
  | app n x y h c t u h1 blk k => exact ⟨_, _, rfl⟩
  | tup n ks h g vs h1 lg small cells kids => exact ⟨_, _, rfl⟩
def Vals (w : World) (e : TypeId) (B g n : Nat) (xs : List Value) : Prop := xs.length = n ∧ w.ownsRow B e 1 (.slice (some ⟨g, 0, none⟩) n n) n xs
theorem Vals.made {w : World} {e : TypeId} {B n : Nat} {z : Value} (hB : B ≤ w.heap.size) (hn : n ≤ 1048576) : Vals (w.alloc (.cells (madeCells #[z] n) e)) e B w.heap.size n (List.replicate n z) := by
  refine ⟨by simp, by simp, Or.inr ⟨_, n, _, rfl, hB, heap_alloc_new _ _, Nat.le_refl _, by unfold maxLen; omega, ?_, ?_⟩⟩
  · simp [madeCells]
  · rw [List.take_of_length_le (by simp [madeCells])]
    apply List.ext_getElem?
    intro j
    by_cases hj : j < n
    · simp only [madeCells, Array.toList_map, List.getElem?_map, Array.toList_range]
      rw [List.getElem?_range hj, List.getElem?_replicate, if_pos hj]
      simp [Nat.mod_one]
    · rw [List.getElem?_eq_none (by simp [madeCells]; omega), List.getElem?_eq_none (by simp; omega)]
theorem Vals.set {w : World} {e : TypeId} {B g n : Nat} {xs : List Value} (h : Vals w e B g n xs) (j : Nat) (x : Value) : Vals (w.setCell ⟨g, j, none⟩ x) e B g n (xs.set j x) :=
  ⟨by simp [h.1], (h.2.stored j x).1⟩
theorem Vals.frozen {w : World} {e : TypeId} {B g n : Nat} {xs : List Value} (h : Vals w e B g n xs) (j : Nat) : w.frozen? ⟨g, j, none⟩ = false := h.2.frozenAt j
theorem Vals.but {S : Nat → Prop} {w w' : World} {e : TypeId} {B g n : Nat} {xs : List Value} (h : Vals w e B g n xs) (hb : But S w w') (hn : ¬ S g) : Vals w' e B g n xs := ⟨h.1, owns_but h.2 hb hn⟩
theorem Vals.at {w : World} {e : TypeId} {B g n : Nat} {xs : List Value} (h : Vals w e B g n xs) (j : Nat) (hj : j < n) : w.cell? ⟨g, j, none⟩ = xs[j]? := owns_at h.2 j (by omega)
theorem Tryz.infoVP : (Tryz.prog.info? 133).map (fun i => (i.zero, i.size, i.bytes)) = some (some .nilIface, 1, 16) := by kernel_rfl
theorem make_vals (n : Nat) (h : n ≤ 1048576) (w : World) :
    (Instr.makeSlice 154 (.int .i64 (n : Int)) (.int .i64 (n : Int))).run Tryz.prog w = .ok (.slice (some ⟨w.heap.size, 0, none⟩) n n) (w.alloc (.cells (madeCells #[.nilIface] n) 133)) :=
  run_make_row' (P := Tryz.prog) 154 133 .nilIface 16 Tryz.underlying154 Tryz.infoVP rfl .i64 .i64 n (by omega) (by omega) w
def fillV (vs : Nat → Value) (z : Value) (k n : Nat) : List Value := (List.range n).map fun j => if j < k then vs j else z
theorem fillV_len (vs : Nat → Value) (z : Value) (k n : Nat) : (fillV vs z k n).length = n := by simp [fillV]
theorem fillV_zero (vs : Nat → Value) (z : Value) (n : Nat) : fillV vs z 0 n = List.replicate n z := by
  apply List.ext_getElem?
  intro j
  by_cases hj : j < n
  · simp only [fillV, List.getElem?_map, List.getElem?_range hj, List.getElem?_replicate, if_pos hj]
    simp
  · rw [List.getElem?_eq_none (by simp [fillV]; omega), List.getElem?_eq_none (by simp; omega)]
theorem fillV_at (vs : Nat → Value) (z : Value) (k n j : Nat) (hj : j < n) : (fillV vs z k n)[j]? = some (if j < k then vs j else z) := by
  simp only [fillV, List.getElem?_map, List.getElem?_range hj]
  rfl
theorem fillV_set (vs : Nat → Value) (z v : Value) (k n : Nat) (_hk : k < n) : (fillV vs z k n).set k v = fillV (fun j => if j = k then v else vs j) z (k + 1) n := by
  apply List.ext_getElem?
  intro j
  by_cases hj : j < n
  · rw [fillV_at _ _ _ _ _ hj, List.getElem?_set]
    by_cases e : k = j
    · subst e
      rw [if_pos rfl, if_pos (by rw [fillV_len]; omega)]
      simp
    · rw [if_neg e, fillV_at _ _ _ _ _ hj]
      by_cases h2 : j < k
      · rw [if_pos h2, if_pos (by omega), if_neg (fun h => e h.symm)]
      · rw [if_neg h2, if_neg (by omega)]
  · rw [List.getElem?_eq_none (by simp [fillV_len]; omega), List.getElem?_eq_none (by rw [fillV_len]; omega)]
end Go.Proofs.YtemancdlnakkmaaGreat

namespace Go.Proofs.YtemancdlnakkmaaGreat
open Go.RowKit Go.Maps
theorem Below.stepG {G : Nat} {w a b : World} (h : Below G w a) (k : Below a.heap.size a b) (hG : G ≤ a.heap.size) : Below G w b :=
  ⟨k.os.trans h.os, k.tape.trans h.tape, k.output.trans h.output, Nat.le_trans h.size k.size, fun i hi => (k.block i (by omega)).trans (h.block i hi)⟩
set_option maxRecDepth 20000 in
set_option maxHeartbeats 4000000 in
theorem knownV_any : ∀ (T : Tre) (b : Nat) (A' A : Nat → Prop) (w : World), PlT T → knT T = true → PRep w A' T b → (∀ q, w.heap.size ≤ q → A q) →
    Calls Tryz.prog 105 #[.pointer (some ⟨b, 0, none⟩)] w fun e w' => ∃ v, e = .returned v ∧ VRep w' A T v ∧ Below w.heap.size w w' := by
  intro T
  refine Tre.ind (p := fun T => ∀ (b : Nat) (A' A : Nat → Prop) (w : World), PlT T → knT T = true → PRep w A' T b → (∀ q, w.heap.size ≤ q → A q) → Calls Tryz.prog 105 #[.pointer (some ⟨b, 0, none⟩)] w fun e w' => ∃ v, e = .returned v ∧ VRep w' A T v ∧ Below w.heap.size w w') ?_ T
  intro n ks ih b A' A w hP hkn hR hA
  obtain ⟨-, so, sc, hblk, h1, h2, h3, bs, h4⟩ := hR.opened
  simp only at h1 h2
  clear h1
  have HIH : Hid (∀ k ∈ ks, ∀ (b : Nat) (A' A : Nat → Prop) (w : World), PlT k → knT k = true → PRep w A' k b → (∀ q, w.heap.size ≤ q → A q) → Calls Tryz.prog 105 #[.pointer (some ⟨b, 0, none⟩)] w fun e w' => ∃ v, e = .returned v ∧ VRep w' A k v ∧ Below w.heap.size w w') := ih
  rw [knT_eq] at hkn
  obtain ⟨c0, c1, c2, c3, c4, c5⟩ := nine hblk
  have lb : b < w.heap.size := lt_of_cell c0
  have hbr := Below.refl w.heap.size w
  by_cases h7 : n.kind = 72
  · have HV : Hid (VRep w A (.mk n ks) (.iface 149 (.int .i64 n.num))) := .int n ks h7
    obtain ⟨kd, nm, tx, kk, pl⟩ := n
    simp only at c0 c1 h7 HV
    subst h7
    clear ih HIH hP hkn hR hblk h4 hA c2 c3 c4 c5 h2 h3
    go_enter Tryz.func105, Tryz.ntmps105
    go_wp2
    go_ret
    exact ⟨_, rfl, HV.out, hbr⟩
  by_cases h7b : n.kind = 73
  · have HV : Hid (VRep w A (.mk n ks) (.iface 150 (.string n.text))) := .str n ks h7b
    obtain ⟨kd, nm, tx, kk, pl⟩ := n
    simp only at c0 c2 h7b HV
    subst h7b
    clear ih HIH hP hkn hR hblk h4 hA c1 c3 c4 c5 h2 h3 h7
    go_enter Tryz.func105, Tryz.ntmps105
    go_wp2
    go_ret
    exact ⟨_, rfl, HV.out, hbr⟩
  by_cases h7c : n.kind = 74
  · have b1 := (Below.refl w.heap.size w).alloc (Nat.le_refl _) (.cells #[.string n.text, .nilIface] 153)
    have r1 := heap_alloc_new w (.cells #[.string n.text, .nilIface] 153)
    have HV : Hid (VRep _ A (.mk n ks) (.iface 151 (.pointer (some ⟨w.heap.size, 0, none⟩)))) := .con n ks h7c w.heap.size (hA _ (Nat.le_refl _)) r1
    obtain ⟨kd, nm, tx, kk, pl⟩ := n
    simp only at c0 c2 h7c HV b1
    have HB : Hid _ := b1
    subst h7c
    clear ih HIH hP hkn hR hblk h4 hA c1 c3 c4 c5 h2 h3 h7 h7b r1 b1
    go_enter Tryz.func105, Tryz.ntmps105
    go_wp2
    go_ret
    exact ⟨_, rfl, HV.out, HB.out⟩
  have t72 : (n.kind == 72) = false := by simpa using h7
  have t73 : (n.kind == 73) = false := by simpa using h7b
  have t74 : (n.kind == 74) = false := by simpa using h7c
  by_cases h75 : n.kind = 75
  rotate_left
  · unfold knStep at hkn
    rw [if_neg (by omega), if_neg h75] at hkn
    simp only [Bool.and_eq_true] at hkn
    obtain ⟨h77, hkn⟩ := hkn
    have h77 : n.kind = 77 := by simpa using h77
    obtain ⟨x, y, rfl, -, -⟩ := hP.node.code2 (.inl h77)
    simp only [List.map_cons, List.map_nil, Bool.and_eq_true] at hkn
    obtain ⟨g, hso, -, e0, hr0⟩ := h4 0 (by simp)
    obtain ⟨g', hso', -, e1, hr1⟩ := h4 1 (by simp)
    simp only at hso hso'
    rw [hso] at hso'
    simp only [Option.some.injEq, Addr.mk.injEq, and_true] at hso'
    subst hso'
    subst hso
    simp only [List.getElem_cons_zero, List.getElem_cons_succ] at hr0 hr1
    generalize bs 0 = b0 at e0 hr0
    generalize bs 1 = b1 at e1 hr1
    have HC : Hid (∀ W, Below w.heap.size w W → Calls Tryz.prog 105 #[.pointer (some ⟨b1, 0, none⟩)] W fun e w' => ∃ v, e = .returned v ∧ VRep w' A y v ∧ Below W.heap.size W w') := fun W hW => HIH.out y (by simp) b1 A' A W (hP.kid y (by simp)) hkn.2 (hr1.under hW) (fun q hq => hA q (by have := hW.size; omega))
    have HMK : Hid (∀ (W : World) (c : Nat) (t : TypeId) (u : Value), w.heap.size ≤ c → W.heap[c]? = some (.cells #[.string x.nd.text, .iface t u] 153 (0, 0)) → VRep W A y (.iface t u) → VRep W A (.mk n [x, y]) (.iface 151 (.pointer (some ⟨c, 0, none⟩)))) := fun W c t u hc hb hv => .app n x y h77 c t u (hA c hc) hb hv
    obtain ⟨nx, kx⟩ := x
    obtain ⟨-, sox, scx, hbx, -⟩ := hr0.opened
    obtain ⟨-, -, x2, -⟩ := nine hbx
    have lg : g < w.heap.size := lt_of_cell e0
    have l0 : b0 < w.heap.size := lt_of_cell x2
    simp only [List.length_cons, List.length_nil, Nat.zero_add, Nat.reduceAdd] at c5
    obtain ⟨kd, nm, tx, kk, pl⟩ := n
    obtain ⟨xk, xn, xt, xq, xp⟩ := nx
    simp only [Tre.nd] at HMK
    simp only at c0 x2 h77 t72 t73 t74
    subst h77
    have HCE : Hid (∀ W, Below w.heap.size w W → W.cell? ⟨b, 5, none⟩ = some (.slice (some ⟨g, 0, none⟩) 2 sc) ∧ W.cell? ⟨g, 0, none⟩ = some (.pointer (some ⟨b0, 0, none⟩)) ∧ W.cell? ⟨g, 1, none⟩ = some (.pointer (some ⟨b1, 0, none⟩)) ∧ W.cell? ⟨b0, 2, none⟩ = some (.string xt)) :=
      fun W hW => ⟨bcL hW lb c5, bcL hW lg e0, bcL hW lg e1, bcL hW l0 x2⟩
    clear ih HIH hP hkn hR hblk h4 hA c1 c2 c3 c4 h2 h3 h7 h7b h7c hr0 hr1 hbx h75
    go_enter Tryz.func105, Tryz.ntmps105
    go_upto_region 9 with fail
    have bD := (Below.refl w.heap.size w).drew
    clear c0 c5 e0 e1 x2
    refine wp_region_held_drew (S := fun W => W.cell? ⟨b, 5, none⟩ = some (.slice (some ⟨g, 0, none⟩) 2 sc) ∧ W.cell? ⟨g, 0, none⟩ = some (.pointer (some ⟨b0, 0, none⟩)) ∧ W.cell? ⟨g, 1, none⟩ = some (.pointer (some ⟨b1, 0, none⟩)) ∧ W.cell? ⟨b0, 2, none⟩ = some (.string xt)) (by kernel_rfl) (HCE.out _ bD) (fun hS => ?_)
    refine take_in 0 39 (v := ?_) (oi := _) (ixA rfl) (by rfl) (by kernel_rfl) (by kernel_rfl) (by kernel_rfl) (by exact fun _ _ _ h => h) (Or.inl ⟨by rfl, ?_⟩) hS ?_
    rotate_left
    · intro w' hSw; (try dsimp only at hSw); (go_simp <;> with_reducible rfl)
    simp only [List.setIfInBounds_toArray, List.set_cons_zero, List.set_cons_succ]
    refine take_in 1 40 (v := ?_) (oi := _) (ixA rfl) (by rfl) (by kernel_rfl) (by kernel_rfl) (by kernel_rfl) (by exact fun _ _ _ h => h) (Or.inl ⟨by rfl, ?_⟩) hS ?_
    rotate_left
    · intro w' hSw; (try dsimp only at hSw); (go_simp <;> with_reducible rfl)
    simp only [List.setIfInBounds_toArray, List.set_cons_zero, List.set_cons_succ]
    refine take_in 2 41 (v := ?_) (oi := _) (ixA rfl) (by rfl) (by kernel_rfl) (by kernel_rfl) (by kernel_rfl) (by exact fun _ _ _ h => h) (Or.inl ⟨by rfl, ?_⟩) hS ?_
    rotate_left
    · intro w' hSw; (try dsimp only at hSw); (go_simp <;> with_reducible rfl)
    simp only [List.setIfInBounds_toArray, List.set_cons_zero, List.set_cons_succ]
    refine take_in 3 42 (v := ?_) (oi := _) (ixA rfl) (by rfl) (by kernel_rfl) (by kernel_rfl) (by kernel_rfl) (by exact fun _ _ _ h => h) (Or.inl ⟨by rfl, ?_⟩) hS ?_
    rotate_left
    · intro w' hSw; (try dsimp only at hSw); (go_simp <;> with_reducible rfl)
    simp only [List.setIfInBounds_toArray, List.set_cons_zero, List.set_cons_succ]
    refine take_in 4 43 (v := ?_) (oi := _) (ixA rfl) (by rfl) (by kernel_rfl) (by kernel_rfl) (by kernel_rfl) (by exact fun _ _ _ h => h) (Or.inl ⟨by rfl, ?_⟩) hS ?_
    rotate_left
    · intro w' hSw; (try dsimp only at hSw); (go_simp <;> with_reducible rfl)
    simp only [List.setIfInBounds_toArray, List.set_cons_zero, List.set_cons_succ]
    refine take_in 5 44 (v := ?_) (oi := _) (ixA rfl) (by rfl) (by kernel_rfl) (by kernel_rfl) (by kernel_rfl) (by exact fun _ _ _ h => h) (Or.inl ⟨by rfl, ?_⟩) hS ?_
    rotate_left
    · intro w' hSw; (try dsimp only at hSw); (go_simp <;> with_reducible rfl)
    simp only [List.setIfInBounds_toArray, List.set_cons_zero, List.set_cons_succ]
    refine take_in 6 45 (v := ?_) (oi := _) (ixA rfl) (by rfl) (by kernel_rfl) (by kernel_rfl) (by kernel_rfl) (by exact fun _ _ _ h => h) (Or.inl ⟨by rfl, ?_⟩) hS ?_
    rotate_left
    · intro w' hSw; (try dsimp only at hSw); (go_simp <;> with_reducible rfl)
    simp only [List.setIfInBounds_toArray, List.set_cons_zero, List.set_cons_succ]
    refine take_in 7 46 (v := ?_) (oi := _) (ixA rfl) (by rfl) (by kernel_rfl) (by kernel_rfl) (by kernel_rfl) (by exact fun _ _ _ h => h) (Or.inl ⟨by rfl, ?_⟩) hS ?_
    rotate_left
    · intro w' hSw; (try dsimp only at hSw); (go_simp <;> with_reducible rfl)
    simp only [List.setIfInBounds_toArray, List.set_cons_zero, List.set_cons_succ]
    refine take_in 8 47 (v := ?_) (oi := _) (ixA rfl) (by rfl) (by kernel_rfl) (by kernel_rfl) (by kernel_rfl) (by exact fun _ _ _ h => h) (Or.inl ⟨by rfl, ?_⟩) hS ?_
    rotate_left
    · intro w' hSw; (try dsimp only at hSw); (go_simp <;> with_reducible rfl)
    simp only [List.setIfInBounds_toArray, List.set_cons_zero, List.set_cons_succ]
    refine take_in 9 48 (v := ?_) (oi := _) (ixA rfl) (by rfl) (by kernel_rfl) (by kernel_rfl) (by kernel_rfl) (by exact fun _ _ _ h => h) (Or.inl ⟨by rfl, ?_⟩) hS ?_
    rotate_left
    · intro w' hSw; (try dsimp only at hSw); (go_simp <;> with_reducible rfl)
    simp only [List.setIfInBounds_toArray, List.set_cons_zero, List.set_cons_succ]
    refine take_in 10 49 (v := ?_) (oi := _) (ixA rfl) (by rfl) (by kernel_rfl) (by kernel_rfl) (by kernel_rfl) (by exact fun _ _ _ h => h) (Or.inl ⟨by rfl, ?_⟩) hS ?_
    rotate_left
    · intro w' hSw; (try dsimp only at hSw); (go_simp <;> with_reducible rfl)
    simp only [List.setIfInBounds_toArray, List.set_cons_zero, List.set_cons_succ]
    refine take_in 11 50 (v := ?_) (oi := _) (ixA rfl) (by rfl) (by kernel_rfl) (by kernel_rfl) (by kernel_rfl) (by exact fun _ _ _ h => h) (Or.inl ⟨by rfl, ?_⟩) hS ?_
    rotate_left
    · intro w' hSw; (try dsimp only at hSw); (go_simp <;> with_reducible rfl)
    simp only [List.setIfInBounds_toArray, List.set_cons_zero, List.set_cons_succ]
    refine take_in 12 51 (v := ?_) (oi := _) (ixA rfl) (by rfl) (by kernel_rfl) (by kernel_rfl) (by kernel_rfl) (by exact fun _ _ _ h => h) (Or.inl ⟨by rfl, ?_⟩) hS ?_
    rotate_left
    · intro w' hSw; (try dsimp only at hSw); (go_simp <;> with_reducible rfl)
    simp only [List.setIfInBounds_toArray, List.set_cons_zero, List.set_cons_succ]
    refine take_in 13 52 (v := ?_) (oi := _) (ixA rfl) (by rfl) (by kernel_rfl) (by kernel_rfl) (by kernel_rfl) (by exact fun _ _ _ h => h) (Or.inl ⟨by rfl, ?_⟩) hS ?_
    rotate_left
    · intro w' hSw; (try dsimp only at hSw); (go_simp <;> with_reducible rfl)
    simp only [List.setIfInBounds_toArray, List.set_cons_zero, List.set_cons_succ]
    refine take_in 14 53 (v := ?_) (oi := _) (ixA rfl) (by rfl) (by kernel_rfl) (by kernel_rfl) (by kernel_rfl) (by exact fun _ _ _ h => h) (Or.inl ⟨by rfl, ?_⟩) hS ?_
    rotate_left
    · intro w' hSw; (try dsimp only at hSw); (go_simp <;> with_reducible rfl)
    simp only [List.setIfInBounds_toArray, List.set_cons_zero, List.set_cons_succ]
    refine take_in 15 54 (v := ?_) (oi := _) (ixA rfl) (by rfl) (by kernel_rfl) (by kernel_rfl) (by kernel_rfl) (by exact fun _ _ _ h => h) (Or.inl ⟨by rfl, ?_⟩) hS ?_
    rotate_left
    · intro w' hSw; (try dsimp only at hSw); (go_simp <;> with_reducible rfl)
    simp only [List.setIfInBounds_toArray, List.set_cons_zero, List.set_cons_succ]
    refine wpAnyH_ready (rs := [16]) (by kernel_rfl) (by simp) ?_
    refine AllReadyH.cons (o := _) (ixA rfl) (fun K' hK' => ?_) AllReadyH.nil
    rw [if_pos (by rfl)]
    go_simp
    refine (HC.out _ bD).mono ?_
    rintro e w3 ⟨v, rfl, hv3, hb3⟩
    obtain ⟨t9, u9, rfl⟩ := hv3.iface
    have hb4 := Below.step bD hb3
    have hb5 := hb4.alloc hb4.size (.cells #[.string xt, .iface t9 u9] 153)
    refine hK'.out _ _ (HCE.out _ hb4) (fun hS => ?_)
    clear hK' K'
    try simp only [Act.put, List.setIfInBounds_toArray, List.set_cons_zero, List.set_cons_succ]
    refine take_in 17 56 (v := ?_) (oi := _) (ixA rfl) (by rfl) (by kernel_rfl) (by kernel_rfl) (by kernel_rfl) (by exact fun _ _ _ h => h) (Or.inl ⟨by rfl, ?_⟩) hS ?_
    rotate_left
    · intro w' hSw; (try dsimp only at hSw); (go_simp <;> with_reducible rfl)
    simp only [List.setIfInBounds_toArray, List.set_cons_zero, List.set_cons_succ]
    refine wpAnyH_ready (rs := [18]) (by kernel_rfl) (by simp) ?_
    refine AllReadyH.cons (o := _) (ixA rfl) (fun K' hK' => ?_) AllReadyH.nil
    rw [if_pos (by rfl)]
    go_simp
    refine hK'.out _ _ (HCE.out _ hb5) (fun hS => ?_)
    clear hK' K'
    try simp only [Act.put, List.setIfInBounds_toArray, List.set_cons_zero, List.set_cons_succ]
    refine take_in 19 58 (v := ?_) (oi := _) (ixA rfl) (by rfl) (by kernel_rfl) (by kernel_rfl) (by kernel_rfl) (by exact fun _ _ _ h => h) (Or.inl ⟨by rfl, ?_⟩) hS ?_
    rotate_left
    · intro w' hSw; (try dsimp only at hSw); (go_simp <;> with_reducible rfl)
    simp only [List.setIfInBounds_toArray, List.set_cons_zero, List.set_cons_succ]
    refine take_in 20 2 (v := ?_) (oi := _) (ixA rfl) (by rfl) (by kernel_rfl) (by kernel_rfl) (by kernel_rfl) (by exact fun _ _ _ h => h) (Or.inl ⟨by rfl, ?_⟩) hS ?_
    rotate_left
    · intro w' hSw; (try dsimp only at hSw); (go_simp <;> with_reducible rfl)
    simp only [List.setIfInBounds_toArray, List.set_cons_zero, List.set_cons_succ]
    refine wpAnyH_done (by kernel_rfl) ?_ _
    have HV3 : Hid _ := HMK.out _ w3.heap.size t9 u9 (by have := hb4.size; omega) (heap_alloc_new w3 (.cells #[.string xt, .iface t9 u9] 153)) (hv3.under ((Below.refl _ _).alloc (Nat.le_refl _) _))
    have HB5 : Hid _ := hb5
    clear hv3 hS HCE hb3 hb4 hb5 HC HMK
    go_wp2
    go_ret
    exact ⟨_, rfl, HV3.out, HB5.out⟩
  unfold knStep at hkn
  rw [if_neg (by omega), if_pos h75] at hkn
  have hkn2 : ∀ k ∈ ks, knT k = true := by simpa [List.all_map, List.all_eq_true] using hkn
  obtain ⟨q, hq⟩ : ∃ q, ks.length = q := ⟨_, rfl⟩
  have HQ : Hid (ks.length = q) := hq
  rw [hq] at h2 h3 c5
  have hmk := make_vals q (by omega) w
  have bA := (Below.refl w.heap.size w).alloc (Nat.le_refl _) (.cells (madeCells #[.nilIface] q) 133)
  have hVM := Vals.made (w := w) (e := 133) (n := q) (z := .nilIface) (Nat.le_refl _) (by omega)
  have lW : w.heap.size < (w.alloc (.cells (madeCells #[.nilIface] q) 133)).heap.size := by rw [World.size_alloc]; omega
  have HCK : Hid (∀ (j : Nat), j < q → ∃ g, so = some ⟨g, 0, none⟩ ∧ (∀ W, Below w.heap.size w W → W.cell? ⟨g, j, none⟩ = some (.pointer (some ⟨bs j, 0, none⟩))) ∧ ∀ (W : World), Below w.heap.size w W → w.heap.size < W.heap.size → Calls Tryz.prog 105 #[.pointer (some ⟨bs j, 0, none⟩)] W fun e w' => ∃ v, e = .returned v ∧ VRep w' (fun p => w.heap.size < p) (ks.getD j (.mk Nd.zero [])) v ∧ Below W.heap.size W w') := by
    intro j hj
    have hj9 : j < ks.length := by omega
    obtain ⟨g, e, -, hc, hr⟩ := h4 j hj9
    refine ⟨g, e, fun W hW => bcL hW (lt_of_cell hc) hc, fun W hW hl => ?_⟩
    have e9 : ks.getD j (.mk Nd.zero []) = ks[j] := by simp [hj9]
    rw [e9]
    exact HIH.out ks[j] (List.getElem_mem hj9) (bs j) A' _ W (hP.kid _ (List.getElem_mem hj9)) (hkn2 _ (List.getElem_mem hj9)) (hr.under hW) (fun p hp => by omega)
  have HFIN : Hid (∀ (W : World) (vs : Nat → Value), w.heap.size < W.heap.size → Vals W 133 w.heap.size w.heap.size q (fillV vs .nilIface q q) → (∀ j, j < q → VRep W (fun p => w.heap.size < p) (ks.getD j (.mk Nd.zero [])) (vs j)) → VRep W A (.mk n ks) (.iface 154 (.slice (some ⟨w.heap.size, 0, none⟩) q q))) := by
    intro W vs hl hV hk
    have key : VRep W A (.mk n ks) (.iface 154 (.slice (some ⟨w.heap.size, 0, none⟩) ks.length ks.length)) := by
      refine .tup n ks h75 w.heap.size vs (hA _ (Nat.le_refl _)) hl (by omega) (fun j hj => ?_) (fun j hj => ?_)
      · rw [hV.at j (by omega), fillV_at _ _ _ _ _ (by omega), if_pos (by omega)]
      · have h9 := hk j (by omega)
        have e9 : ks.getD j (.mk Nd.zero []) = ks[j] := by simp [hj]
        rw [e9] at h9
        exact h9.wide (fun p hp _ => hA p (by omega))
    rw [hq] at key
    exact key
  obtain ⟨kd, nm, tx, kk, pl⟩ := n
  simp only at c0 h75 t72 t73 t74
  subst h75
  have w5 : (w.alloc (.cells (madeCells #[.nilIface] q) 133)).cell? ⟨b, 5, none⟩ = some (.slice so q sc) := bcL bA lb c5
  have lb2 : b < (w.alloc (.cells (madeCells #[.nilIface] q) 133)).heap.size := by omega
  clear ih HIH hP hkn hkn2 hR hblk h4 hA c1 c2 c3 c4 h7 h7b h7c hq
  go_enter Tryz.func105, Tryz.ntmps105
  go_wp2
  have hVM0 : Vals (w.alloc (.cells (madeCells #[.nilIface] q) 133)) 133 w.heap.size w.heap.size q (fillV (fun _ => .nilIface) .nilIface 0 q) := by rw [fillV_zero]; exact hVM
  clear hVM hmk c0 c5 w5
  generalize hG : w.heap.size = G at *
  generalize w.alloc (.cells (madeCells #[.nilIface] q) 133) = W1 at *
  go_loopw [70] (fun i wr => ∃ (k : Nat) (vs : Nat → Value), k ≤ q ∧ i = .int .i64 k ∧ Vals wr 133 G G q (fillV vs .nilIface k q) ∧ (∀ j, j < k → VRep wr (fun p => G < p) (ks.getD j (.mk Nd.zero [])) (vs j)) ∧ Below G w wr ∧ G < wr.heap.size)
    (fun i _ => q - (intOf i).toNat)
  case atStart => exact ⟨0, fun _ => .nilIface, Nat.zero_le _, rfl, hVM0, fun j hj => by omega, bA, lW⟩
  case round =>
    clear hVM0 bA lW lb2
    obtain ⟨k, vs, hk, rfl, hV, hK, hbl, hl⟩ := hrel
    by_cases hlt : k < q
    · obtain ⟨g, rfl, hc, hcall⟩ := HCK.out k hlt
      have hc1 := hc wr hbl
      have hcl := hcall wr hbl hl
      have lg : g < wr.heap.size := lt_of_cell hc1
      go_wp2_with fail
      refine hcl.mono ?_
      rintro e w3 ⟨v, rfl, hv3, hb3⟩
      obtain ⟨t9, u9, rfl⟩ := hv3.iface
      have hb4 := Below.stepG hbl hb3 (by omega)
      have hV3 := hV.but (But.ofBelow (S := fun _ => False) hb3) (fun h => h)
      have hfz := hV3.frozen k
      have hcc : w3.cell? ⟨G, k, none⟩ = some .nilIface := by rw [hV3.at k hlt, fillV_at _ _ _ _ _ hlt, if_neg (by omega)]
      have hG3 : G < w3.heap.size := by have := hb3.size; omega
      have HN : Hid (Vals (w3.setCell ⟨G, k, none⟩ (.iface t9 u9)) 133 G G q (fillV (fun j => if j = k then .iface t9 u9 else vs j) .nilIface (k + 1) q)) := by
        show Vals _ _ _ _ _ _
        rw [← fillV_set _ _ _ _ _ hlt]
        exact hV3.set k _
      have hbut : But (fun p => p = G) w3 (w3.setCell ⟨G, k, none⟩ (.iface t9 u9)) := (But.refl (fun p => p = G) w3).setCell (p := ⟨G, k, none⟩) rfl _
      have HK3 : Hid (∀ j, j < k + 1 → VRep (w3.setCell ⟨G, k, none⟩ (.iface t9 u9)) (fun p => G < p) (ks.getD j (.mk Nd.zero [])) ((fun j => if j = k then .iface t9 u9 else vs j) j)) := by
        intro j hj
        by_cases e : j = k
        · subst e
          simp only [if_pos]
          exact hv3.but hbut (fun p hp hq => by omega) (fun p hp _ => hp)
        · simp only [if_neg e]
          exact ((hK j (by omega)).under hb3).but hbut (fun p hp hq => by omega) (fun p hp _ => hp)
      have HB3 : Hid (Below G w (w3.setCell ⟨G, k, none⟩ (.iface t9 u9))) := ⟨hb4.os, hb4.tape, hb4.output, by rw [size_setCell]; exact hb4.size, fun i hi => (hbut.block i (by omega) (by omega)).trans (hb4.block i hi)⟩
      have hG4 : G < (w3.setCell ⟨G, k, none⟩ (.iface t9 u9)).heap.size := by rw [size_setCell]; exact hG3
      have HG4 : Hid _ := hG4
      clear hcl hc hcall hc1 hb4 hbut hK hV hV3 hG4 hv3 hb3
      go_wp2
      go_roundw
      case rel => exact ⟨k + 1, _, by omega, by go_num, HN.out, HK3.out, HB3.out, HG4.out⟩
      case measure => simp [intOf]; omega
    · obtain rfl : k = q := by omega
      have HV9 : Hid _ := HFIN.out wr vs hl hV hK
      go_wp2
      go_ret
      exact ⟨_, rfl, HV9.out, by rw [hG]; exact hbl⟩
end Go.Proofs.YtemancdlnakkmaaGreat
