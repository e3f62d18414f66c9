import Derived.Test.YtemancdlnakkmaaGreatPVl
import Derived.Maps.AppendAt
namespace Go.Proofs.YtemancdlnakkmaaGreat
open Go.RowKit Go.Maps
theorem Below.stepG {G : Nat} {w a b : World} (h : Below G w a) (k : Below a.heap.size a b) (hG : G ≤ a.heap.size) : Below G w b :=
  ⟨k.os.trans h.os, k.tape.trans h.tape, k.output.trans h.output, Nat.le_trans h.size k.size, fun i hi => (k.block i (by omega)).trans (h.block i hi)⟩
set_option maxRecDepth 20000 in
set_option maxHeartbeats 4000000 in
theorem knownV_any : ∀ (T : Tre) (b : Nat) (A' A : Nat → Prop) (w : World), PlT T → knT T = true → PRep w A' T b → (∀ q, w.heap.size ≤ q → A q) →
    Calls Tryz.prog 105 #[.pointer (some ⟨b, 0, none⟩)] w fun e w' => ∃ v, e = .returned v ∧ VRep w' A T v ∧ Below w.heap.size w w' := by
  intro T
  refine Tre.ind (p := fun T => ∀ (b : Nat) (A' A : Nat → Prop) (w : World), PlT T → knT T = true → PRep w A' T b → (∀ q, w.heap.size ≤ q → A q) → Calls Tryz.prog 105 #[.pointer (some ⟨b, 0, none⟩)] w fun e w' => ∃ v, e = .returned v ∧ VRep w' A T v ∧ Below w.heap.size w w') ?_ T
  intro n ks ih b A' A w hP hkn hR hA
  obtain ⟨-, so, sc, hblk, h1, h2, h3, bs, h4⟩ := hR.opened
  simp only at h1 h2
  clear h1
  have HIH : Hid (∀ k ∈ ks, ∀ (b : Nat) (A' A : Nat → Prop) (w : World), PlT k → knT k = true → PRep w A' k b → (∀ q, w.heap.size ≤ q → A q) → Calls Tryz.prog 105 #[.pointer (some ⟨b, 0, none⟩)] w fun e w' => ∃ v, e = .returned v ∧ VRep w' A k v ∧ Below w.heap.size w w') := ih
  rw [knT_eq] at hkn
  obtain ⟨c0, c1, c2, c3, c4, c5⟩ := nine hblk
  have lb : b < w.heap.size := lt_of_cell c0
  have hbr := Below.refl w.heap.size w
  by_cases h7 : n.kind = 72
  · have HV : Hid (VRep w A (.mk n ks) (.iface 149 (.int .i64 n.num))) := .int n ks h7
    obtain ⟨kd, nm, tx, kk, pl⟩ := n
    simp only at c0 c1 h7 HV
    subst h7
    clear ih HIH hP hkn hR hblk h4 hA c2 c3 c4 c5 h2 h3
    go_enter Tryz.func105, Tryz.ntmps105
    go_wp2
    go_ret
    exact ⟨_, rfl, HV.out, hbr⟩
  by_cases h7b : n.kind = 73
  · have HV : Hid (VRep w A (.mk n ks) (.iface 150 (.string n.text))) := .str n ks h7b
    obtain ⟨kd, nm, tx, kk, pl⟩ := n
    simp only at c0 c2 h7b HV
    subst h7b
    clear ih HIH hP hkn hR hblk h4 hA c1 c3 c4 c5 h2 h3 h7
    go_enter Tryz.func105, Tryz.ntmps105
    go_wp2
    go_ret
    exact ⟨_, rfl, HV.out, hbr⟩
  by_cases h7c : n.kind = 74
  · have b1 := (Below.refl w.heap.size w).alloc (Nat.le_refl _) (.cells #[.string n.text, .nilIface] 153)
    have r1 := heap_alloc_new w (.cells #[.string n.text, .nilIface] 153)
    have HV : Hid (VRep _ A (.mk n ks) (.iface 151 (.pointer (some ⟨w.heap.size, 0, none⟩)))) := .con n ks h7c w.heap.size (hA _ (Nat.le_refl _)) r1
    obtain ⟨kd, nm, tx, kk, pl⟩ := n
    simp only at c0 c2 h7c HV b1
    have HB : Hid _ := b1
    subst h7c
    clear ih HIH hP hkn hR hblk h4 hA c1 c3 c4 c5 h2 h3 h7 h7b r1 b1
    go_enter Tryz.func105, Tryz.ntmps105
    go_wp2
    go_ret
    exact ⟨_, rfl, HV.out, HB.out⟩
  have t72 : (n.kind == 72) = false := by simpa using h7
  have t73 : (n.kind == 73) = false := by simpa using h7b
  have t74 : (n.kind == 74) = false := by simpa using h7c
  by_cases h75 : n.kind = 75
  rotate_left
  · unfold knStep at hkn
    rw [if_neg (by omega), if_neg h75] at hkn
    simp only [Bool.and_eq_true] at hkn
    obtain ⟨h77, hkn⟩ := hkn
    have h77 : n.kind = 77 := by simpa using h77
    obtain ⟨x, y, rfl, -, -⟩ := hP.node.code2 (.inl h77)
    simp only [List.map_cons, List.map_nil, Bool.and_eq_true] at hkn
    obtain ⟨g, hso, -, e0, hr0⟩ := h4 0 (by simp)
    obtain ⟨g', hso', -, e1, hr1⟩ := h4 1 (by simp)
    simp only at hso hso'
    rw [hso] at hso'
    simp only [Option.some.injEq, Addr.mk.injEq, and_true] at hso'
    subst hso'
    subst hso
    simp only [List.getElem_cons_zero, List.getElem_cons_succ] at hr0 hr1
    generalize bs 0 = b0 at e0 hr0
    generalize bs 1 = b1 at e1 hr1
    have HC : Hid (∀ W, Below w.heap.size w W → Calls Tryz.prog 105 #[.pointer (some ⟨b1, 0, none⟩)] W fun e w' => ∃ v, e = .returned v ∧ VRep w' A y v ∧ Below W.heap.size W w') := fun W hW => HIH.out y (by simp) b1 A' A W (hP.kid y (by simp)) hkn.2 (hr1.under hW) (fun q hq => hA q (by have := hW.size; omega))
    have HMK : Hid (∀ (W : World) (c : Nat) (t : TypeId) (u : Value), w.heap.size ≤ c → W.heap[c]? = some (.cells #[.string x.nd.text, .iface t u] 153 (0, 0)) → VRep W A y (.iface t u) → VRep W A (.mk n [x, y]) (.iface 151 (.pointer (some ⟨c, 0, none⟩)))) := fun W c t u hc hb hv => .app n x y h77 c t u (hA c hc) hb hv
    obtain ⟨nx, kx⟩ := x
    obtain ⟨-, sox, scx, hbx, -⟩ := hr0.opened
    obtain ⟨-, -, x2, -⟩ := nine hbx
    have lg : g < w.heap.size := lt_of_cell e0
    have l0 : b0 < w.heap.size := lt_of_cell x2
    simp only [List.length_cons, List.length_nil, Nat.zero_add, Nat.reduceAdd] at c5
    obtain ⟨kd, nm, tx, kk, pl⟩ := n
    obtain ⟨xk, xn, xt, xq, xp⟩ := nx
    simp only [Tre.nd] at HMK
    simp only at c0 x2 h77 t72 t73 t74
    subst h77
    have HCE : Hid (∀ W, Below w.heap.size w W → W.cell? ⟨b, 5, none⟩ = some (.slice (some ⟨g, 0, none⟩) 2 sc) ∧ W.cell? ⟨g, 0, none⟩ = some (.pointer (some ⟨b0, 0, none⟩)) ∧ W.cell? ⟨g, 1, none⟩ = some (.pointer (some ⟨b1, 0, none⟩)) ∧ W.cell? ⟨b0, 2, none⟩ = some (.string xt)) :=
      fun W hW => ⟨bcL hW lb c5, bcL hW lg e0, bcL hW lg e1, bcL hW l0 x2⟩
    clear ih HIH hP hkn hR hblk h4 hA c1 c2 c3 c4 h2 h3 h7 h7b h7c hr0 hr1 hbx h75
    go_enter Tryz.func105, Tryz.ntmps105
    go_upto_region 9 with fail
    have bD := (Below.refl w.heap.size w).drew
    clear c0 c5 e0 e1 x2
    refine wp_region_held_drew (S := fun W => W.cell? ⟨b, 5, none⟩ = some (.slice (some ⟨g, 0, none⟩) 2 sc) ∧ W.cell? ⟨g, 0, none⟩ = some (.pointer (some ⟨b0, 0, none⟩)) ∧ W.cell? ⟨g, 1, none⟩ = some (.pointer (some ⟨b1, 0, none⟩)) ∧ W.cell? ⟨b0, 2, none⟩ = some (.string xt)) (by kernel_rfl) (HCE.out _ bD) (fun hS => ?_)
    refine take_in 0 39 (v := ?_) (oi := _) (ixA rfl) (by rfl) (by kernel_rfl) (by kernel_rfl) (by kernel_rfl) (by exact fun _ _ _ h => h) (Or.inl ⟨by rfl, ?_⟩) hS ?_
    rotate_left
    · intro w' hSw; (try dsimp only at hSw); (go_simp <;> with_reducible rfl)
    simp only [List.setIfInBounds_toArray, List.set_cons_zero, List.set_cons_succ]
    refine take_in 1 40 (v := ?_) (oi := _) (ixA rfl) (by rfl) (by kernel_rfl) (by kernel_rfl) (by kernel_rfl) (by exact fun _ _ _ h => h) (Or.inl ⟨by rfl, ?_⟩) hS ?_
    rotate_left
    · intro w' hSw; (try dsimp only at hSw); (go_simp <;> with_reducible rfl)
    simp only [List.setIfInBounds_toArray, List.set_cons_zero, List.set_cons_succ]
    refine take_in 2 41 (v := ?_) (oi := _) (ixA rfl) (by rfl) (by kernel_rfl) (by kernel_rfl) (by kernel_rfl) (by exact fun _ _ _ h => h) (Or.inl ⟨by rfl, ?_⟩) hS ?_
    rotate_left
    · intro w' hSw; (try dsimp only at hSw); (go_simp <;> with_reducible rfl)
    simp only [List.setIfInBounds_toArray, List.set_cons_zero, List.set_cons_succ]
    refine take_in 3 42 (v := ?_) (oi := _) (ixA rfl) (by rfl) (by kernel_rfl) (by kernel_rfl) (by kernel_rfl) (by exact fun _ _ _ h => h) (Or.inl ⟨by rfl, ?_⟩) hS ?_
    rotate_left
    · intro w' hSw; (try dsimp only at hSw); (go_simp <;> with_reducible rfl)
    simp only [List.setIfInBounds_toArray, List.set_cons_zero, List.set_cons_succ]
    refine take_in 4 43 (v := ?_) (oi := _) (ixA rfl) (by rfl) (by kernel_rfl) (by kernel_rfl) (by kernel_rfl) (by exact fun _ _ _ h => h) (Or.inl ⟨by rfl, ?_⟩) hS ?_
    rotate_left
    · intro w' hSw; (try dsimp only at hSw); (go_simp <;> with_reducible rfl)
    simp only [List.setIfInBounds_toArray, List.set_cons_zero, List.set_cons_succ]
    refine take_in 5 44 (v := ?_) (oi := _) (ixA rfl) (by rfl) (by kernel_rfl) (by kernel_rfl) (by kernel_rfl) (by exact fun _ _ _ h => h) (Or.inl ⟨by rfl, ?_⟩) hS ?_
    rotate_left
    · intro w' hSw; (try dsimp only at hSw); (go_simp <;> with_reducible rfl)
    simp only [List.setIfInBounds_toArray, List.set_cons_zero, List.set_cons_succ]
    refine take_in 6 45 (v := ?_) (oi := _) (ixA rfl) (by rfl) (by kernel_rfl) (by kernel_rfl) (by kernel_rfl) (by exact fun _ _ _ h => h) (Or.inl ⟨by rfl, ?_⟩) hS ?_
    rotate_left
    · intro w' hSw; (try dsimp only at hSw); (go_simp <;> with_reducible rfl)
    simp only [List.setIfInBounds_toArray, List.set_cons_zero, List.set_cons_succ]
    refine take_in 7 46 (v := ?_) (oi := _) (ixA rfl) (by rfl) (by kernel_rfl) (by kernel_rfl) (by kernel_rfl) (by exact fun _ _ _ h => h) (Or.inl ⟨by rfl, ?_⟩) hS ?_
    rotate_left
    · intro w' hSw; (try dsimp only at hSw); (go_simp <;> with_reducible rfl)
    simp only [List.setIfInBounds_toArray, List.set_cons_zero, List.set_cons_succ]
    refine take_in 8 47 (v := ?_) (oi := _) (ixA rfl) (by rfl) (by kernel_rfl) (by kernel_rfl) (by kernel_rfl) (by exact fun _ _ _ h => h) (Or.inl ⟨by rfl, ?_⟩) hS ?_
    rotate_left
    · intro w' hSw; (try dsimp only at hSw); (go_simp <;> with_reducible rfl)
    simp only [List.setIfInBounds_toArray, List.set_cons_zero, List.set_cons_succ]
    refine take_in 9 48 (v := ?_) (oi := _) (ixA rfl) (by rfl) (by kernel_rfl) (by kernel_rfl) (by kernel_rfl) (by exact fun _ _ _ h => h) (Or.inl ⟨by rfl, ?_⟩) hS ?_
    rotate_left
    · intro w' hSw; (try dsimp only at hSw); (go_simp <;> with_reducible rfl)
    simp only [List.setIfInBounds_toArray, List.set_cons_zero, List.set_cons_succ]
    refine take_in 10 49 (v := ?_) (oi := _) (ixA rfl) (by rfl) (by kernel_rfl) (by kernel_rfl) (by kernel_rfl) (by exact fun _ _ _ h => h) (Or.inl ⟨by rfl, ?_⟩) hS ?_
    rotate_left
    · intro w' hSw; (try dsimp only at hSw); (go_simp <;> with_reducible rfl)
    simp only [List.setIfInBounds_toArray, List.set_cons_zero, List.set_cons_succ]
    refine take_in 11 50 (v := ?_) (oi := _) (ixA rfl) (by rfl) (by kernel_rfl) (by kernel_rfl) (by kernel_rfl) (by exact fun _ _ _ h => h) (Or.inl ⟨by rfl, ?_⟩) hS ?_
    rotate_left
    · intro w' hSw; (try dsimp only at hSw); (go_simp <;> with_reducible rfl)
    simp only [List.setIfInBounds_toArray, List.set_cons_zero, List.set_cons_succ]
    refine take_in 12 51 (v := ?_) (oi := _) (ixA rfl) (by rfl) (by kernel_rfl) (by kernel_rfl) (by kernel_rfl) (by exact fun _ _ _ h => h) (Or.inl ⟨by rfl, ?_⟩) hS ?_
    rotate_left
    · intro w' hSw; (try dsimp only at hSw); (go_simp <;> with_reducible rfl)
    simp only [List.setIfInBounds_toArray, List.set_cons_zero, List.set_cons_succ]
    refine take_in 13 52 (v := ?_) (oi := _) (ixA rfl) (by rfl) (by kernel_rfl) (by kernel_rfl) (by kernel_rfl) (by exact fun _ _ _ h => h) (Or.inl ⟨by rfl, ?_⟩) hS ?_
    rotate_left
    · intro w' hSw; (try dsimp only at hSw); (go_simp <;> with_reducible rfl)
    simp only [List.setIfInBounds_toArray, List.set_cons_zero, List.set_cons_succ]
    refine take_in 14 53 (v := ?_) (oi := _) (ixA rfl) (by rfl) (by kernel_rfl) (by kernel_rfl) (by kernel_rfl) (by exact fun _ _ _ h => h) (Or.inl ⟨by rfl, ?_⟩) hS ?_
    rotate_left
    · intro w' hSw; (try dsimp only at hSw); (go_simp <;> with_reducible rfl)
    simp only [List.setIfInBounds_toArray, List.set_cons_zero, List.set_cons_succ]
    refine take_in 15 54 (v := ?_) (oi := _) (ixA rfl) (by rfl) (by kernel_rfl) (by kernel_rfl) (by kernel_rfl) (by exact fun _ _ _ h => h) (Or.inl ⟨by rfl, ?_⟩) hS ?_
    rotate_left
    · intro w' hSw; (try dsimp only at hSw); (go_simp <;> with_reducible rfl)
    simp only [List.setIfInBounds_toArray, List.set_cons_zero, List.set_cons_succ]
    refine wpAnyH_ready (rs := [16]) (by kernel_rfl) (by simp) ?_
    refine AllReadyH.cons (o := _) (ixA rfl) (fun K' hK' => ?_) AllReadyH.nil
    rw [if_pos (by rfl)]
    go_simp
    refine (HC.out _ bD).mono ?_
    rintro e w3 ⟨v, rfl, hv3, hb3⟩
    obtain ⟨t9, u9, rfl⟩ := hv3.iface
    have hb4 := Below.step bD hb3
    have hb5 := hb4.alloc hb4.size (.cells #[.string xt, .iface t9 u9] 153)
    refine hK'.out _ _ (HCE.out _ hb4) (fun hS => ?_)
    clear hK' K'
    try simp only [Act.put, List.setIfInBounds_toArray, List.set_cons_zero, List.set_cons_succ]
    refine take_in 17 56 (v := ?_) (oi := _) (ixA rfl) (by rfl) (by kernel_rfl) (by kernel_rfl) (by kernel_rfl) (by exact fun _ _ _ h => h) (Or.inl ⟨by rfl, ?_⟩) hS ?_
    rotate_left
    · intro w' hSw; (try dsimp only at hSw); (go_simp <;> with_reducible rfl)
    simp only [List.setIfInBounds_toArray, List.set_cons_zero, List.set_cons_succ]
    refine wpAnyH_ready (rs := [18]) (by kernel_rfl) (by simp) ?_
    refine AllReadyH.cons (o := _) (ixA rfl) (fun K' hK' => ?_) AllReadyH.nil
    rw [if_pos (by rfl)]
    go_simp
    refine hK'.out _ _ (HCE.out _ hb5) (fun hS => ?_)
    clear hK' K'
    try simp only [Act.put, List.setIfInBounds_toArray, List.set_cons_zero, List.set_cons_succ]
    refine take_in 19 58 (v := ?_) (oi := _) (ixA rfl) (by rfl) (by kernel_rfl) (by kernel_rfl) (by kernel_rfl) (by exact fun _ _ _ h => h) (Or.inl ⟨by rfl, ?_⟩) hS ?_
    rotate_left
    · intro w' hSw; (try dsimp only at hSw); (go_simp <;> with_reducible rfl)
    simp only [List.setIfInBounds_toArray, List.set_cons_zero, List.set_cons_succ]
    refine take_in 20 2 (v := ?_) (oi := _) (ixA rfl) (by rfl) (by kernel_rfl) (by kernel_rfl) (by kernel_rfl) (by exact fun _ _ _ h => h) (Or.inl ⟨by rfl, ?_⟩) hS ?_
    rotate_left
    · intro w' hSw; (try dsimp only at hSw); (go_simp <;> with_reducible rfl)
    simp only [List.setIfInBounds_toArray, List.set_cons_zero, List.set_cons_succ]
    refine wpAnyH_done (by kernel_rfl) ?_ _
    have HV3 : Hid _ := HMK.out _ w3.heap.size t9 u9 (by have := hb4.size; omega) (heap_alloc_new w3 (.cells #[.string xt, .iface t9 u9] 153)) (hv3.under ((Below.refl _ _).alloc (Nat.le_refl _) _))
    have HB5 : Hid _ := hb5
    clear hv3 hS HCE hb3 hb4 hb5 HC HMK
    go_wp2
    go_ret
    exact ⟨_, rfl, HV3.out, HB5.out⟩
  unfold knStep at hkn
  rw [if_neg (by omega), if_pos h75] at hkn
  have hkn2 : ∀ k ∈ ks, knT k = true := by simpa [List.all_map, List.all_eq_true] using hkn
  obtain ⟨q, hq⟩ : ∃ q, ks.length = q := ⟨_, rfl⟩
  have HQ : Hid (ks.length = q) := hq
  rw [hq] at h2 h3 c5
  have hmk := make_vals q (by omega) w
  have bA := (Below.refl w.heap.size w).alloc (Nat.le_refl _) (.cells (madeCells #[.nilIface] q) 133)
  have hVM := Vals.made (w := w) (e := 133) (n := q) (z := .nilIface) (Nat.le_refl _) (by omega)
  have lW : w.heap.size < (w.alloc (.cells (madeCells #[.nilIface] q) 133)).heap.size := by rw [World.size_alloc]; omega
  have HCK : Hid (∀ (j : Nat), j < q → ∃ g, so = some ⟨g, 0, none⟩ ∧ (∀ W, Below w.heap.size w W → W.cell? ⟨g, j, none⟩ = some (.pointer (some ⟨bs j, 0, none⟩))) ∧ ∀ (W : World), Below w.heap.size w W → w.heap.size < W.heap.size → Calls Tryz.prog 105 #[.pointer (some ⟨bs j, 0, none⟩)] W fun e w' => ∃ v, e = .returned v ∧ VRep w' (fun p => w.heap.size < p) (ks.getD j (.mk Nd.zero [])) v ∧ Below W.heap.size W w') := by
    intro j hj
    have hj9 : j < ks.length := by omega
    obtain ⟨g, e, -, hc, hr⟩ := h4 j hj9
    refine ⟨g, e, fun W hW => bcL hW (lt_of_cell hc) hc, fun W hW hl => ?_⟩
    have e9 : ks.getD j (.mk Nd.zero []) = ks[j] := by simp [hj9]
    rw [e9]
    exact HIH.out ks[j] (List.getElem_mem hj9) (bs j) A' _ W (hP.kid _ (List.getElem_mem hj9)) (hkn2 _ (List.getElem_mem hj9)) (hr.under hW) (fun p hp => by omega)
  have HFIN : Hid (∀ (W : World) (vs : Nat → Value), w.heap.size < W.heap.size → Vals W 133 w.heap.size w.heap.size q (fillV vs .nilIface q q) → (∀ j, j < q → VRep W (fun p => w.heap.size < p) (ks.getD j (.mk Nd.zero [])) (vs j)) → VRep W A (.mk n ks) (.iface 154 (.slice (some ⟨w.heap.size, 0, none⟩) q q))) := by
    intro W vs hl hV hk
    have key : VRep W A (.mk n ks) (.iface 154 (.slice (some ⟨w.heap.size, 0, none⟩) ks.length ks.length)) := by
      refine .tup n ks h75 w.heap.size vs (hA _ (Nat.le_refl _)) hl (by omega) (fun j hj => ?_) (fun j hj => ?_)
      · rw [hV.at j (by omega), fillV_at _ _ _ _ _ (by omega), if_pos (by omega)]
      · have h9 := hk j (by omega)
        have e9 : ks.getD j (.mk Nd.zero []) = ks[j] := by simp [hj]
        rw [e9] at h9
        exact h9.wide (fun p hp _ => hA p (by omega))
    rw [hq] at key
    exact key
  obtain ⟨kd, nm, tx, kk, pl⟩ := n
  simp only at c0 h75 t72 t73 t74
  subst h75
  have w5 : (w.alloc (.cells (madeCells #[.nilIface] q) 133)).cell? ⟨b, 5, none⟩ = some (.slice so q sc) := bcL bA lb c5
  have lb2 : b < (w.alloc (.cells (madeCells #[.nilIface] q) 133)).heap.size := by omega
  clear ih HIH hP hkn hkn2 hR hblk h4 hA c1 c2 c3 c4 h7 h7b h7c hq
  go_enter Tryz.func105, Tryz.ntmps105
  go_wp2
  have hVM0 : Vals (w.alloc (.cells (madeCells #[.nilIface] q) 133)) 133 w.heap.size w.heap.size q (fillV (fun _ => .nilIface) .nilIface 0 q) := by rw [fillV_zero]; exact hVM
  clear hVM hmk c0 c5 w5
  generalize hG : w.heap.size = G at *
  generalize w.alloc (.cells (madeCells #[.nilIface] q) 133) = W1 at *
  go_loopw [70] (fun i wr => ∃ (k : Nat) (vs : Nat → Value), k ≤ q ∧ i = .int .i64 k ∧ Vals wr 133 G G q (fillV vs .nilIface k q) ∧ (∀ j, j < k → VRep wr (fun p => G < p) (ks.getD j (.mk Nd.zero [])) (vs j)) ∧ Below G w wr ∧ G < wr.heap.size)
    (fun i _ => q - (intOf i).toNat)
  case atStart => exact ⟨0, fun _ => .nilIface, Nat.zero_le _, rfl, hVM0, fun j hj => by omega, bA, lW⟩
  case round =>
    clear hVM0 bA lW lb2
    obtain ⟨k, vs, hk, rfl, hV, hK, hbl, hl⟩ := hrel
    by_cases hlt : k < q
    · obtain ⟨g, rfl, hc, hcall⟩ := HCK.out k hlt
      have hc1 := hc wr hbl
      have hcl := hcall wr hbl hl
      have lg : g < wr.heap.size := lt_of_cell hc1
      go_wp2_with fail
      refine hcl.mono ?_
      rintro e w3 ⟨v, rfl, hv3, hb3⟩
      obtain ⟨t9, u9, rfl⟩ := hv3.iface
      have hb4 := Below.stepG hbl hb3 (by omega)
      have hV3 := hV.but (But.ofBelow (S := fun _ => False) hb3) (fun h => h)
      have hfz := hV3.frozen k
      have hcc : w3.cell? ⟨G, k, none⟩ = some .nilIface := by rw [hV3.at k hlt, fillV_at _ _ _ _ _ hlt, if_neg (by omega)]
      have hG3 : G < w3.heap.size := by have := hb3.size; omega
      have HN : Hid (Vals (w3.setCell ⟨G, k, none⟩ (.iface t9 u9)) 133 G G q (fillV (fun j => if j = k then .iface t9 u9 else vs j) .nilIface (k + 1) q)) := by
        show Vals _ _ _ _ _ _
        rw [← fillV_set _ _ _ _ _ hlt]
        exact hV3.set k _
      have hbut : But (fun p => p = G) w3 (w3.setCell ⟨G, k, none⟩ (.iface t9 u9)) := (But.refl (fun p => p = G) w3).setCell (p := ⟨G, k, none⟩) rfl _
      have HK3 : Hid (∀ j, j < k + 1 → VRep (w3.setCell ⟨G, k, none⟩ (.iface t9 u9)) (fun p => G < p) (ks.getD j (.mk Nd.zero [])) ((fun j => if j = k then .iface t9 u9 else vs j) j)) := by
        intro j hj
        by_cases e : j = k
        · subst e
          simp only [if_pos]
          exact hv3.but hbut (fun p hp hq => by omega) (fun p hp _ => hp)
        · simp only [if_neg e]
          exact ((hK j (by omega)).under hb3).but hbut (fun p hp hq => by omega) (fun p hp _ => hp)
      have HB3 : Hid (Below G w (w3.setCell ⟨G, k, none⟩ (.iface t9 u9))) := ⟨hb4.os, hb4.tape, hb4.output, by rw [size_setCell]; exact hb4.size, fun i hi => (hbut.block i (by omega) (by omega)).trans (hb4.block i hi)⟩
      have hG4 : G < (w3.setCell ⟨G, k, none⟩ (.iface t9 u9)).heap.size := by rw [size_setCell]; exact hG3
      have HG4 : Hid _ := hG4
      clear hcl hc hcall hc1 hb4 hbut hK hV hV3 hG4 hv3 hb3
      go_wp2
      go_roundw
      case rel => exact ⟨k + 1, _, by omega, by go_num, HN.out, HK3.out, HB3.out, HG4.out⟩
      case measure => simp [intOf]; omega
    · obtain rfl : k = q := by omega
      have HV9 : Hid _ := HFIN.out wr vs hl hV hK
      go_wp2
      go_ret
      exact ⟨_, rfl, HV9.out, by rw [hG]; exact hbl⟩
theorem Tryz.asII (v : Value) (w : World) : (Instr.typeAssert (.iface 149 v) 133 149 true).run Tryz.prog w = .ok (.tuple #[v, .bool true]) w := by kernel_rfl
theorem Tryz.asIS (v : Value) (w : World) : (Instr.typeAssert (.iface 149 v) 133 150 true).run Tryz.prog w = .ok (.tuple #[.string ⟨#[]⟩, .bool false]) w := by kernel_rfl
theorem Tryz.asIC (v : Value) (w : World) : (Instr.typeAssert (.iface 149 v) 133 151 true).run Tryz.prog w = .ok (.tuple #[.pointer none, .bool false]) w := by kernel_rfl
theorem Tryz.asIT (v : Value) (w : World) : (Instr.typeAssert (.iface 149 v) 133 154 true).run Tryz.prog w = .ok (.tuple #[.slice none 0 0, .bool false]) w := by kernel_rfl
theorem Tryz.asSI (v : Value) (w : World) : (Instr.typeAssert (.iface 150 v) 133 149 true).run Tryz.prog w = .ok (.tuple #[.int .i64 0, .bool false]) w := by kernel_rfl
theorem Tryz.asSS (v : Value) (w : World) : (Instr.typeAssert (.iface 150 v) 133 150 true).run Tryz.prog w = .ok (.tuple #[v, .bool true]) w := by kernel_rfl
theorem Tryz.asSC (v : Value) (w : World) : (Instr.typeAssert (.iface 150 v) 133 151 true).run Tryz.prog w = .ok (.tuple #[.pointer none, .bool false]) w := by kernel_rfl
theorem Tryz.asST (v : Value) (w : World) : (Instr.typeAssert (.iface 150 v) 133 154 true).run Tryz.prog w = .ok (.tuple #[.slice none 0 0, .bool false]) w := by kernel_rfl
theorem Tryz.asCI (v : Value) (w : World) : (Instr.typeAssert (.iface 151 v) 133 149 true).run Tryz.prog w = .ok (.tuple #[.int .i64 0, .bool false]) w := by kernel_rfl
theorem Tryz.asCS (v : Value) (w : World) : (Instr.typeAssert (.iface 151 v) 133 150 true).run Tryz.prog w = .ok (.tuple #[.string ⟨#[]⟩, .bool false]) w := by kernel_rfl
theorem Tryz.asCC (v : Value) (w : World) : (Instr.typeAssert (.iface 151 v) 133 151 true).run Tryz.prog w = .ok (.tuple #[v, .bool true]) w := by kernel_rfl
theorem Tryz.asCT (v : Value) (w : World) : (Instr.typeAssert (.iface 151 v) 133 154 true).run Tryz.prog w = .ok (.tuple #[.slice none 0 0, .bool false]) w := by kernel_rfl
theorem Tryz.asTI (v : Value) (w : World) : (Instr.typeAssert (.iface 154 v) 133 149 true).run Tryz.prog w = .ok (.tuple #[.int .i64 0, .bool false]) w := by kernel_rfl
theorem Tryz.asTS (v : Value) (w : World) : (Instr.typeAssert (.iface 154 v) 133 150 true).run Tryz.prog w = .ok (.tuple #[.string ⟨#[]⟩, .bool false]) w := by kernel_rfl
theorem Tryz.asTC (v : Value) (w : World) : (Instr.typeAssert (.iface 154 v) 133 151 true).run Tryz.prog w = .ok (.tuple #[.pointer none, .bool false]) w := by kernel_rfl
theorem Tryz.asTT (v : Value) (w : World) : (Instr.typeAssert (.iface 154 v) 133 154 true).run Tryz.prog w = .ok (.tuple #[v, .bool true]) w := by kernel_rfl
def NmS (w : World) (rb B k : Nat) : Prop := B ≤ rb ∧ ∃ (v : Value) (xs : List Value), w.heap[rb]? = some (.cells #[.pointer none, .int .i64 0, .int .i64 0, v] 139 (0, 0)) ∧ w.ownsRow (rb + 1) 133 1 v k xs
theorem But.low {B : Nat} {w w' : World} (h : Below B w w') : But (fun p => B ≤ p) w w' := ⟨h.os, h.tape, h.output, h.size, fun i _ hn => h.block i (by omega)⟩
theorem PRep.low {w w' : World} {B : Nat} {T : Tre} {b : Nat} (h : PRep w (fun p => p < B) T b) (hb : Below B w w') : PRep w' (fun p => p < B) T b :=
  h.but (But.low hb) (fun q hq hn => by omega) (fun q hq _ => hq)
theorem VRep.low {w w' : World} {B : Nat} {T : Tre} {v : Value} (h : VRep w (fun p => p < B) T v) (hb : Below B w w') : VRep w' (fun p => p < B) T v :=
  h.but (But.low hb) (fun q hq hn => by omega) (fun q hq _ => hq)
def szT (T : Tre) : Nat := (outT T).length
theorem szT_eq (n : Nd) (ks : List Tre) : szT (.mk n ks) = (ks.map szT).sum + 1 := by
  unfold szT
  rw [outT_eq, List.length_append, List.length_flatten, List.map_map]
  rfl
theorem NmS.drew {w : World} {rb B k : Nat} (h : NmS w rb B k) (m : Nat) : NmS (w.drewN m) rb B k := h
def FitR (B rb k : Nat) (T V : Tre) (w : World) (e : Ending) (w' : World) : Prop :=
  ∃ k', e = .returned (.bool (fitsT T V)) ∧ NmS w' rb B k' ∧ Below B w w' ∧ k' ≤ k + szT T ∧ (fitsT T V = true → (k' = 0 ↔ k = 0 ∧ bindsT T = false))
theorem FitR.same {B rb k : Nat} {T V : Tre} {w w' : World} {r : Bool} (h : fitsT T V = r) (hN : NmS w' rb B k) (hb : Below B w w') (hB : r = true → bindsT T = false) : FitR B rb k T V w (.returned (.bool r)) w' := by
  refine ⟨k, by rw [h], hN, hb, by omega, fun hf => ?_⟩
  rw [h] at hf
  rw [hB hf]
  simp
theorem fit0L {n : Nd} {ks : List Tre} (h : PlN n ks) (hk : n.kind = 15 ∨ n.kind = 17 ∨ n.kind = 18 ∨ n.kind = 90) : ks = [] := by
  rcases hk with e | e | e | e
  · exact fit0T (h.at 15 e)
  · exact fit0T (h.at 17 e)
  · exact fit0T (h.at 18 e)
  · exact fit0T (h.at 90 e)
theorem bind0L {n : Nd} (h : n.kind ≠ 90 ∧ n.kind ≠ 91) : bindsT (.mk n []) = false := by
  rw [bindsT_eq]
  simp [h.1, h.2]
set_option maxRecDepth 20000 in
set_option maxHeartbeats 4000000 in
theorem fit_wild (n : Nd) (ks : List Tre) (V : Tre) (pb rb B k : Nat) (v : Value) (w : World) (hk : n.kind = 15) (hP : PlT (.mk n ks)) (hR : PRep w (fun p => p < B) (.mk n ks) pb) (hN : NmS w rb B k) :
    Calls Tryz.prog 106 #[.pointer (some ⟨rb, 0, none⟩), .pointer (some ⟨pb, 0, none⟩), v] w fun e w' => FitR B rb k (.mk n ks) V w e w' := by
  obtain rfl := fit0L hP.node (.inl hk)
  have HF : Hid (fitsT (.mk n []) V = true) := by show _ = _; rw [fitsT_eq]; simp [fitsStep, hk]
  have HB : Hid (bindsT (.mk n []) = false) := bind0L (by omega)
  obtain ⟨-, so, sc, hblk, -⟩ := hR.opened
  obtain ⟨c0, -⟩ := nine hblk
  have lb : pb < w.heap.size := lt_of_cell c0
  have HNS : Hid _ := hN
  have hbr := Below.refl B w
  obtain ⟨kd, nm, tx, kk, pl⟩ := n
  simp only at c0 hk
  subst hk
  clear hP hR hN hblk
  go_enter Tryz.func106, Tryz.ntmps106
  go_wp2
  go_ret
  exact FitR.same HF.out HNS.out hbr (fun _ => HB.out)
set_option maxRecDepth 20000 in
set_option maxHeartbeats 4000000 in
theorem fit_int (n : Nd) (ks : List Tre) (V : Tre) (pb rb B k : Nat) (v : Value) (w : World) (hk : n.kind = 17) (hP : PlT (.mk n ks)) (hR : PRep w (fun p => p < B) (.mk n ks) pb) (hV : VRep w (fun p => p < B) V v) (hN : NmS w rb B k) :
    Calls Tryz.prog 106 #[.pointer (some ⟨rb, 0, none⟩), .pointer (some ⟨pb, 0, none⟩), v] w fun e w' => FitR B rb k (.mk n ks) V w e w' := by
  obtain rfl := fit0L hP.node (.inr (.inl hk))
  have HF : Hid (fitsT (.mk n []) V = (V.nd.kind == 72 && V.nd.num == n.num)) := by show _ = _; rw [fitsT_eq]; simp [fitsStep, hk]
  have HB : Hid (bindsT (.mk n []) = false) := bind0L (by omega)
  obtain ⟨-, so, sc, hblk, -⟩ := hR.opened
  obtain ⟨c0, c1, -⟩ := nine hblk
  have lb : pb < w.heap.size := lt_of_cell c0
  have HNS : Hid _ := hN
  have hbr := Below.refl B w
  obtain ⟨kd, nm, tx, kk, pl⟩ := n
  simp only at c0 c1 hk HF
  subst hk
  clear hP hR hN hblk
  cases hV using VRep.inv with
  | int m vs h =>
    have HF2 : Hid (fitsT (.mk ⟨17, nm, tx, kk, pl⟩ []) (.mk m vs) = (m.num == nm)) := by show _ = _; rw [HF.out]; simp [Tre.nd, h]
    have ha := Tryz.asII (.int .i64 m.num) w
    generalize m.num = mm at ha HF2 ⊢
    clear HF
    go_enter Tryz.func106, Tryz.ntmps106
    go_wp2
    go_ret
    exact FitR.same HF2.out HNS.out hbr (fun _ => HB.out)
  | str m vs h =>
    have HF2 : Hid (fitsT (.mk ⟨17, nm, tx, kk, pl⟩ []) (.mk m vs) = false) := by show _ = _; rw [HF.out]; simp [Tre.nd, h]
    have ha := Tryz.asSI (.string m.text) w
    clear HF
    go_enter Tryz.func106, Tryz.ntmps106
    go_wp2
    go_ret
    exact FitR.same HF2.out HNS.out hbr (fun _ => HB.out)
  | con m vs h c hA blk =>
    have HF2 : Hid (fitsT (.mk ⟨17, nm, tx, kk, pl⟩ []) (.mk m vs) = false) := by show _ = _; rw [HF.out]; simp [Tre.nd, h]
    have ha := Tryz.asCI (.pointer (some ⟨c, 0, none⟩)) w
    clear HF blk
    go_enter Tryz.func106, Tryz.ntmps106
    go_wp2
    go_ret
    exact FitR.same HF2.out HNS.out hbr (fun _ => HB.out)
  | app m x y h c t u hA blk hk =>
    have HF2 : Hid (fitsT (.mk ⟨17, nm, tx, kk, pl⟩ []) (.mk m [x, y]) = false) := by show _ = _; rw [HF.out]; simp [Tre.nd, h]
    have ha := Tryz.asCI (.pointer (some ⟨c, 0, none⟩)) w
    clear HF blk hk
    go_enter Tryz.func106, Tryz.ntmps106
    go_wp2
    go_ret
    exact FitR.same HF2.out HNS.out hbr (fun _ => HB.out)
  | tup m vs h g us hA lt small cells kids =>
    have HF2 : Hid (fitsT (.mk ⟨17, nm, tx, kk, pl⟩ []) (.mk m vs) = false) := by show _ = _; rw [HF.out]; simp [Tre.nd, h]
    have ha := Tryz.asTI (.slice (some ⟨g, 0, none⟩) vs.length vs.length) w
    clear HF cells kids
    go_enter Tryz.func106, Tryz.ntmps106
    go_wp2
    go_ret
    exact FitR.same HF2.out HNS.out hbr (fun _ => HB.out)
end Go.Proofs.YtemancdlnakkmaaGreat
