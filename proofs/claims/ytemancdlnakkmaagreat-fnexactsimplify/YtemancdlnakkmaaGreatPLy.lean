import Derived.Test.YtemancdlnakkmaaGreatWBY
namespace Go.Proofs.YtemancdlnakkmaaGreat
open Go.RowKit Go.Maps
set_option maxRecDepth 20000 in
set_option maxHeartbeats 4000000 in
theorem implLess_any (t : List Nd) (m : Nat) (HM : Hid (t.length = m)) (hm : m ≤ 1048576) (htx : ∀ x ∈ t, x.text.size ≤ 1048576 ∧ (Lit.int .i64 x.num).wf = true) (ao : Option Addr) (cap : Nat) (w : World) (hx : Nodes w ao t) :
    Calls Tryz.prog 19 #[.slice ao m cap] w fun e w' => ∃ g c l zs, e = .returned (.slice (some ⟨g, 0, none⟩) l c) ∧ OwnN w' w.heap.size g c l zs ∧ LessS t zs ∧ Below w.heap.size w w' := by
  have HP := implPlain_any t m HM hm ao cap w hx
  have HX : Hid (Nodes w ao t) := hx
  have HT : Hid (∀ x ∈ t, x.text.size ≤ 1048576 ∧ (Lit.int .i64 x.num).wf = true) := htx
  clear hx htx
  go_enter Tryz.func19, Tryz.ntmps19
  go_wp2_with fail
  refine HP.mono ?_
  rintro e w1 ⟨⟨b, rfl, hb⟩, b1⟩
  rw [← plain_eq t] at hb
  clear HP
  cases b
  · have HF : Hid (LessS t []) := .inr ⟨fun h => (by have := hb.2 h; cases this), rfl⟩
    have hO := OwnN.empty (w := w1) (B := w.heap.size) b1.size
    have hB := b1.alloc b1.size (.cells #[] 34)
    have HO : Hid _ := hO
    have HB : Hid _ := hB
    clear hb hO hB b1
    go_wp2
    go_ret
    exact ⟨_, _, _, [], rfl, HO.out, HF.out, HB.out⟩
  · have HPS : Hid (PlainS t) := hb.1 rfl
    clear hb
    have k1 := Tryz.mk37 w1
    have k2 := Tryz.mk37 (w1.alloc (.map #[] 0))
    have k3 := Tryz.mk38 ((w1.alloc (.map #[] 0)).alloc (.map #[] 0))
    simp only [World.size_alloc] at k2 k3
    have H0 : Hid (LesN ⟨w1.heap.size + 1 + 1 + 1, w1.heap.size, w1.heap.size + 1, w1.heap.size + 1 + 1⟩ t ((((w1.alloc (.map #[] 0)).alloc (.map #[] 0)).alloc (.map #[] 0)).alloc (.cells #[.map (some w1.heap.size), .map (some (w1.heap.size + 1)), .map (some (w1.heap.size + 1 + 1))] 64)) 0 0 0) := LesN.start w1 t
    have HB0 : Hid (Below w.heap.size w ((((w1.alloc (.map #[] 0)).alloc (.map #[] 0)).alloc (.map #[] 0)).alloc (.cells #[.map (some w1.heap.size), .map (some (w1.heap.size + 1)), .map (some (w1.heap.size + 1 + 1))] 64))) := by
      have s0 := b1.size
      have s1 : ∀ (W : World) (o : Obj), (W.alloc o).heap.size = W.heap.size + 1 := fun W o => World.size_alloc W o
      refine (((b1.alloc s0 _).alloc ?_ _).alloc ?_ _).alloc ?_ _
      · rw [s1]; omega
      · rw [s1, s1]; omega
      · rw [s1, s1, s1]; omega
    have hw1 : Hid (w.heap.size ≤ w1.heap.size) := b1.size
    clear b1
    go_wp2
    obtain ⟨z, hz⟩ : ∃ z, w1.heap.size = z := ⟨_, rfl⟩
    rw [hz] at H0 HB0 hw1 ⊢
    have HNB : Hid (∀ k (h : k < t.length), bndK t[k].kind = true ∨ t[k].kind = 70 → 1 ≤ t[k].num) := by
      intro k h hk
      obtain ⟨h0, S, ys, hA, hS⟩ := one_of_raw HPS.out.2.1
      have hT := plain_tree rfl hA HPS.out HT.out (k + 1) k (by omega) h
      have e : treT t (k + 1) k = .mk (ndAt t k) ((kidsRt t k).map (treT t k)) := rfl
      rw [e] at hT
      have h9 := hT.node.numb
      rw [ndAt_get h] at h9
      refine (h9 ?_).1
      rcases hk with hk | hk
      · have := bnd_kinds hk
        omega
      · omega
    generalize ((((w1.alloc (.map #[] 0)).alloc (.map #[] 0)).alloc (.map #[] 0)).alloc (.cells #[.map (some z), .map (some (z + 1)), .map (some (z + 1 + 1))] 64)) = w2 at H0 HB0 ⊢
    clear k1 k2 k3 hz
    go_loopw [17] (fun vi wr => ∃ (k n1 n2 : Nat), k ≤ m ∧ vi = .int .i64 (k : Int) ∧ Hid (LesN ⟨z + 1 + 1 + 1, z, z + 1, z + 1 + 1⟩ t wr k n1 n2 ∧ Below w.heap.size w wr)) (fun vi _ => m - (intOf vi).toNat)
    case atStart => exact ⟨0, 0, 0, Nat.zero_le _, rfl, H0.out, HB0.out⟩
    case round =>
      clear H0 HB0
      obtain ⟨k, n1, n2, hk, rfl, HN⟩ := hrel
      by_cases hlt : k < m
      · have hltx : k < t.length := by have := HM.out; omega
        obtain ⟨hN, hb⟩ := HN.out
        obtain ⟨nd, hnd⟩ : ∃ x, t[k] = x := ⟨_, rfl⟩
        obtain ⟨bb, oo, rfl, hcx⟩ := HX.out.below hb k hltx
        rw [hnd] at hcx
        have hnb := HNB.out k hltx
        have hwf := (HT.out t[k] (List.getElem_mem hltx)).2
        rw [hnd] at hnb hwf
        obtain ⟨kd, nm, tx, kk, pl⟩ := nd
        obtain ⟨c0, c1, c2, c3, c4⟩ := hcx
        simp only at c0 c1 c2 c3 c4 hnb hwf
        have lbb := lt_of_cell c0
        have HND : Hid (t[k] = ⟨kd, nm, tx, kk, pl⟩) := hnd
        have hl6 : t.length ≤ 1048576 := by have := HM.out; omega
        have HU : Hid (∀ W, Below wr.heap.size wr W → LesN ⟨z + 1 + 1 + 1, z, z + 1, z + 1 + 1⟩ t W k n1 n2 ∧ Below w.heap.size w W) := fun W hW => ⟨hN.under hW, Below.step hb hW⟩
        have HSZ : Hid (z + 1 + 1 + 1 < wr.heap.size) := lt_of_cell hN.c0
        clear hN hb hnd HN
        have hbn : Below wr.heap.size wr (wr.alloc (.cells #[.int .i64 kd, .int .i64 nm, .string tx, .int .i64 kk, .int .i64 pl] 34)).drew := ((Below.refl _ _).alloc (Nat.le_refl _) _).drew
        have hbn0 : Below wr.heap.size wr (wr.alloc (.cells #[.int .i64 kd, .int .i64 nm, .string tx, .int .i64 kk, .int .i64 pl] 34)) := ((Below.refl _ _).alloc (Nat.le_refl _) _)
        obtain ⟨hNa, hba⟩ := HU.out _ hbn
        have HN0 : Hid (LesN ⟨z + 1 + 1 + 1, z, z + 1, z + 1 + 1⟩ t (wr.alloc (.cells #[.int .i64 kd, .int .i64 nm, .string tx, .int .i64 kk, .int .i64 pl] 34)) k n1 n2 ∧ Below w.heap.size w (wr.alloc (.cells #[.int .i64 kd, .int .i64 nm, .string tx, .int .i64 kk, .int .i64 pl] 34))) := HU.out _ hbn0
        have dn0 : (wr.alloc (.cells #[.int .i64 kd, .int .i64 nm, .string tx, .int .i64 kk, .int .i64 pl] 34)).drew.cell? ⟨wr.heap.size, 1, none⟩ = some (.int .i64 nm) := by
          rw [cell_of_row _ _ _ _ _ _ (show (wr.alloc (.cells #[.int .i64 kd, .int .i64 nm, .string tx, .int .i64 kk, .int .i64 pl] 34)).drew.heap[wr.heap.size]? = _ from heap_alloc_new _ _)]
          rfl
        clear HU hbn hbn0
        by_cases hbd : bndK kd = true
        · have ht : (kd == 76) = true ∨ ((kd == 76) = false ∧ (kd == 80) = true) ∨ ((kd == 76) = false ∧ (kd == 80) = false ∧ (kd == 82) = true) ∨ ((kd == 76) = false ∧ (kd == 80) = false ∧ (kd == 82) = false ∧ (kd == 90) = true) ∨ ((kd == 76) = false ∧ (kd == 80) = false ∧ (kd == 82) = false ∧ (kd == 90) = false ∧ (kd == 91) = true) := by
            have := bnd_kinds hbd
            simp only [beq_iff_eq, beq_eq_false_iff_ne]
            omega
          rcases ht with t1 | ⟨t1, t2⟩ | ⟨t1, t2, t3⟩ | ⟨t1, t2, t3, t4⟩ | ⟨t1, t2, t3, t4, t5⟩
          all_goals
            have h1 := hnb (.inl hbd)
            obtain ⟨w5, hup, hN5, hb5⟩ := hNa.bound hltx hl6 (by rw [HND.out]; exact hbd) (by rw [HND.out]; exact h1) (by rw [HND.out]; exact hwf)
            rw [HND.out] at hup
            simp only at hup
            have hlook := hNa.mb.cnt.look hwf h1
            have hfl := cntK_le bndK (t.take k) nm
            have hfl2 : (t.take k).length ≤ t.length := by rw [List.length_take]; omega
            simp only at hlook
            generalize cntK bndK (t.take k) nm = f at hup hlook hfl
            have hf : f ≤ 1048576 := by omega
            have hwr : IntKind.i64.wrap ((f : Int) + 1) = (f : Int) + 1 := by rw [IntKind.wrap_i64]; omega
            have HN6 : Hid (LesN ⟨z + 1 + 1 + 1, z, z + 1, z + 1 + 1⟩ t w5 (k + 1) (n1 + 1) (n2) ∧ Below w.heap.size w w5) := ⟨hN5, hba.trans (hb5.below hba.size (fun p hp => by have := hw1.out; rw [hp]; show w.heap.size ≤ z; omega))⟩
            have dl := hNa.c0
            have fl := hN5.c0
            have lz := HSZ.out
            have fn := hb5.cellL dn0 (fun e => (by have e2 : wr.heap.size = z := e; omega))
            simp only at dl fl
            clear hN5 hb5 hfl hfl2 hnb hNa hba HNB HX HT HND
            go_upto_region 13 with fail
            have dn := dn0
            obtain ⟨q, hq⟩ : ∃ q, wr.heap.size = q := ⟨_, rfl⟩
            rw [hq] at dn fn ⊢
            generalize (wr.alloc (.cells #[.int .i64 kd, .int .i64 nm, .string tx, .int .i64 kk, .int .i64 pl] 34)) = W9 at *
            clear dn0 c0 c1 c2 c3 c4
            refine wp_region_held_drew (S := fun W => W.cell? ⟨z + 1 + 1 + 1, 0, none⟩ = some (.map (some (z))) ∧ W.cell? ⟨q, 1, none⟩ = some (.int .i64 nm)) (by kernel_rfl) ⟨dl, dn⟩ (fun hS => ?_)
            refine take_in 0 29 (v := ?_) (oi := _) (ixA rfl) (by rfl) (by kernel_rfl) (by kernel_rfl) (by kernel_rfl) (by exact fun _ _ _ h => h) (Or.inl ⟨by rfl, ?_⟩) hS ?_
            rotate_left
            · intro w' hSw; (try dsimp only at hSw); (go_simp <;> with_reducible rfl)
            simp only [List.setIfInBounds_toArray, List.set_cons_zero, List.set_cons_succ]
            refine take_in 1 30 (v := ?_) (oi := _) (ixA rfl) (by rfl) (by kernel_rfl) (by kernel_rfl) (by kernel_rfl) (by exact fun _ _ _ h => h) (Or.inl ⟨by rfl, ?_⟩) hS ?_
            rotate_left
            · intro w' hSw; (try dsimp only at hSw); (go_simp <;> with_reducible rfl)
            simp only [List.setIfInBounds_toArray, List.set_cons_zero, List.set_cons_succ]
            refine take_in 2 31 (v := ?_) (oi := _) (ixA rfl) (by rfl) (by kernel_rfl) (by kernel_rfl) (by kernel_rfl) (by exact fun _ _ _ h => h) (Or.inl ⟨by rfl, ?_⟩) hS ?_
            rotate_left
            · intro w' hSw; (try dsimp only at hSw); (go_simp <;> with_reducible rfl)
            simp only [List.setIfInBounds_toArray, List.set_cons_zero, List.set_cons_succ]
            refine take_in 3 32 (v := ?_) (oi := _) (ixA rfl) (by rfl) (by kernel_rfl) (by kernel_rfl) (by kernel_rfl) (by exact fun _ _ _ h => h) (Or.inl ⟨by rfl, ?_⟩) hS ?_
            rotate_left
            · intro w' hSw; (try dsimp only at hSw); (go_simp <;> with_reducible rfl)
            simp only [List.setIfInBounds_toArray, List.set_cons_zero, List.set_cons_succ]
            refine take_in 4 33 (v := ?_) (oi := _) (ixA rfl) (by rfl) (by kernel_rfl) (by kernel_rfl) (by kernel_rfl) (by exact fun _ _ _ h => h) (Or.inl ⟨by rfl, ?_⟩) hS ?_
            rotate_left
            · intro w' hSw; (try dsimp only at hSw); (go_simp <;> with_reducible rfl)
            simp only [List.setIfInBounds_toArray, List.set_cons_zero, List.set_cons_succ]
            refine take_in 5 34 (v := ?_) (oi := _) (ixA rfl) (by rfl) (by kernel_rfl) (by kernel_rfl) (by kernel_rfl) (by exact fun _ _ _ h => h) (Or.inl ⟨by rfl, ?_⟩) hS ?_
            rotate_left
            · intro w' hSw; (try dsimp only at hSw); (go_simp <;> with_reducible rfl)
            simp only [List.setIfInBounds_toArray, List.set_cons_zero, List.set_cons_succ]
            refine wpAnyH_ready (rs := [6]) (by kernel_rfl) (by simp) ?_
            refine AllReadyH.cons (o := _) (ixA rfl) (fun K' hK' => ?_) AllReadyH.nil
            rw [if_pos (by rfl)]
            go_simp
            refine hK'.out _ _ (hS) (fun hS => ?_)
            clear hK' K'
            try simp only [Act.put, List.setIfInBounds_toArray, List.set_cons_zero, List.set_cons_succ]
            refine wpAnyH_ready (rs := [7]) (by kernel_rfl) (by simp) ?_
            refine AllReadyH.cons (o := _) (ixA rfl) (fun K' hK' => ?_) AllReadyH.nil
            rw [if_pos (by rfl)]
            go_simp
            refine hK'.out _ _ (hS) (fun hS => ?_)
            clear hK' K'
            try simp only [Act.put, List.setIfInBounds_toArray, List.set_cons_zero, List.set_cons_succ]
            refine wpAnyH_ready (rs := [8]) (by kernel_rfl) (by simp) ?_
            refine AllReadyH.cons (o := _) (ixA rfl) (fun K' hK' => ?_) AllReadyH.nil
            rw [if_pos (by rfl)]
            go_simp
            refine hK'.out _ _ (⟨fl, fn⟩) (fun hS => ?_)
            clear hK' K'
            try simp only [Act.put, List.setIfInBounds_toArray, List.set_cons_zero, List.set_cons_succ]
            refine wpAnyH_done (by kernel_rfl) ?_ _
            clear hS dl dn fl fn hup hlook
            go_wp2
            go_roundw
            case rel => exact ⟨k + 1, n1 + 1, n2, by omega, by go_num, HN6⟩
            case measure => (simp [intOf]) <;> omega
        · have hbd2 : bndK kd = false := by simpa using hbd
          obtain ⟨t1, t2, t3, t4, t5⟩ := bnd_none hbd2
          by_cases h70 : kd = 70
          · have t6 : (kd == 70) = true := by simpa using h70
            have H70 : Hid (kd = 70) := h70
            clear h70 hbd
            have h1 := hnb (.inr H70.out)
            obtain ⟨w5, hup, hN5, hb5⟩ := hNa.used hltx hl6 (by rw [HND.out]; exact H70.out) (by rw [HND.out]; exact h1) (by rw [HND.out]; exact hwf)
            rw [HND.out] at hup
            simp only at hup
            have hlook := hNa.mu.cnt.look hwf h1
            have hfl := cntK_le (· == 70) (t.take k) nm
            have hfl2 : (t.take k).length ≤ t.length := by rw [List.length_take]; omega
            simp only at hlook
            generalize cntK (· == 70) (t.take k) nm = f at hup hlook hfl
            have hf : f ≤ 1048576 := by omega
            have hwr : IntKind.i64.wrap ((f : Int) + 1) = (f : Int) + 1 := by rw [IntKind.wrap_i64]; omega
            have HN6 : Hid (LesN ⟨z + 1 + 1 + 1, z, z + 1, z + 1 + 1⟩ t w5 (k + 1) (n1) (n2 + 1) ∧ Below w.heap.size w w5) := ⟨hN5, hba.trans (hb5.below hba.size (fun p hp => by have := hw1.out; rw [hp]; show w.heap.size ≤ z + 1; omega))⟩
            have dl := hNa.c1
            have fl := hN5.c1
            have lz := HSZ.out
            have fn := hb5.cellL dn0 (fun e => (by have e2 : wr.heap.size = z + 1 := e; omega))
            simp only at dl fl
            clear hN5 hb5 hfl hfl2 hnb hNa hba HNB HX HT HND
            go_upto_region 15 with fail
            have dn := dn0
            obtain ⟨q, hq⟩ : ∃ q, wr.heap.size = q := ⟨_, rfl⟩
            rw [hq] at dn fn ⊢
            generalize (wr.alloc (.cells #[.int .i64 kd, .int .i64 nm, .string tx, .int .i64 kk, .int .i64 pl] 34)) = W9 at *
            clear dn0 c0 c1 c2 c3 c4
            refine wp_region_held_drew (S := fun W => W.cell? ⟨z + 1 + 1 + 1, 1, none⟩ = some (.map (some (z + 1))) ∧ W.cell? ⟨q, 1, none⟩ = some (.int .i64 nm)) (by kernel_rfl) ⟨dl, dn⟩ (fun hS => ?_)
            refine take_in 0 39 (v := ?_) (oi := _) (ixA rfl) (by rfl) (by kernel_rfl) (by kernel_rfl) (by kernel_rfl) (by exact fun _ _ _ h => h) (Or.inl ⟨by rfl, ?_⟩) hS ?_
            rotate_left
            · intro w' hSw; (try dsimp only at hSw); (go_simp <;> with_reducible rfl)
            simp only [List.setIfInBounds_toArray, List.set_cons_zero, List.set_cons_succ]
            refine take_in 1 40 (v := ?_) (oi := _) (ixA rfl) (by rfl) (by kernel_rfl) (by kernel_rfl) (by kernel_rfl) (by exact fun _ _ _ h => h) (Or.inl ⟨by rfl, ?_⟩) hS ?_
            rotate_left
            · intro w' hSw; (try dsimp only at hSw); (go_simp <;> with_reducible rfl)
            simp only [List.setIfInBounds_toArray, List.set_cons_zero, List.set_cons_succ]
            refine take_in 2 41 (v := ?_) (oi := _) (ixA rfl) (by rfl) (by kernel_rfl) (by kernel_rfl) (by kernel_rfl) (by exact fun _ _ _ h => h) (Or.inl ⟨by rfl, ?_⟩) hS ?_
            rotate_left
            · intro w' hSw; (try dsimp only at hSw); (go_simp <;> with_reducible rfl)
            simp only [List.setIfInBounds_toArray, List.set_cons_zero, List.set_cons_succ]
            refine take_in 3 42 (v := ?_) (oi := _) (ixA rfl) (by rfl) (by kernel_rfl) (by kernel_rfl) (by kernel_rfl) (by exact fun _ _ _ h => h) (Or.inl ⟨by rfl, ?_⟩) hS ?_
            rotate_left
            · intro w' hSw; (try dsimp only at hSw); (go_simp <;> with_reducible rfl)
            simp only [List.setIfInBounds_toArray, List.set_cons_zero, List.set_cons_succ]
            refine take_in 4 43 (v := ?_) (oi := _) (ixA rfl) (by rfl) (by kernel_rfl) (by kernel_rfl) (by kernel_rfl) (by exact fun _ _ _ h => h) (Or.inl ⟨by rfl, ?_⟩) hS ?_
            rotate_left
            · intro w' hSw; (try dsimp only at hSw); (go_simp <;> with_reducible rfl)
            simp only [List.setIfInBounds_toArray, List.set_cons_zero, List.set_cons_succ]
            refine take_in 5 44 (v := ?_) (oi := _) (ixA rfl) (by rfl) (by kernel_rfl) (by kernel_rfl) (by kernel_rfl) (by exact fun _ _ _ h => h) (Or.inl ⟨by rfl, ?_⟩) hS ?_
            rotate_left
            · intro w' hSw; (try dsimp only at hSw); (go_simp <;> with_reducible rfl)
            simp only [List.setIfInBounds_toArray, List.set_cons_zero, List.set_cons_succ]
            refine wpAnyH_ready (rs := [6]) (by kernel_rfl) (by simp) ?_
            refine AllReadyH.cons (o := _) (ixA rfl) (fun K' hK' => ?_) AllReadyH.nil
            rw [if_pos (by rfl)]
            go_simp
            refine hK'.out _ _ (hS) (fun hS => ?_)
            clear hK' K'
            try simp only [Act.put, List.setIfInBounds_toArray, List.set_cons_zero, List.set_cons_succ]
            refine wpAnyH_ready (rs := [7]) (by kernel_rfl) (by simp) ?_
            refine AllReadyH.cons (o := _) (ixA rfl) (fun K' hK' => ?_) AllReadyH.nil
            rw [if_pos (by rfl)]
            go_simp
            refine hK'.out _ _ (hS) (fun hS => ?_)
            clear hK' K'
            try simp only [Act.put, List.setIfInBounds_toArray, List.set_cons_zero, List.set_cons_succ]
            refine wpAnyH_ready (rs := [8]) (by kernel_rfl) (by simp) ?_
            refine AllReadyH.cons (o := _) (ixA rfl) (fun K' hK' => ?_) AllReadyH.nil
            rw [if_pos (by rfl)]
            go_simp
            refine hK'.out _ _ (⟨fl, fn⟩) (fun hS => ?_)
            clear hK' K'
            try simp only [Act.put, List.setIfInBounds_toArray, List.set_cons_zero, List.set_cons_succ]
            refine wpAnyH_done (by kernel_rfl) ?_ _
            clear hS dl dn fl fn hup hlook
            go_wp2
            go_roundw
            case rel => exact ⟨k + 1, n1, n2 + 1, by omega, by go_num, HN6⟩
            case measure => (simp [intOf]) <;> omega
          · have t6 : (kd == 70) = false := by simpa using h70
            have HN6 : Hid (LesN ⟨z + 1 + 1 + 1, z, z + 1, z + 1 + 1⟩ t (wr.alloc (.cells #[.int .i64 kd, .int .i64 nm, .string tx, .int .i64 kk, .int .i64 pl] 34)) (k + 1) n1 n2 ∧ Below w.heap.size w (wr.alloc (.cells #[.int .i64 kd, .int .i64 nm, .string tx, .int .i64 kk, .int .i64 pl] 34))) := ⟨HN0.out.1.skip hltx (by rw [HND.out]; exact hbd2) (by rw [HND.out]; exact h70), HN0.out.2⟩
            clear hNa hba dn0 HN0 hnb hbd hbd2 h70
            go_wp2
            go_roundw
            case rel => exact ⟨k + 1, n1, n2, by omega, by go_num, HN6⟩
            case measure => (simp [intOf]) <;> omega
      · obtain rfl : k = m := by omega
        obtain ⟨hN, hb⟩ := HN.out
        have hbd : Below wr.heap.size wr wr.drew := (Below.refl _ _).drew
        have HL0 : Hid (LesN ⟨z + 1 + 1 + 1, z, z + 1, z + 1 + 1⟩ t wr.drew k n1 n2) := hN.under hbd
        have HB0 : Hid (Below w.heap.size w wr.drew) := Below.step hb hbd
        have HSZ : Hid (z + 1 + 1 + 1 < wr.drew.heap.size) := lt_of_cell HL0.out.c0
        have hmk := make_nodes0 k hm
        clear hN hb hbd HN HNB
        go_upto_region 17 with fail
        refine wp_region_held_drew (S := fun _ => True) (by kernel_rfl) trivial (fun hS => ?_)
        refine take_in 0 48 (v := ?_) (oi := _) (ixA rfl) (by rfl) (by kernel_rfl) (by kernel_rfl) (by kernel_rfl) (by exact fun _ _ _ h => h) (Or.inl ⟨by rfl, ?_⟩) hS ?_
        rotate_left
        · intro w' hSw; (try dsimp only at hSw); (go_simp <;> with_reducible rfl)
        simp only [List.setIfInBounds_toArray, List.set_cons_zero, List.set_cons_succ]
        refine take_in 1 49 (v := ?_) (oi := _) (ixA rfl) (by rfl) (by kernel_rfl) (by kernel_rfl) (by kernel_rfl) (by exact fun _ _ _ h => h) (Or.inl ⟨by rfl, ?_⟩) hS ?_
        rotate_left
        · intro w' hSw; (try dsimp only at hSw); (go_simp <;> with_reducible rfl)
        simp only [List.setIfInBounds_toArray, List.set_cons_zero, List.set_cons_succ]
        refine take_in 4 52 (v := ?_) (oi := _) (ixA rfl) (by rfl) (by kernel_rfl) (by kernel_rfl) (by kernel_rfl) (by exact fun _ _ _ h => h) (Or.inl ⟨by rfl, ?_⟩) hS ?_
        rotate_left
        · intro w' hSw; (try dsimp only at hSw); (go_simp <;> with_reducible rfl)
        simp only [List.setIfInBounds_toArray, List.set_cons_zero, List.set_cons_succ]
        refine take_in 5 53 (v := ?_) (oi := _) (ixA rfl) (by rfl) (by kernel_rfl) (by kernel_rfl) (by kernel_rfl) (by exact fun _ _ _ h => h) (Or.inl ⟨by rfl, ?_⟩) hS ?_
        rotate_left
        · intro w' hSw; (try dsimp only at hSw); (go_simp <;> with_reducible rfl)
        simp only [List.setIfInBounds_toArray, List.set_cons_zero, List.set_cons_succ]
        generalize wr.drew = wd at HL0 HB0 HSZ ⊢
        have hm3 : z + 1 + 1 < wd.heap.size := by have := HSZ.out; omega
        have hsw : w.heap.size ≤ wd.heap.size := HB0.out.size
        have HWZ : Hid (w.heap.size ≤ z + 1 + 1) := by have := hw1.out; show _ ≤ _; omega
        have sz : ∀ (W : World) (o : Obj), (W.alloc o).heap.size = W.heap.size + 1 := fun W o => World.size_alloc W o
        have al : ∀ (W : World) (o : Obj), Below W.heap.size W (W.alloc o) := fun W o => (Below.refl _ _).alloc (Nat.le_refl _) o
        have SZ : Hid (∀ (W : World) (o : Obj), (W.alloc o).heap.size = W.heap.size + 1) := sz
        have AL : Hid (∀ (W : World) (o : Obj), Below W.heap.size W (W.alloc o)) := al
        have HX2 : Hid (Nodes wd ao t) := HX.out.below HB0.out
        clear sz al HX
        refine wpAnyH_ready (rs := [2, 6]) (by kernel_rfl) (by simp) ?_
        refine AllReadyH.cons (o := _) (ixA rfl) (fun K' hK' => ?_) (AllReadyH.cons (o := _) (ixA rfl) (fun K' hK' => ?_) AllReadyH.nil)
        · rw [if_pos (by rfl)]
          go_simp
          refine (lesTree t k HM HPS.out HT.out ao cap wd (HX2.out)).mono ?_
          rintro e wa ⟨b1, rfl, hR1, ba⟩
          refine hK'.out _ _ (trivial) (fun hS => ?_)
          clear hK' K'
          try simp only [Act.put, List.setIfInBounds_toArray, List.set_cons_zero, List.set_cons_succ]
          refine wpAnyH_ready (rs := [3, 6]) (by kernel_rfl) (by simp) ?_
          refine AllReadyH.cons (o := _) (ixA rfl) (fun K' hK' => ?_) (AllReadyH.cons (o := _) (ixA rfl) (fun K' hK' => ?_) AllReadyH.nil)
          · rw [if_pos (by rfl)]
            go_simp
            refine (lesWrite t k HM HPS.out HT.out ⟨z + 1 + 1 + 1, z, z + 1, z + 1 + 1⟩ n1 n2 wd HL0.out hm3 wa (ba) (fun q => wd.heap.size ≤ q) b1 (hR1) (fun q h => h) (fun q h => Nat.le_trans ba.size h)).mono ?_
            rintro e wb ⟨b2, rfl, hR2, bb⟩
            refine hK'.out _ _ (trivial) (fun hS => ?_)
            clear hK' K'
            try simp only [Act.put, List.setIfInBounds_toArray, List.set_cons_zero, List.set_cons_succ]
            refine wpAnyH_ready (rs := [6]) (by kernel_rfl) (by simp) ?_
            refine AllReadyH.cons (o := _) (ixA rfl) (fun K' hK' => ?_) AllReadyH.nil
            rw [if_pos (by rfl)]
            go_simp
            refine hK'.out _ _ (trivial) (fun hS => ?_)
            clear hK' K'
            try simp only [Act.put, List.setIfInBounds_toArray, List.set_cons_zero, List.set_cons_succ]
            have hbB : Below w.heap.size w wb := (HB0.out.trans (ba.mono hsw)).trans (bb.below (by have := ba.size; omega) (fun p hp => by rw [hp]; exact HWZ.out))
            have hBz : Below w.heap.size w (wb.alloc (.cells (madeCells #[.int .i64 0, .int .i64 0, .string ByteArray.empty, .int .i64 0, .int .i64 0] (k * 5)) 34)) := Below.step hbB (AL.out _ _)
            have hRz : PRep (wb.alloc (.cells (madeCells #[.int .i64 0, .int .i64 0, .string ByteArray.empty, .int .i64 0, .int .i64 0] (k * 5)) 34)) (fun q => wd.heap.size ≤ q ∧ q < wb.heap.size) (lesT t k) b2 := hR2.but (But.ofBelow (S := fun _ => False) (AL.out _ _)) (fun _ _ h => h) (fun q h1 h2 => ⟨h1, h2⟩)
            have hGz : w.heap.size ≤ wb.heap.size := hbB.size
            have hAz : ¬ (wd.heap.size ≤ wb.heap.size ∧ wb.heap.size < wb.heap.size) := fun h => Nat.lt_irrefl _ h.2
            have hOz := OwnN.made0 (w := wb) (B := 0) (n := k) (Nat.zero_le _) hm
            refine wpAnyH_ready (rs := [7]) (by kernel_rfl) (by simp) ?_
            refine AllReadyH.cons (o := _) (ixA rfl) (fun K' hK' => ?_) AllReadyH.nil
            rw [if_pos (by rfl)]
            go_simp
            refine (lesApp t k HM HPS.out HT.out w (wb.alloc (.cells (madeCells #[.int .i64 0, .int .i64 0, .string ByteArray.empty, .int .i64 0, .int .i64 0] (k * 5)) 34)) hBz (fun q => wd.heap.size ≤ q ∧ q < wb.heap.size) b2 wb.heap.size k hRz hGz hAz hOz).mono ?_
            rintro e wz ⟨gz, cz, lz, rfl, hOf, hBf⟩
            refine hK'.out _ _ (trivial) (fun hS => ?_)
            clear hK' K'
            try simp only [Act.put, List.setIfInBounds_toArray, List.set_cons_zero, List.set_cons_succ]
            have HOF : Hid (OwnN wz w.heap.size gz cz lz (lessL t k)) := hOf
            have HBF : Hid (Below w.heap.size w wz) := hBf
            clear hOf hBf hRz hOz hBz hGz hAz
            refine wpAnyH_ready (rs := [8]) (by kernel_rfl) (by simp) ?_
            refine AllReadyH.cons (o := _) (ixA rfl) (fun K' hK' => ?_) AllReadyH.nil
            rw [if_pos (by rfl)]
            go_simp
            refine hK'.out _ _ (trivial) (fun hS => ?_)
            clear hK' K'
            try simp only [Act.put, List.setIfInBounds_toArray, List.set_cons_zero, List.set_cons_succ]
            refine wpAnyH_done (by kernel_rfl) ?_ _
            go_wp2
            go_ret
            exact ⟨gz, cz, lz, rfl, lessL t k, HOF.out, .inl ⟨HPS.out, by rw [HM.out]⟩, HBF.out⟩
          · rw [if_pos (by rfl)]
            go_simp
            refine hK'.out _ _ (trivial) (fun hS => ?_)
            clear hK' K'
            try simp only [Act.put, List.setIfInBounds_toArray, List.set_cons_zero, List.set_cons_succ]
            have hW : Below wd.heap.size wd (wa.alloc (.cells (madeCells #[.int .i64 0, .int .i64 0, .string ByteArray.empty, .int .i64 0, .int .i64 0] (k * 5)) 34)) := Below.step ba (AL.out _ _)
            have hO := OwnN.made0 (w := wa) (B := 0) (n := k) (Nat.zero_le _) hm
            have hR1 : PRep (wa.alloc (.cells (madeCells #[.int .i64 0, .int .i64 0, .string ByteArray.empty, .int .i64 0, .int .i64 0] (k * 5)) 34)) (fun q => wd.heap.size ≤ q ∧ q ≠ wa.heap.size) (treT t k (k - 1)) b1 := hR1.but (But.ofBelow (S := fun _ => False) (AL.out _ _)) (fun _ _ h => h) (fun q h1 h2 => ⟨h1, Nat.ne_of_lt h2⟩)
            refine wpAnyH_ready (rs := [3]) (by kernel_rfl) (by simp) ?_
            refine AllReadyH.cons (o := _) (ixA rfl) (fun K' hK' => ?_) AllReadyH.nil
            rw [if_pos (by rfl)]
            go_simp
            refine (lesWrite t k HM HPS.out HT.out ⟨z + 1 + 1 + 1, z, z + 1, z + 1 + 1⟩ n1 n2 wd HL0.out hm3 (wa.alloc (.cells (madeCells #[.int .i64 0, .int .i64 0, .string ByteArray.empty, .int .i64 0, .int .i64 0] (k * 5)) 34)) (hW) (fun q => wd.heap.size ≤ q ∧ q ≠ wa.heap.size) b1 (hR1) (fun q h => h.1) (fun q h => (by have := SZ.out wa (.cells (madeCells #[.int .i64 0, .int .i64 0, .string ByteArray.empty, .int .i64 0, .int .i64 0] (k * 5)) 34); have := ba.size; exact ⟨by omega, by omega⟩))).mono ?_
            rintro e wb ⟨b2, rfl, hR2, bb⟩
            refine hK'.out _ _ (trivial) (fun hS => ?_)
            clear hK' K'
            try simp only [Act.put, List.setIfInBounds_toArray, List.set_cons_zero, List.set_cons_succ]
            have hBz : Below w.heap.size w wb := (HB0.out.trans (hW.mono hsw)).trans (bb.below (by have := hW.size; omega) (fun p hp => by rw [hp]; exact HWZ.out))
            have hRz := hR2
            have hGz : w.heap.size ≤ wa.heap.size := by have := ba.size; omega
            have hAz : ¬ (wd.heap.size ≤ wa.heap.size ∧ wa.heap.size ≠ wa.heap.size) := fun h => h.2 rfl
            have hOz := hO.but9 bb (fun e => (by have e2 : wa.heap.size = z + 1 + 1 := e; have := ba.size; omega))
            refine wpAnyH_ready (rs := [7]) (by kernel_rfl) (by simp) ?_
            refine AllReadyH.cons (o := _) (ixA rfl) (fun K' hK' => ?_) AllReadyH.nil
            rw [if_pos (by rfl)]
            go_simp
            refine (lesApp t k HM HPS.out HT.out w wb hBz (fun q => wd.heap.size ≤ q ∧ q ≠ wa.heap.size) b2 wa.heap.size k hRz hGz hAz hOz).mono ?_
            rintro e wz ⟨gz, cz, lz, rfl, hOf, hBf⟩
            refine hK'.out _ _ (trivial) (fun hS => ?_)
            clear hK' K'
            try simp only [Act.put, List.setIfInBounds_toArray, List.set_cons_zero, List.set_cons_succ]
            have HOF : Hid (OwnN wz w.heap.size gz cz lz (lessL t k)) := hOf
            have HBF : Hid (Below w.heap.size w wz) := hBf
            clear hOf hBf hRz hOz hBz hGz hAz
            refine wpAnyH_ready (rs := [8]) (by kernel_rfl) (by simp) ?_
            refine AllReadyH.cons (o := _) (ixA rfl) (fun K' hK' => ?_) AllReadyH.nil
            rw [if_pos (by rfl)]
            go_simp
            refine hK'.out _ _ (trivial) (fun hS => ?_)
            clear hK' K'
            try simp only [Act.put, List.setIfInBounds_toArray, List.set_cons_zero, List.set_cons_succ]
            refine wpAnyH_done (by kernel_rfl) ?_ _
            go_wp2
            go_ret
            exact ⟨gz, cz, lz, rfl, lessL t k, HOF.out, .inl ⟨HPS.out, by rw [HM.out]⟩, HBF.out⟩
        · rw [if_pos (by rfl)]
          go_simp
          refine hK'.out _ _ (trivial) (fun hS => ?_)
          clear hK' K'
          try simp only [Act.put, List.setIfInBounds_toArray, List.set_cons_zero, List.set_cons_succ]
          have hW : Below wd.heap.size wd (wd.alloc (.cells (madeCells #[.int .i64 0, .int .i64 0, .string ByteArray.empty, .int .i64 0, .int .i64 0] (k * 5)) 34)) := AL.out _ _
          have hO := OwnN.made0 (w := wd) (B := 0) (n := k) (Nat.zero_le _) hm
          have hZ := SZ.out wd (.cells (madeCells #[.int .i64 0, .int .i64 0, .string ByteArray.empty, .int .i64 0, .int .i64 0] (k * 5)) 34)
          refine wpAnyH_ready (rs := [2]) (by kernel_rfl) (by simp) ?_
          refine AllReadyH.cons (o := _) (ixA rfl) (fun K' hK' => ?_) AllReadyH.nil
          rw [if_pos (by rfl)]
          go_simp
          refine (lesTree t k HM HPS.out HT.out ao cap (wd.alloc (.cells (madeCells #[.int .i64 0, .int .i64 0, .string ByteArray.empty, .int .i64 0, .int .i64 0] (k * 5)) 34)) (HX2.out.below hW)).mono ?_
          rintro e wa ⟨b1, rfl, hR1, ba⟩
          refine hK'.out _ _ (trivial) (fun hS => ?_)
          clear hK' K'
          try simp only [Act.put, List.setIfInBounds_toArray, List.set_cons_zero, List.set_cons_succ]
          have hW2 : Below wd.heap.size wd wa := Below.step hW ba
          have hsa := ba.size
          refine wpAnyH_ready (rs := [3]) (by kernel_rfl) (by simp) ?_
          refine AllReadyH.cons (o := _) (ixA rfl) (fun K' hK' => ?_) AllReadyH.nil
          rw [if_pos (by rfl)]
          go_simp
          refine (lesWrite t k HM HPS.out HT.out ⟨z + 1 + 1 + 1, z, z + 1, z + 1 + 1⟩ n1 n2 wd HL0.out hm3 wa (hW2) (fun q => (wd.alloc (.cells (madeCells #[.int .i64 0, .int .i64 0, .string ByteArray.empty, .int .i64 0, .int .i64 0] (k * 5)) 34)).heap.size ≤ q) b1 (hR1) (fun q h => (by omega)) (fun q h => Nat.le_trans hsa h)).mono ?_
          rintro e wb ⟨b2, rfl, hR2, bb⟩
          refine hK'.out _ _ (trivial) (fun hS => ?_)
          clear hK' K'
          try simp only [Act.put, List.setIfInBounds_toArray, List.set_cons_zero, List.set_cons_succ]
          have hBz : Below w.heap.size w wb := (HB0.out.trans (hW2.mono hsw)).trans (bb.below (by have := hW2.size; omega) (fun p hp => by rw [hp]; exact HWZ.out))
          have hRz := hR2
          have hGz : w.heap.size ≤ wd.heap.size := hsw
          have hAz : ¬ ((wd.alloc (.cells (madeCells #[.int .i64 0, .int .i64 0, .string ByteArray.empty, .int .i64 0, .int .i64 0] (k * 5)) 34)).heap.size ≤ wd.heap.size) := by omega
          have hOz := (hO.below ba).but9 bb (fun e => (by have e2 : wd.heap.size = z + 1 + 1 := e; omega))
          refine wpAnyH_ready (rs := [7]) (by kernel_rfl) (by simp) ?_
          refine AllReadyH.cons (o := _) (ixA rfl) (fun K' hK' => ?_) AllReadyH.nil
          rw [if_pos (by rfl)]
          go_simp
          refine (lesApp t k HM HPS.out HT.out w wb hBz (fun q => (wd.alloc (.cells (madeCells #[.int .i64 0, .int .i64 0, .string ByteArray.empty, .int .i64 0, .int .i64 0] (k * 5)) 34)).heap.size ≤ q) b2 wd.heap.size k hRz hGz hAz hOz).mono ?_
          rintro e wz ⟨gz, cz, lz, rfl, hOf, hBf⟩
          refine hK'.out _ _ (trivial) (fun hS => ?_)
          clear hK' K'
          try simp only [Act.put, List.setIfInBounds_toArray, List.set_cons_zero, List.set_cons_succ]
          have HOF : Hid (OwnN wz w.heap.size gz cz lz (lessL t k)) := hOf
          have HBF : Hid (Below w.heap.size w wz) := hBf
          clear hOf hBf hRz hOz hBz hGz hAz
          refine wpAnyH_ready (rs := [8]) (by kernel_rfl) (by simp) ?_
          refine AllReadyH.cons (o := _) (ixA rfl) (fun K' hK' => ?_) AllReadyH.nil
          rw [if_pos (by rfl)]
          go_simp
          refine hK'.out _ _ (trivial) (fun hS => ?_)
          clear hK' K'
          try simp only [Act.put, List.setIfInBounds_toArray, List.set_cons_zero, List.set_cons_succ]
          refine wpAnyH_done (by kernel_rfl) ?_ _
          go_wp2
          go_ret
          exact ⟨gz, cz, lz, rfl, lessL t k, HOF.out, .inl ⟨HPS.out, by rw [HM.out]⟩, HBF.out⟩
end Go.Proofs.YtemancdlnakkmaaGreat
