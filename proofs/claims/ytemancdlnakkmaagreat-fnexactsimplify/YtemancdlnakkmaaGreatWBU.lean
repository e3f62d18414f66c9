import Derived.Test.YtemancdlnakkmaaGreatWBT
namespace Go.Proofs.YtemancdlnakkmaaGreat
open Go.RowKit Go.Maps
set_option maxRecDepth 20000 in
set_option maxHeartbeats 4000000 in
theorem fit_walk (R : Ending → World → Prop) (tx nmv : ByteArray) (so : Option Addr) (q sc pb rb c : Nat) (av : Value) (w : World)
    (c0 : w.cell? ⟨pb, 0, none⟩ = some (.int .i64 19)) (c2 : w.cell? ⟨pb, 2, none⟩ = some (.string tx)) (c5 : w.cell? ⟨pb, 5, none⟩ = some (.slice so q sc)) (d0 : w.cell? ⟨c, 0, none⟩ = some (.string nmv)) (d1 : w.cell? ⟨c, 1, none⟩ = some av)
    (hno : (nmv.toList == tx.toList) = false → ∀ m, R (.returned (.bool false)) (w.drewN m))
    (hyes : (nmv.toList == tx.toList) = true → ∀ m, Calls Tryz.prog 119 #[.pointer (some ⟨rb, 0, none⟩), .slice so q sc, av] (w.drewN m) fun e w' => R e w' ∧ (∃ b, e = .returned (.bool b)) ∧ w'.cell? ⟨pb, 2, none⟩ = some (.string tx) ∧ w'.cell? ⟨pb, 5, none⟩ = some (.slice so q sc) ∧ w'.cell? ⟨c, 0, none⟩ = some (.string nmv) ∧ w'.cell? ⟨c, 1, none⟩ = some av) :
    Calls Tryz.prog 106 #[.pointer (some ⟨rb, 0, none⟩), .pointer (some ⟨pb, 0, none⟩), .iface 151 (.pointer (some ⟨c, 0, none⟩))] w fun e w' => R e w' ∧ True := by
  have lb : pb < w.heap.size := lt_of_cell c0
  have lc : c < w.heap.size := lt_of_cell d0
  have ha := Tryz.asCC (.pointer (some ⟨c, 0, none⟩)) w
  cases hteq : (nmv.toList == tx.toList)
  · have HNO : Hid _ := hno hteq
    clear hno hyes
    go_enter Tryz.func106, Tryz.ntmps106
    go_upto_region 18 with fail
    go_quiet (fail)
    go_wp2
    go_ret
    exact ⟨HNO.out nq, trivial⟩
  · have HYES : Hid _ := hyes hteq
    clear hno hyes
    have hS0 : w.cell? ⟨pb, 2, none⟩ = some (.string tx) ∧ w.cell? ⟨pb, 5, none⟩ = some (.slice so q sc) ∧ w.cell? ⟨c, 0, none⟩ = some (.string nmv) ∧ w.cell? ⟨c, 1, none⟩ = some av := ⟨c2, c5, d0, d1⟩
    go_enter Tryz.func106, Tryz.ntmps106
    go_upto_region 18 with fail
    clear c0 c2 c5 d0 d1 ha
    refine wp_region_held_drew (S := fun w' => w'.cell? ⟨pb, 2, none⟩ = some (.string tx) ∧ w'.cell? ⟨pb, 5, none⟩ = some (.slice so q sc) ∧ w'.cell? ⟨c, 0, none⟩ = some (.string nmv) ∧ w'.cell? ⟨c, 1, none⟩ = some av) (by kernel_rfl) hS0 (fun hS => ?_)
    refine take_in 0 111 (v := ?_) (oi := _) (ixA rfl) (by rfl) (by kernel_rfl) (by kernel_rfl) (by kernel_rfl) (by exact fun _ _ _ h => h) (Or.inl ⟨by rfl, ?_⟩) hS ?_
    rotate_left
    · intro w' hSw; (try dsimp only at hSw); (go_simp <;> with_reducible rfl)
    simp only [List.setIfInBounds_toArray, List.set_cons_zero, List.set_cons_succ]
    refine take_in 1 112 (v := ?_) (oi := _) (ixA rfl) (by rfl) (by kernel_rfl) (by kernel_rfl) (by kernel_rfl) (by exact fun _ _ _ h => h) (Or.inl ⟨by rfl, ?_⟩) hS ?_
    rotate_left
    · intro w' hSw; (try dsimp only at hSw); (go_simp <;> with_reducible rfl)
    simp only [List.setIfInBounds_toArray, List.set_cons_zero, List.set_cons_succ]
    refine take_in 2 113 (v := ?_) (oi := _) (ixA rfl) (by rfl) (by kernel_rfl) (by kernel_rfl) (by kernel_rfl) (by exact fun _ _ _ h => h) (Or.inl ⟨by rfl, ?_⟩) hS ?_
    rotate_left
    · intro w' hSw; (try dsimp only at hSw); (go_simp <;> with_reducible rfl)
    simp only [List.setIfInBounds_toArray, List.set_cons_zero, List.set_cons_succ]
    refine take_in 3 114 (v := ?_) (oi := _) (ixA rfl) (by rfl) (by kernel_rfl) (by kernel_rfl) (by kernel_rfl) (by exact fun _ _ _ h => h) (Or.inl ⟨by rfl, ?_⟩) hS ?_
    rotate_left
    · intro w' hSw; (try dsimp only at hSw); (go_simp <;> with_reducible rfl)
    simp only [List.setIfInBounds_toArray, List.set_cons_zero, List.set_cons_succ]
    refine take_in 4 115 (v := ?_) (oi := _) (ixA rfl) (by rfl) (by kernel_rfl) (by kernel_rfl) (by kernel_rfl) (by exact fun _ _ _ h => h) (Or.inl ⟨by rfl, ?_⟩) hS ?_
    rotate_left
    · intro w' hSw; (try dsimp only at hSw); (go_simp <;> with_reducible rfl)
    simp only [List.setIfInBounds_toArray, List.set_cons_zero, List.set_cons_succ]
    refine take_in 5 116 (v := ?_) (oi := _) (ixA rfl) (by rfl) (by kernel_rfl) (by kernel_rfl) (by kernel_rfl) (by exact fun _ _ _ h => h) (Or.inl ⟨by rfl, ?_⟩) hS ?_
    rotate_left
    · intro w' hSw; (try dsimp only at hSw); (go_simp <;> with_reducible rfl)
    simp only [List.setIfInBounds_toArray, List.set_cons_zero, List.set_cons_succ]
    refine take_in 6 117 (v := ?_) (oi := _) (ixA rfl) (by rfl) (by kernel_rfl) (by kernel_rfl) (by kernel_rfl) (by exact fun _ _ _ h => h) (Or.inl ⟨by rfl, ?_⟩) hS ?_
    rotate_left
    · intro w' hSw; (try dsimp only at hSw); (go_simp <;> with_reducible rfl)
    simp only [List.setIfInBounds_toArray, List.set_cons_zero, List.set_cons_succ]
    refine take_in 7 118 (v := ?_) (oi := _) (ixA rfl) (by rfl) (by kernel_rfl) (by kernel_rfl) (by kernel_rfl) (by exact fun _ _ _ h => h) (Or.inl ⟨by rfl, ?_⟩) hS ?_
    rotate_left
    · intro w' hSw; (try dsimp only at hSw); (go_simp <;> with_reducible rfl)
    simp only [List.setIfInBounds_toArray, List.set_cons_zero, List.set_cons_succ]
    refine take_in 8 119 (v := ?_) (oi := _) (ixA rfl) (by rfl) (by kernel_rfl) (by kernel_rfl) (by kernel_rfl) (by exact fun _ _ _ h => h) (Or.inl ⟨by rfl, ?_⟩) hS ?_
    rotate_left
    · intro w' hSw; (try dsimp only at hSw); (go_simp <;> with_reducible rfl)
    simp only [List.setIfInBounds_toArray, List.set_cons_zero, List.set_cons_succ]
    refine take_in 9 120 (v := ?_) (oi := _) (ixA rfl) (by rfl) (by kernel_rfl) (by kernel_rfl) (by kernel_rfl) (by exact fun _ _ _ h => h) (Or.inl ⟨by rfl, ?_⟩) hS ?_
    rotate_left
    · intro w' hSw; (try dsimp only at hSw); (go_simp <;> with_reducible rfl)
    simp only [List.setIfInBounds_toArray, List.set_cons_zero, List.set_cons_succ]
    refine take_in 10 121 (v := ?_) (oi := _) (ixA rfl) (by rfl) (by kernel_rfl) (by kernel_rfl) (by kernel_rfl) (by exact fun _ _ _ h => h) (Or.inl ⟨by rfl, ?_⟩) hS ?_
    rotate_left
    · intro w' hSw; (try dsimp only at hSw); (go_simp <;> with_reducible rfl)
    simp only [List.setIfInBounds_toArray, List.set_cons_zero, List.set_cons_succ]
    refine take_in 11 122 (v := ?_) (oi := _) (ixA rfl) (by rfl) (by kernel_rfl) (by kernel_rfl) (by kernel_rfl) (by exact fun _ _ _ h => h) (Or.inl ⟨by rfl, ?_⟩) hS ?_
    rotate_left
    · intro w' hSw; (try dsimp only at hSw); (go_simp <;> with_reducible rfl)
    simp only [List.setIfInBounds_toArray, List.set_cons_zero, List.set_cons_succ]
    refine take_in 12 123 (v := ?_) (oi := _) (ixA rfl) (by rfl) (by kernel_rfl) (by kernel_rfl) (by kernel_rfl) (by exact fun _ _ _ h => h) (Or.inl ⟨by rfl, ?_⟩) hS ?_
    rotate_left
    · intro w' hSw; (try dsimp only at hSw); (go_simp <;> with_reducible rfl)
    simp only [List.setIfInBounds_toArray, List.set_cons_zero, List.set_cons_succ]
    refine take_in 13 124 (v := ?_) (oi := _) (ixA rfl) (by rfl) (by kernel_rfl) (by kernel_rfl) (by kernel_rfl) (by exact fun _ _ _ h => h) (Or.inl ⟨by rfl, ?_⟩) hS ?_
    rotate_left
    · intro w' hSw; (try dsimp only at hSw); (go_simp <;> with_reducible rfl)
    simp only [List.setIfInBounds_toArray, List.set_cons_zero, List.set_cons_succ]
    refine take_in 14 125 (v := ?_) (oi := _) (ixA rfl) (by rfl) (by kernel_rfl) (by kernel_rfl) (by kernel_rfl) (by exact fun _ _ _ h => h) (Or.inl ⟨by rfl, ?_⟩) hS ?_
    rotate_left
    · intro w' hSw; (try dsimp only at hSw); (go_simp <;> with_reducible rfl)
    simp only [List.setIfInBounds_toArray, List.set_cons_zero, List.set_cons_succ]
    refine take_in 15 126 (v := ?_) (oi := _) (ixA rfl) (by rfl) (by kernel_rfl) (by kernel_rfl) (by kernel_rfl) (by exact fun _ _ _ h => h) (Or.inl ⟨by rfl, ?_⟩) hS ?_
    rotate_left
    · intro w' hSw; (try dsimp only at hSw); (go_simp <;> with_reducible rfl)
    simp only [List.setIfInBounds_toArray, List.set_cons_zero, List.set_cons_succ]
    refine take_in 16 127 (v := ?_) (oi := _) (ixA rfl) (by rfl) (by kernel_rfl) (by kernel_rfl) (by kernel_rfl) (by exact fun _ _ _ h => h) (Or.inl ⟨by rfl, ?_⟩) hS ?_
    rotate_left
    · intro w' hSw; (try dsimp only at hSw); (go_simp <;> with_reducible rfl)
    simp only [List.setIfInBounds_toArray, List.set_cons_zero, List.set_cons_succ]
    refine take_in 17 128 (v := ?_) (oi := _) (ixA rfl) (by rfl) (by kernel_rfl) (by kernel_rfl) (by kernel_rfl) (by exact fun _ _ _ h => h) (Or.inl ⟨by rfl, ?_⟩) hS ?_
    rotate_left
    · intro w' hSw; (try dsimp only at hSw); (go_simp <;> with_reducible rfl)
    simp only [List.setIfInBounds_toArray, List.set_cons_zero, List.set_cons_succ]
    refine take_in 18 129 (v := ?_) (oi := _) (ixA rfl) (by rfl) (by kernel_rfl) (by kernel_rfl) (by kernel_rfl) (by exact fun _ _ _ h => h) (Or.inl ⟨by rfl, ?_⟩) hS ?_
    rotate_left
    · intro w' hSw; (try dsimp only at hSw); (go_simp <;> with_reducible rfl)
    simp only [List.setIfInBounds_toArray, List.set_cons_zero, List.set_cons_succ]
    refine take_in 19 130 (v := ?_) (oi := _) (ixA rfl) (by rfl) (by kernel_rfl) (by kernel_rfl) (by kernel_rfl) (by exact fun _ _ _ h => h) (Or.inl ⟨by rfl, ?_⟩) hS ?_
    rotate_left
    · intro w' hSw; (try dsimp only at hSw); (go_simp <;> with_reducible rfl)
    simp only [List.setIfInBounds_toArray, List.set_cons_zero, List.set_cons_succ]
    refine take_in 20 131 (v := ?_) (oi := _) (ixA rfl) (by rfl) (by kernel_rfl) (by kernel_rfl) (by kernel_rfl) (by exact fun _ _ _ h => h) (Or.inl ⟨by rfl, ?_⟩) hS ?_
    rotate_left
    · intro w' hSw; (try dsimp only at hSw); (go_simp <;> with_reducible rfl)
    simp only [List.setIfInBounds_toArray, List.set_cons_zero, List.set_cons_succ]
    refine take_in 21 132 (v := ?_) (oi := _) (ixA rfl) (by rfl) (by kernel_rfl) (by kernel_rfl) (by kernel_rfl) (by exact fun _ _ _ h => h) (Or.inl ⟨by rfl, ?_⟩) hS ?_
    rotate_left
    · intro w' hSw; (try dsimp only at hSw); (go_simp <;> with_reducible rfl)
    simp only [List.setIfInBounds_toArray, List.set_cons_zero, List.set_cons_succ]
    refine take_in 22 133 (v := ?_) (oi := _) (ixA rfl) (by rfl) (by kernel_rfl) (by kernel_rfl) (by kernel_rfl) (by exact fun _ _ _ h => h) (Or.inl ⟨by rfl, ?_⟩) hS ?_
    rotate_left
    · intro w' hSw; (try dsimp only at hSw); (go_simp <;> with_reducible rfl)
    simp only [List.setIfInBounds_toArray, List.set_cons_zero, List.set_cons_succ]
    refine wpAnyH_ready (rs := [23]) (by kernel_rfl) (by simp) ?_
    refine AllReadyH.cons (o := _) (ixA rfl) (fun K' hK' => ?_) AllReadyH.nil
    rw [if_pos (by rfl)]
    go_simp
    refine (HYES.out 1).mono ?_
    rintro e w3 ⟨h3, ⟨b9, rfl⟩, hS3⟩
    refine hK'.out _ _ (hS3) (fun hS => ?_)
    clear hK' K'
    try simp only [Act.put, List.setIfInBounds_toArray, List.set_cons_zero, List.set_cons_succ]
    refine take_in 24 135 (v := ?_) (oi := _) (ixA rfl) (by rfl) (by kernel_rfl) (by kernel_rfl) (by kernel_rfl) (by exact fun _ _ _ h => h) (Or.inl ⟨by rfl, ?_⟩) hS ?_
    rotate_left
    · intro w' hSw; (try dsimp only at hSw); (go_simp <;> with_reducible rfl)
    simp only [List.setIfInBounds_toArray, List.set_cons_zero, List.set_cons_succ]
    refine take_in 25 6 (v := ?_) (oi := _) (ixA rfl) (by rfl) (by kernel_rfl) (by kernel_rfl) (by kernel_rfl) (by exact fun _ _ _ h => h) (Or.inl ⟨by rfl, ?_⟩) hS ?_
    rotate_left
    · intro w' hSw; (try dsimp only at hSw); (go_simp <;> with_reducible rfl)
    simp only [List.setIfInBounds_toArray, List.set_cons_zero, List.set_cons_succ]
    refine wpAnyH_done (by kernel_rfl) ?_ _
    have HV3 : Hid _ := h3
    clear hS HYES h3 hS0
    go_wp2
    go_ret
    exact ⟨HV3.out, trivial⟩
set_option maxRecDepth 20000 in
set_option maxHeartbeats 4000000 in
theorem fit_con (n : Nd) (ks : List Tre) (V : Tre) (pb rb B k : Nat) (v : Value) (w : World) (hk : n.kind = 19) (hP : PlT (.mk n ks)) (ih : ∀ p ∈ ks, FitC B rb p) (hR : PRep w (fun p => p < B) (.mk n ks) pb) (hV : VRep w (fun p => p < B) V v) (hN : NmS w rb B k) (hs : k + szT (.mk n ks) ≤ 1000000000) :
    Calls Tryz.prog 106 #[.pointer (some ⟨rb, 0, none⟩), .pointer (some ⟨pb, 0, none⟩), v] w fun e w' => FitR B rb k (.mk n ks) V w e w' := by
  have hsz := szT_eq n ks
  obtain ⟨hpB, so, sc, hblk, hK⟩ := hR.opened
  obtain ⟨c0, -, c2, -, -, c5⟩ := nine hblk
  have lb : pb < w.heap.size := lt_of_cell c0
  have hbr := Below.refl B w
  have hbq := fun m => (quietB w m)
  have hBw : B ≤ w.heap.size := by have h1 := hN.1; obtain ⟨-, s, xs, hrb, -⟩ := hN; have := (Array.getElem?_eq_some_iff.1 hrb).1; omega
  have hbq2 : ∀ m, Below B w (w.drewN m) := fun m => (quietB w m).mono hBw
  rw [hk] at c0
  have hcon := hP.sh.node.con hk
  cases hV using VRep.inv with
  | int m vs h =>
    have HF2 : Hid (fitsT (.mk n ks) (.mk m vs) = false) := by show _ = _; rw [fitsT_eq]; rcases hcon with rfl | ⟨p, rfl, -⟩ <;> simp [fitsStep, hk, Tre.nd, h]
    have ha := Tryz.asIC (.int .i64 m.num) w
    have HNS : Hid (NmS w rb B k) := hN
    clear hP ih hR hN hblk hK hsz hs hcon c2 c5
    go_enter Tryz.func106, Tryz.ntmps106
    go_wp2_with fail
    go_quiet (fail)
    go_wp2
    go_ret
    exact FitR.same HF2.out (HNS.out.drew nq) (hbq2 nq) (fun h => by cases h)
  | str m vs h =>
    have HF2 : Hid (fitsT (.mk n ks) (.mk m vs) = false) := by show _ = _; rw [fitsT_eq]; rcases hcon with rfl | ⟨p, rfl, -⟩ <;> simp [fitsStep, hk, Tre.nd, h]
    have ha := Tryz.asSC (.string m.text) w
    have HNS : Hid (NmS w rb B k) := hN
    clear hP ih hR hN hblk hK hsz hs hcon c2 c5
    go_enter Tryz.func106, Tryz.ntmps106
    go_wp2_with fail
    go_quiet (fail)
    go_wp2
    go_ret
    exact FitR.same HF2.out (HNS.out.drew nq) (hbq2 nq) (fun h => by cases h)
  | tup m vs h g us hA lt small cells kids =>
    have HF2 : Hid (fitsT (.mk n ks) (.mk m vs) = false) := by show _ = _; rw [fitsT_eq]; rcases hcon with rfl | ⟨p, rfl, -⟩ <;> simp [fitsStep, hk, Tre.nd, h]
    have ha := Tryz.asTC (.slice (some ⟨g, 0, none⟩) vs.length vs.length) w
    have HNS : Hid (NmS w rb B k) := hN
    clear hP ih hR hN hblk hK hsz hs hcon c2 c5 cells kids
    go_enter Tryz.func106, Tryz.ntmps106
    go_wp2_with fail
    go_quiet (fail)
    go_wp2
    go_ret
    exact FitR.same HF2.out (HNS.out.drew nq) (hbq2 nq) (fun h => by cases h)
  | con m vs h c hA blk =>
    have d0 : w.cell? ⟨c, 0, none⟩ = some (.string m.text) := by rw [cell_of_row _ _ _ _ _ _ blk]; rfl
    have d1 : w.cell? ⟨c, 1, none⟩ = some .nilIface := by rw [cell_of_row _ _ _ _ _ _ blk]; rfl
    refine (fit_walk (fun e w' => FitR B rb k (.mk n ks) (.mk m vs) w e w') n.text m.text so ks.length sc pb rb c .nilIface w c0 c2 c5 d0 d1 (fun hf m9 => ?_) (fun hf m9 => ?_)).mono (fun e w' h => h.1)
    · refine FitR.same ?_ (hN.drew m9) (hbq2 m9) (fun h => by cases h)
      rw [fitsT_eq]
      rcases hcon with rfl | ⟨p, rfl, -⟩
      · simp only [fitsStep, hk, Tre.nd, h]
        simpa using hf
      · simp [fitsStep, hk, Tre.nd, h]
    · refine (fitArg_nil rb ks.length sc so (w.drewN m9)).mono ?_
      rintro e w' ⟨rfl, rfl⟩
      refine ⟨FitR.same ?_ (hN.drew m9) (hbq2 m9) (fun h => ?_), ⟨_, rfl⟩, c2, c5, d0, d1⟩
      · rw [fitsT_eq]
        rcases hcon with rfl | ⟨p, rfl, -⟩
        · simp only [fitsStep, hk, Tre.nd, h]
          simpa using hf
        · simp [fitsStep, hk, Tre.nd, h]
      · rcases hcon with rfl | ⟨p, rfl, -⟩
        · exact bind0L (by omega)
        · simp at h
  | app m x y h c t u hA blk hv =>
    obtain ⟨nx, kx⟩ := x
    simp only [Tre.nd] at blk
    have d0 : w.cell? ⟨c, 0, none⟩ = some (.string nx.text) := by rw [cell_of_row _ _ _ _ _ _ blk]; rfl
    have d1 : w.cell? ⟨c, 1, none⟩ = some (.iface t u) := by rw [cell_of_row _ _ _ _ _ _ blk]; rfl
    refine (fit_walk (fun e w' => FitR B rb k (.mk n ks) (.mk m [.mk nx kx, y]) w e w') n.text nx.text so ks.length sc pb rb c (.iface t u) w c0 c2 c5 d0 d1 (fun hf m9 => ?_) (fun hf m9 => ?_)).mono (fun e w' h => h.1)
    · refine FitR.same ?_ (hN.drew m9) (hbq2 m9) (fun h => by cases h)
      rw [fitsT_eq]
      rcases hcon with rfl | ⟨p, rfl, -⟩
      · simp [fitsStep, hk, Tre.nd, h]
      · simp only [fitsStep, hk, Tre.nd, Tre.ks, h]
        simp
        intro h9
        rw [h9] at hf
        simp at hf
    · rcases hcon with rfl | ⟨p, rfl, hp⟩
      · refine (fitArg_none rb sc so t u (w.drewN m9)).mono ?_
        rintro e w' ⟨rfl, rfl⟩
        refine ⟨FitR.same ?_ (hN.drew m9) (hbq2 m9) (fun h => by cases h), ⟨_, rfl⟩, c2, c5, d0, d1⟩
        rw [fitsT_eq]
        simp [fitsStep, hk, Tre.nd, h]
      · obtain ⟨-, -, -, bs, h4⟩ := hK
        obtain ⟨g, hso, hgB, e0, hr0⟩ := h4 0 (by simp)
        simp only at hso
        subst hso
        simp only [List.getElem_cons_zero] at hr0
        have hsz1 : szT (.mk n [p]) = szT p + 1 := by rw [hsz]; simp
        refine (fitArg_some p y rb B k sc g (bs 0) t u (w.drewN m9) e0 (ih p (by simp) y (bs 0) k (.iface t u) (w.drewN m9) (hP.kid p (by simp)) hp (hr0.low (hbq2 m9)) (hv.low (hbq2 m9)) (hN.drew m9) (by omega))).mono ?_
        intro e w' hf3
        have hBl : Below B w w' := by
          obtain ⟨k', -, -, h3, -⟩ := hf3
          exact (hbq2 m9).trans h3
        have hF : fitsT (.mk n [p]) (.mk m [.mk nx kx, y]) = fitsT p y := by
          rw [fitsT_eq]
          simp only [fitsStep, hk, Tre.nd, Tre.ks, h]
          simp
          intro _
          simpa using hf
        have hBd : bindsT (.mk n [p]) = bindsT p := by rw [bindsT_eq]; simp [hk]
        obtain ⟨k', r1, r2, r3, r4, r5⟩ := hf3
        refine ⟨⟨k', by rw [hF]; exact r1, r2, hBl, by omega, fun hh => ?_⟩, ⟨_, r1⟩, bcL hBl hpB c2, bcL hBl hpB c5, bcL hBl hA d0, bcL hBl hA d1⟩
        rw [hF] at hh
        rw [hBd]
        exact r5 hh
theorem fits_any (B rb : Nat) (T : Tre) : FitC B rb T := by
  refine Tre.ind (p := FitC B rb) ?_ T
  intro n ks ih V pb k v w hP hpat hR hV hN hs
  have hkinds : n.kind = 15 ∨ n.kind = 17 ∨ n.kind = 18 ∨ n.kind = 20 ∨ n.kind = 19 ∨ n.kind = 90 ∨ n.kind = 91 := by
    simp [patK, Tre.nd] at hpat
    omega
  rcases hkinds with e | e | e | e | e | e | e
  · exact fit_wild n ks V pb rb B k v w e hP hR hN
  · exact fit_int n ks V pb rb B k v w e hP hR hV hN
  · exact fit_str n ks V pb rb B k v w e hP hR hV hN
  · exact fit_tup n ks V pb rb B k v w e hP ih hR hV hN hs
  · exact fit_con n ks V pb rb B k v w e hP ih hR hV hN hs
  · exact fit_var n ks V pb rb B k v w e hP hR hV hN hs
  · exact fit_as n ks V pb rb B k v w e hP ih hR hV hN hs
def choT : Tre → Option Tre
  | .mk n ks =>
    if n.kind = 83 then (match ks with
      | v :: rs => if knT v then chooseT v rs else none
      | _ => none)
    else none
structure RulS (w : World) (A : Nat → Prop) (V : Tre) (rs : List Tre) (j br gr sr b1 b2 : Nat) (p c : Tre) : Prop where
  cr : w.cell? ⟨br, 5, none⟩ = some (.slice (some ⟨gr, 0, none⟩) 2 sr)
  c1 : w.cell? ⟨gr, 0, none⟩ = some (.pointer (some ⟨b1, 0, none⟩))
  c2 : w.cell? ⟨gr, 1, none⟩ = some (.pointer (some ⟨b2, 0, none⟩))
  r1 : PRep w A p b1
  r2 : PRep w A c b2
  pl : PlT p
  pat : patK p.nd = true
  sz : szT p ≤ 1000000000
  yes : fitsT p V = true → p.nd.kind = 90 → chooseT V (rs.drop j) = some (mkT ⟨80, p.nd.num, ⟨#[]⟩, 0, 0⟩ [V, c])
  yes0 : fitsT p V = true → p.nd.kind ≠ 90 → bindsT p = false → chooseT V (rs.drop j) = some c
  yes1 : fitsT p V = true → p.nd.kind ≠ 90 → bindsT p = true → chooseT V (rs.drop j) = none
  no : fitsT p V = false → chooseT V (rs.drop j) = chooseT V (rs.drop (j + 1))
theorem szT_kid {n : Nd} {ks : List Tre} {k : Tre} (h : k ∈ ks) : szT k + 1 ≤ szT (.mk n ks) := by
  rw [szT_eq]
  have : szT k ≤ (ks.map szT).sum := by
    induction ks with
    | nil => cases h
    | cons a l9 ih =>
      simp only [List.map_cons, List.sum_cons]
      rcases List.mem_cons.1 h with rfl | h
      · omega
      · have := ih h
        omega
  omega
theorem rulS_of {w : World} {A : Nat → Prop} {V : Tre} {rs : List Tre} {j br : Nat} (hj : j < rs.length) (hP : PlT rs[j]) (hk : rs[j].nd.kind = 84) (hs : szT rs[j] ≤ 1000000000) (hR : PRep w A rs[j] br) : ∃ gr sr b1 b2 p c, RulS w A V rs j br gr sr b1 b2 p c := by
  have hdrop := List.drop_eq_getElem_cons hj
  generalize rs[j] = R at hP hk hs hR hdrop
  obtain ⟨n, ks⟩ := R
  obtain ⟨p, c, rfl, hpp, -⟩ := hP.node.rul hk
  obtain ⟨-, so, sr, hblk, hK⟩ := hR.opened
  obtain ⟨-, -, -, -, -, c5⟩ := nine hblk
  obtain ⟨-, -, -, bs, h4⟩ := hK
  obtain ⟨g, hso, -, e0, hr0⟩ := h4 0 (by simp)
  obtain ⟨g', hso', -, e1, hr1⟩ := h4 1 (by simp)
  simp only at hso hso'
  rw [hso] at hso'
  simp only [Option.some.injEq, Addr.mk.injEq, and_true] at hso'
  subst hso'
  subst hso
  simp only [List.getElem_cons_zero, List.getElem_cons_succ] at hr0 hr1
  have hsz := szT_kid (n := n) (ks := [p, c]) (k := p) (by simp)
  refine ⟨g, sr, bs 0, bs 1, p, c, c5, e0, e1, hr0, hr1, hP.kid p (by simp), by rw [patK_pPat]; exact hpp, by omega, ?_, ?_, ?_, ?_⟩
  · intro hf h9
    have hb : bindsT p = true := by obtain ⟨np, kp⟩ := p; rw [bindsT_eq]; simp only [Tre.nd] at h9; simp [h9]
    rw [hdrop, chooseT]
    simp [Tre.ks, hf, hb, h9]
  · intro hf h9 hb
    rw [hdrop, chooseT]
    simp [Tre.ks, hf, hb]
  · intro hf h9 hb
    rw [hdrop, chooseT]
    simp [Tre.ks, hf, hb, h9]
  · intro hf
    rw [hdrop, chooseT]
    simp [Tre.ks, hf]
set_option maxRecDepth 20000 in
set_option maxHeartbeats 4000000 in
theorem choose_no (lp : Value) (n : Nd) (ks : List Tre) (b : Nat) (A : Nat → Prop) (w : World) (hP : PlT (.mk n ks)) (hR : PRep w A (.mk n ks) b) (hno : ∀ v rs, n.kind = 83 → ks = v :: rs → knT v = false) :
    Calls Tryz.prog 87 #[lp, .pointer (some ⟨b, 0, none⟩)] w fun e w' => OptP w A (choT (.mk n ks)) e w' := by
  obtain ⟨-, so, sc, hblk, hK⟩ := hR.opened
  obtain ⟨c0, -, -, -, -, c5⟩ := nine hblk
  have lb : b < w.heap.size := lt_of_cell c0
  have hbr := Below.refl w.heap.size w
  by_cases h8 : n.kind = 83
  rotate_left
  · have HV : Hid (choT (.mk n ks) = none) := by show _ = _; unfold choT; dsimp only; rw [if_neg h8]
    obtain ⟨kd, nm, tx, kk, pl⟩ := n
    simp only at c0 c5 h8
    have t8 : (kd != 83) = true := by simpa using h8
    rw [HV.out]
    clear hR hblk h8 hK c5 hP HV hno
    go_enter Tryz.func87, Tryz.ntmps87
    go_wp2
    go_ret
    exact ⟨hbr, rfl⟩
  obtain ⟨x, rs, rfl, -, -⟩ := hP.node.cas h8
  have hkn := hno x rs h8 rfl
  have HV : Hid (choT (.mk n (x :: rs)) = none) := by show _ = _; unfold choT; dsimp only; rw [if_pos h8, hkn]; rfl
  rw [HV.out]
  obtain ⟨kd, nm, tx, kk, pl⟩ := n
  simp only at c0 c5 h8
  subst h8
  obtain ⟨-, -, -, bs, h4⟩ := hK
  obtain ⟨g, hso, -, e0, hr0⟩ := h4 0 (by simp)
  simp only at hso
  subst hso
  simp only [List.getElem_cons_zero] at hr0
  have hcl := knownP_any x (bs 0) A w (hP.kid x (by simp)) hr0
  rw [hkn] at hcl
  generalize bs 0 = b0 at e0 hr0 hcl
  have lg : g < w.heap.size := lt_of_cell e0
  obtain ⟨q, hq⟩ : ∃ q, (x :: rs).length = q := ⟨_, rfl⟩
  rw [hq] at c5
  have hq1 : 0 < q := by rw [← hq]; simp
  clear hR hblk h4 hP HV hno hkn hr0 hq
  go_enter Tryz.func87, Tryz.ntmps87
  go_wp2_with fail
  refine hcl.mono ?_
  rintro e w1 ⟨rfl, hb1⟩
  clear hcl c0 c5 e0
  go_wp2
  go_ret
  exact ⟨hb1, rfl⟩
end Go.Proofs.YtemancdlnakkmaaGreat
