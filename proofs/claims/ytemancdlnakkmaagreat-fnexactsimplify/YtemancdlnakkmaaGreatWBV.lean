import Derived.Test.YtemancdlnakkmaaGreatWBU
import Derived.Laws.EntriesVeiled
import Derived.Defers
namespace Go.Proofs.YtemancdlnakkmaaGreat
open Go.RowKit Go.Maps
theorem NmS.fresh (w : World) : NmS (w.alloc (.cells #[.pointer none, .int .i64 0, .int .i64 0, .slice none 0 0] 139)) w.heap.size w.heap.size 0 :=
  ⟨Nat.le_refl _, _, [], heap_alloc_new _ _, rfl, Or.inl ⟨rfl, rfl⟩⟩
theorem NmS.clear {w : World} {rb B k : Nat} (h : NmS w rb B k) : NmS (w.setCell ⟨rb, 3, none⟩ (.slice none 0 0)) rb B 0 := by
  obtain ⟨hB, v, xs, hb, -⟩ := h
  exact ⟨hB, _, [], heap_setCell_same _ _ _ _ _ _ hb, rfl, Or.inl ⟨rfl, rfl⟩⟩
set_option maxRecDepth 20000 in
set_option maxHeartbeats 4000000 in
theorem choose_yes (lp : Value) (n : Nd) (x : Tre) (rs : List Tre) (b : Nat) (A : Nat → Prop) (w : World) (hA : ∀ q, w.heap.size ≤ q → A q) (h8 : n.kind = 83) (hP : PlT (.mk n (x :: rs))) (hR : PRep w A (.mk n (x :: rs)) b) (hkn : knT x = true) (hs : szT (.mk n (x :: rs)) ≤ 1000000000) :
    Calls Tryz.prog 87 #[lp, .pointer (some ⟨b, 0, none⟩)] w fun e w' => OptP w A (choT (.mk n (x :: rs))) e w' := by
  obtain ⟨-, so, sc, hblk, hK⟩ := hR.opened
  obtain ⟨c0, -, -, -, -, c5⟩ := nine hblk
  have lb : b < w.heap.size := lt_of_cell c0
  have hbr := Below.refl w.heap.size w
  have h84 : ∀ r ∈ rs, r.nd.kind = 84 := by
    obtain ⟨v9, rs9, e9, -, h9⟩ := hP.node.cas h8
    simp only [List.cons.injEq] at e9
    obtain ⟨-, rfl⟩ := e9
    exact h9
  have HV : Hid (choT (.mk n (x :: rs)) = chooseT x (rs.drop 0)) := by show _ = _; unfold choT; dsimp only; rw [if_pos h8, hkn]; rfl
  rw [HV.out]
  obtain ⟨-, h2, h3, bs, h4⟩ := hK
  obtain ⟨g, hso, hgA, e0, hr0⟩ := h4 0 (by simp)
  simp only at hso h2 h3
  subst hso
  simp only [List.getElem_cons_zero] at hr0
  have px := hP.kid x (by simp)
  have hcl := knownP_any x (bs 0) A w px hr0
  rw [hkn] at hcl
  have HKV : Hid (∀ W, Below w.heap.size w W → Calls Tryz.prog 105 #[.pointer (some ⟨bs 0, 0, none⟩)] W fun e w' => ∃ v, e = .returned v ∧ VRep w' (fun _ => True) x v ∧ Below W.heap.size W w') := fun W hW => knownV_any x (bs 0) A (fun _ => True) W px hkn (hr0.under hW) (fun _ _ => trivial)
  obtain ⟨q, hq⟩ : ∃ q, rs.length = q := ⟨_, rfl⟩
  have lg : g < w.heap.size := lt_of_cell e0
  have HRU : Hid (∀ j, j < q → w.cell? ⟨g, 1 + j, none⟩ = some (.pointer (some ⟨bs (1 + j), 0, none⟩)) ∧ ∃ gr sr b1 b2 p c, RulS w A x rs j (bs (1 + j)) gr sr b1 b2 p c) := by
    intro j hj
    have hj9 : j < rs.length := by omega
    obtain ⟨g', hso', -, e1, hr1⟩ := h4 (1 + j) (by simp; omega)
    simp only [Option.some.injEq, Addr.mk.injEq, and_true] at hso'
    subst hso'
    have e9 : (x :: rs)[1 + j]'(by simp; omega) = rs[j] := by simp [Nat.add_comm 1 j]
    rw [e9] at hr1
    have hm : rs[j] ∈ x :: rs := List.mem_cons_of_mem _ (List.getElem_mem hj9)
    refine ⟨e1, rulS_of hj9 (hP.kid _ hm) (h84 _ (List.getElem_mem hj9)) ?_ hr1⟩
    have := szT_kid (n := n) hm
    omega
  have HRX : Hid (PRep w A x (bs 0)) := hr0
  have HQ : Hid (rs.length = q) := hq
  simp only [List.length_cons, hq] at c5 h2 h3
  generalize bs 0 = b0 at e0 hr0 hcl HKV HRX
  obtain ⟨kd, nm, tx, kk, pl⟩ := n
  simp only at c0 h8
  subst h8
  clear hR hblk h4 hP HV hkn hr0 hq px h84 hs
  have HCE : Hid (∀ W, Below w.heap.size w W → W.cell? ⟨b, 5, none⟩ = some (.slice (some ⟨g, 0, none⟩) (q + 1) sc) ∧ W.cell? ⟨g, 0, none⟩ = some (.pointer (some ⟨b0, 0, none⟩))) := fun W hW => ⟨bcL hW lb c5, bcL hW lg e0⟩
  go_enter Tryz.func87, Tryz.ntmps87
  go_wp2_with fail
  refine hcl.mono ?_
  rintro e w1 ⟨rfl, hb1⟩
  clear hcl c0 c5 e0
  obtain ⟨c5, e0⟩ := HCE.out w1 hb1
  have lb1 : b < w1.heap.size := lt_of_cell c5
  have lg1 : g < w1.heap.size := lt_of_cell e0
  have hkv := HKV.out w1 hb1
  go_wp2_with fail
  refine hkv.mono ?_
  rintro e w2 ⟨v, rfl, hv2, hb2⟩
  obtain ⟨t9, uv, rfl⟩ := hv2.iface
  have hb3 := Below.step hb1 hb2
  have hv3 : VRep w2 (fun p => p < w2.heap.size) x (.iface t9 uv) := hv2.wide (fun p _ hp => hp)
  have hb4 := hb3.alloc hb3.size (.cells #[.pointer none, .int .i64 0, .int .i64 0, .slice none 0 0] 139)
  have hN4 := NmS.fresh w2
  have hbA := (Below.refl w2.heap.size w2).alloc (Nat.le_refl _) (.cells #[.pointer none, .int .i64 0, .int .i64 0, .slice none 0 0] 139)
  have HV4 : Hid _ := hv3.low hbA
  have hB : w.heap.size ≤ w2.heap.size := hb3.size
  have hsW : (w2.alloc (.cells #[.pointer none, .int .i64 0, .int .i64 0, .slice none 0 0] 139)).heap.size = w2.heap.size + 1 := by rw [World.size_alloc]
  clear hkv c5 e0 hv2 hv3 HKV
  obtain ⟨c5, -⟩ := HCE.out _ hb4
  have lb4 : b < (w2.alloc (.cells #[.pointer none, .int .i64 0, .int .i64 0, .slice none 0 0] 139)).heap.size := lt_of_cell c5
  go_upto_region 4 with fail
  generalize hB9 : w2.heap.size = B at *
  generalize w2.alloc (.cells #[.pointer none, .int .i64 0, .int .i64 0, .slice none 0 0] 139) = W at *
  have HBW : Hid (∀ W', Below B W W' → Below w.heap.size w W') := fun W' h => hb4.trans (h.mono hB)
  have HWS : Hid (W.heap.size = B + 1) := hsW
  have HHA : Hid (∀ q, w.heap.size ≤ q → A q) := hA
  have HST : Hid (NmS W B B 0) := hN4
  clear hb1 hb2 hb3 hN4 hbA hA lb1 lg1 hbr
  go_wp2
  · have hq0 : q = 0 := by omega
    subst hq0
    have HE : Hid (chooseT x (rs.drop 0) = none) := by
      show _ = _
      rw [List.length_eq_zero_iff.1 HQ.out]
      rfl
    have HB4 : Hid (Below w.heap.size w W) := hb4
    go_loopw [42] (fun i wr => i = .int .i64 0 ∧ wr = W) (fun _ _ => 0)
    case atStart => exact ⟨rfl, rfl⟩
    case round =>
      obtain ⟨rfl, rfl⟩ := hrel
      go_wp2
      go_ret
      rw [HE.out]
      exact ⟨HB4.out, rfl⟩
  · go_loopw [42] (fun i wr => ∃ (j k : Nat), j ≤ q ∧ i = .int .i64 j ∧ chooseT x (rs.drop 0) = chooseT x (rs.drop j) ∧ NmS wr B B k ∧ Below B W wr) (fun i _ => q - (intOf i).toNat)
    case atStart => exact ⟨0, 0, Nat.zero_le _, rfl, rfl, HST.out, Below.refl _ _⟩
    case round =>
      obtain ⟨j, k, hj, rfl, heq, hNr, hbr⟩ := hrel
      have HEQ : Hid (chooseT x (rs.drop 0) = chooseT x (rs.drop j)) := heq
      have hbw := HBW.out wr hbr
      by_cases hlt : j < q
      rotate_left
      · obtain rfl : j = q := by omega
        have HE : Hid (chooseT x (rs.drop 0) = none) := by
          show _ = _
          rw [heq, ← HQ.out, List.drop_length]
          rfl
        clear c5 hNr heq
        go_wp2
        go_ret
        rw [HE.out]
        exact ⟨hbw, rfl⟩
      obtain ⟨e1, gr, sr, b1, b2, p, c, hRu⟩ := HRU.out j hlt
      have HRUL : Hid (RulS w A x rs j (bs (1 + j)) gr sr b1 b2 p c) := hRu
      have k1 := bcL hbw lg e1
      have lgr : g < wr.heap.size := lt_of_cell k1
      have hN5 : NmS (wr.setCell ⟨B, 3, none⟩ (.slice none 0 0)) B B 0 := hNr.clear
      obtain ⟨-, s9, xs9, hrb9, -⟩ := hNr
      obtain ⟨z3, f3⟩ := four hrb9
      have lB : B < wr.heap.size := lt_of_cell z3
      have hb5 : Below B W (wr.setCell ⟨B, 3, none⟩ (.slice none 0 0)) := hbr.setCell (p := ⟨B, 3, none⟩) (Nat.le_refl _) _
      have hbw5 := HBW.out _ hb5
      have m1 := bcL hbw5 (lt_of_cell hRu.cr) hRu.cr
      have m2 := bcL hbw5 (lt_of_cell hRu.c1) hRu.c1
      have m3 := bcL hbw5 (lt_of_cell hRu.c2) hRu.c2
      have ls : (wr.setCell ⟨B, 3, none⟩ (.slice none 0 0)).heap.size = wr.heap.size := size_setCell _ _ _
      have n1 := lt_of_cell m1
      have n2 := lt_of_cell m2
      generalize hbj : bs (1 + j) = bj at *
      clear c5 heq hrb9
      go_upto_region 8 with fail
      generalize wr.setCell ⟨B, 3, none⟩ (.slice none 0 0) = w5 at *
      have lB5 : B ≤ w5.heap.size := by omega
      clear k1 z3 f3 lgr lB
      go_quiet (fail)
      have hb6 : Below B W (w5.drewN nq) := hb5.trans ((quietB w5 nq).mono (by omega))
      have hN6 : NmS (w5.drewN nq) B B 0 := hN5.drew nq
      generalize w5.drewN nq = w6 at *
      clear m1 m2 m3 n1 n2 hb5 hN5 hbw5 ls e1
      have hbw6 := HBW.out w6 hb6
      have hfit := fits_any B B p x b1 0 (.iface t9 uv) w6 hRu.pl hRu.pat ((hRu.r1.wide (A' := fun p => p < B) (fun q9 _ hl => by omega)).under hbw6) (HV4.out.low hb6) hN6 (by have := hRu.sz; omega)
      go_wp2_with fail
      refine hfit.mono ?_
      rintro e w7 ⟨k7, rfl, hN7, hb7, -, hiff⟩
      have hb8 := hb6.trans hb7
      have hbw8 := HBW.out w7 hb8
      clear hfit hb6 hN6 hbw6 hb7
      cases hff : fitsT p x
      · have HNX : Hid (chooseT x (rs.drop 0) = chooseT x (rs.drop (j + 1))) := HEQ.out.trans (hRu.no hff)
        clear hRu hiff
        go_wp2
        go_roundw
        case rel => exact ⟨j + 1, k7, by omega, by go_num, HNX.out, hN7, hb8⟩
        case measure => simp [intOf]; omega
      have hi7 := hiff hff
      clear hiff
      obtain ⟨np, kp⟩ := p
      obtain ⟨-, sp, scp, hbp, -⟩ := hRu.r1.opened
      obtain ⟨p0, p1, -⟩ := nine hbp
      have lp1 : b1 < w.heap.size := lt_of_cell p0
      have q0 := bcL hbw8 lp1 p0
      have lq0 := lt_of_cell q0
      by_cases h90 : np.kind = 90
      · have HRES : Hid (chooseT x (rs.drop 0) = some (mkT ⟨80, np.num, ⟨#[]⟩, 0, 0⟩ [x, c])) := HEQ.out.trans (hRu.yes hff h90)
        have HC2 : Hid (PRep w A c b2) := hRu.r2
        obtain ⟨pk, pn, pt, pq, pp⟩ := np
        simp only at q0 h90 HRES p1
        subst h90
        have HCE2 : Hid (∀ W', Below w.heap.size w W' → W'.cell? ⟨b1, 1, none⟩ = some (.int .i64 pn) ∧ W'.cell? ⟨b, 5, none⟩ = some (.slice (some ⟨g, 0, none⟩) (q + 1) sc) ∧ W'.cell? ⟨g, 0, none⟩ = some (.pointer (some ⟨b0, 0, none⟩))) := fun W' hW => ⟨bcL hW lp1 p1, (HCE.out W' hW).1, (HCE.out W' hW).2⟩
        have HCN : Hid (∀ W', Below w.heap.size w W' → ∀ t, Calls Tryz.prog 55 #[.agg #[.int .i64 80, .int .i64 pn, .string ⟨#[]⟩, .int .i64 0, .int .i64 0], .slice (some ⟨W'.heap.size, 0, none⟩) 2 2] (W'.alloc (.cells #[.pointer (some ⟨b0, 0, none⟩), .pointer (some ⟨b2, 0, none⟩)] t)) fun e w' => OptP W' A (some (mkT ⟨80, pn, ⟨#[]⟩, 0, 0⟩ [x, c])) e w') := fun W' hW t => letP_any pn x c b0 b2 A W' (fun q9 hq9 => HHA.out q9 (by have := hW.size; omega)) (HRX.out.under hW) (HC2.out.under hW) t
        clear hRu hbp p0 p1 hi7 hN7
        go_upto_region 11 with fail
        have bD := (Below.refl w7.heap.size w7).drew
        have hbD := Below.stepG hbw8 bD hbw8.size
        have hbA2 := hbD.alloc hbD.size (.cells #[.pointer (some ⟨b0, 0, none⟩), .pointer (some ⟨b2, 0, none⟩)] 65)
        have HCD : Hid _ := HCN.out _ hbD
        clear q0 HCN
        refine wp_region_held_drew (S := fun W' => W'.cell? ⟨b1, 1, none⟩ = some (.int .i64 pn) ∧ W'.cell? ⟨b, 5, none⟩ = some (.slice (some ⟨g, 0, none⟩) (q + 1) sc) ∧ W'.cell? ⟨g, 0, none⟩ = some (.pointer (some ⟨b0, 0, none⟩))) (by kernel_rfl) (HCE2.out _ hbD) (fun hS => ?_)
        refine take_in 0 72 (v := ?_) (oi := _) (ixA rfl) (by rfl) (by kernel_rfl) (by kernel_rfl) (by kernel_rfl) (by exact fun _ _ _ h => h) (Or.inl ⟨by rfl, ?_⟩) hS ?_
        rotate_left
        · intro w' hSw; (try dsimp only at hSw); (go_simp <;> with_reducible rfl)
        simp only [List.setIfInBounds_toArray, List.set_cons_zero, List.set_cons_succ]
        refine take_in 1 73 (v := ?_) (oi := _) (ixA rfl) (by rfl) (by kernel_rfl) (by kernel_rfl) (by kernel_rfl) (by exact fun _ _ _ h => h) (Or.inl ⟨by rfl, ?_⟩) hS ?_
        rotate_left
        · intro w' hSw; (try dsimp only at hSw); (go_simp <;> with_reducible rfl)
        simp only [List.setIfInBounds_toArray, List.set_cons_zero, List.set_cons_succ]
        refine take_in 2 74 (v := ?_) (oi := _) (ixA rfl) (by rfl) (by kernel_rfl) (by kernel_rfl) (by kernel_rfl) (by exact fun _ _ _ h => h) (Or.inl ⟨by rfl, ?_⟩) hS ?_
        rotate_left
        · intro w' hSw; (try dsimp only at hSw); (go_simp <;> with_reducible rfl)
        simp only [List.setIfInBounds_toArray, List.set_cons_zero, List.set_cons_succ]
        refine take_in 3 75 (v := ?_) (oi := _) (ixA rfl) (by rfl) (by kernel_rfl) (by kernel_rfl) (by kernel_rfl) (by exact fun _ _ _ h => h) (Or.inl ⟨by rfl, ?_⟩) hS ?_
        rotate_left
        · intro w' hSw; (try dsimp only at hSw); (go_simp <;> with_reducible rfl)
        simp only [List.setIfInBounds_toArray, List.set_cons_zero, List.set_cons_succ]
        refine take_in 4 76 (v := ?_) (oi := _) (ixA rfl) (by rfl) (by kernel_rfl) (by kernel_rfl) (by kernel_rfl) (by exact fun _ _ _ h => h) (Or.inl ⟨by rfl, ?_⟩) hS ?_
        rotate_left
        · intro w' hSw; (try dsimp only at hSw); (go_simp <;> with_reducible rfl)
        simp only [List.setIfInBounds_toArray, List.set_cons_zero, List.set_cons_succ]
        refine take_in 5 77 (v := ?_) (oi := _) (ixA rfl) (by rfl) (by kernel_rfl) (by kernel_rfl) (by kernel_rfl) (by exact fun _ _ _ h => h) (Or.inl ⟨by rfl, ?_⟩) hS ?_
        rotate_left
        · intro w' hSw; (try dsimp only at hSw); (go_simp <;> with_reducible rfl)
        simp only [List.setIfInBounds_toArray, List.set_cons_zero, List.set_cons_succ]
        refine take_in 6 78 (v := ?_) (oi := _) (ixA rfl) (by rfl) (by kernel_rfl) (by kernel_rfl) (by kernel_rfl) (by exact fun _ _ _ h => h) (Or.inl ⟨by rfl, ?_⟩) hS ?_
        rotate_left
        · intro w' hSw; (try dsimp only at hSw); (go_simp <;> with_reducible rfl)
        simp only [List.setIfInBounds_toArray, List.set_cons_zero, List.set_cons_succ]
        refine take_in 7 79 (v := ?_) (oi := _) (ixA rfl) (by rfl) (by kernel_rfl) (by kernel_rfl) (by kernel_rfl) (by exact fun _ _ _ h => h) (Or.inl ⟨by rfl, ?_⟩) hS ?_
        rotate_left
        · intro w' hSw; (try dsimp only at hSw); (go_simp <;> with_reducible rfl)
        simp only [List.setIfInBounds_toArray, List.set_cons_zero, List.set_cons_succ]
        refine take_in 8 80 (v := ?_) (oi := _) (ixA rfl) (by rfl) (by kernel_rfl) (by kernel_rfl) (by kernel_rfl) (by exact fun _ _ _ h => h) (Or.inl ⟨by rfl, ?_⟩) hS ?_
        rotate_left
        · intro w' hSw; (try dsimp only at hSw); (go_simp <;> with_reducible rfl)
        simp only [List.setIfInBounds_toArray, List.set_cons_zero, List.set_cons_succ]
        refine take_in 9 81 (v := ?_) (oi := _) (ixA rfl) (by rfl) (by kernel_rfl) (by kernel_rfl) (by kernel_rfl) (by exact fun _ _ _ h => h) (Or.inl ⟨by rfl, ?_⟩) hS ?_
        rotate_left
        · intro w' hSw; (try dsimp only at hSw); (go_simp <;> with_reducible rfl)
        simp only [List.setIfInBounds_toArray, List.set_cons_zero, List.set_cons_succ]
        refine take_in 10 82 (v := ?_) (oi := _) (ixA rfl) (by rfl) (by kernel_rfl) (by kernel_rfl) (by kernel_rfl) (by exact fun _ _ _ h => h) (Or.inl ⟨by rfl, ?_⟩) hS ?_
        rotate_left
        · intro w' hSw; (try dsimp only at hSw); (go_simp <;> with_reducible rfl)
        simp only [List.setIfInBounds_toArray, List.set_cons_zero, List.set_cons_succ]
        refine take_in 11 83 (v := ?_) (oi := _) (ixA rfl) (by rfl) (by kernel_rfl) (by kernel_rfl) (by kernel_rfl) (by exact fun _ _ _ h => h) (Or.inl ⟨by rfl, ?_⟩) hS ?_
        rotate_left
        · intro w' hSw; (try dsimp only at hSw); (go_simp <;> with_reducible rfl)
        simp only [List.setIfInBounds_toArray, List.set_cons_zero, List.set_cons_succ]
        refine take_in 12 84 (v := ?_) (oi := _) (ixA rfl) (by rfl) (by kernel_rfl) (by kernel_rfl) (by kernel_rfl) (by exact fun _ _ _ h => h) (Or.inl ⟨by rfl, ?_⟩) hS ?_
        rotate_left
        · intro w' hSw; (try dsimp only at hSw); (go_simp <;> with_reducible rfl)
        simp only [List.setIfInBounds_toArray, List.set_cons_zero, List.set_cons_succ]
        refine wpAnyH_ready (rs := [13]) (by kernel_rfl) (by simp) ?_
        refine AllReadyH.cons (o := _) (ixA rfl) (fun K' hK' => ?_) AllReadyH.nil
        rw [if_pos (by rfl)]
        go_simp
        refine hK'.out _ _ (HCE2.out _ hbA2) (fun hS => ?_)
        clear hK' K'
        try simp only [Act.put, List.setIfInBounds_toArray, List.set_cons_zero, List.set_cons_succ]
        refine wpAnyH_ready (rs := [14]) (by kernel_rfl) (by simp) ?_
        refine AllReadyH.cons (o := _) (ixA rfl) (fun K' hK' => ?_) AllReadyH.nil
        rw [if_pos (by rfl)]
        go_simp
        refine (HCD.out _).mono ?_
        intro e w9 h9
        obtain ⟨p9, rfl, hb9, hv9⟩ := h9.out
        have hb10 := Below.stepG hbD hb9 hbD.size
        refine hK'.out _ _ (HCE2.out _ hb10) (fun hS => ?_)
        clear hK' K'
        try simp only [Act.put, List.setIfInBounds_toArray, List.set_cons_zero, List.set_cons_succ]
        refine take_in 15 4 (v := ?_) (oi := _) (ixA rfl) (by rfl) (by kernel_rfl) (by kernel_rfl) (by kernel_rfl) (by exact fun _ _ _ h => h) (Or.inl ⟨by rfl, ?_⟩) hS ?_
        rotate_left
        · intro w' hSw; (try dsimp only at hSw); (go_simp <;> with_reducible rfl)
        simp only [List.setIfInBounds_toArray, List.set_cons_zero, List.set_cons_succ]
        refine wpAnyH_done (by kernel_rfl) ?_ _
        have HV3 : Hid _ := hv9
        clear hv9 hS HCE2 hb9 h9 HCD
        go_wp2
        go_ret
        rw [show chooseT x rs = some (mkT ⟨80, pn, ⟨#[]⟩, 0, 0⟩ [x, c]) from HRES.out]
        exact OptP.mk HV3.out hb10
      obtain ⟨pk, pn, pt, pq, pp⟩ := np
      simp only at q0 h90
      have t90 : (pk == 90) = false := by simpa using h90
      obtain ⟨-, s7, xs7, hrb7, ho7⟩ := hN7
      obtain ⟨z7, -⟩ := four hrb7
      have lB7 : B < w7.heap.size := lt_of_cell z7
      have HC2 : Hid (PRep w A c b2) := hRu.r2
      obtain ⟨sa, sc7, rfl⟩ : ∃ sa sc7, s7 = .slice sa k7 sc7 := by
        rcases ho7.2 with ⟨e9, h9⟩ | ⟨g9, cap9, cur9, e9, -⟩
        · exact ⟨none, 0, by rw [e9, h9]⟩
        · exact ⟨_, _, e9⟩
      by_cases hk7 : k7 = 0
      · have HRES : Hid (chooseT x (rs.drop 0) = some c) := HEQ.out.trans (hRu.yes0 hff h90 (hi7.1 hk7).2)
        subst hk7
        clear hRu hrb7 ho7 hbp p0 p1 hi7
        go_wp2
        go_ret
        rw [HRES.out]
        exact ⟨hbw8, b2, rfl, HC2.out.under hbw8⟩
      · have hbt : bindsT (.mk ⟨pk, pn, pt, pq, pp⟩ kp) = true := by
          cases hb : bindsT (.mk ⟨pk, pn, pt, pq, pp⟩ kp) with
          | true => rfl
          | false => exact absurd (hi7.2 ⟨rfl, hb⟩) hk7
        have HRES : Hid (chooseT x (rs.drop 0) = none) := HEQ.out.trans (hRu.yes1 hff h90 hbt)
        have tk7 : ((k7 : Int) == 0) = false := by simp; omega
        clear hRu hrb7 ho7 hbp p0 p1 hi7 hbt
        go_wp2
        go_ret
        rw [HRES.out]
        exact ⟨hbw8, rfl⟩
theorem choose_any (lp : Value) (n : Nd) (ks : List Tre) (b : Nat) (A : Nat → Prop) (w : World) (hA : ∀ q, w.heap.size ≤ q → A q) (hP : PlT (.mk n ks)) (hR : PRep w A (.mk n ks) b) (hs : szT (.mk n ks) ≤ 1000000000) :
    Calls Tryz.prog 87 #[lp, .pointer (some ⟨b, 0, none⟩)] w fun e w' => OptP w A (choT (.mk n ks)) e w' := by
  by_cases h : n.kind = 83 ∧ ∃ v rs, ks = v :: rs ∧ knT v = true
  · obtain ⟨h8, v, rs, rfl, hk⟩ := h
    exact choose_yes lp n v rs b A w hA h8 hP hR hk hs
  · refine choose_no lp n ks b A w hP hR (fun v rs h8 e => ?_)
    cases hk : knT v with
    | false => rfl
    | true => exact absurd ⟨h8, v, rs, e, hk⟩ h
theorem rule_four (us : Int → Nat) {n : Nd} {ks : List Tre} (h : PlT (.mk n ks)) :
    ruleT us (.mk n ks) = (compT (.mk n ks)).getD ((choT (.mk n ks)).getD ((forgT us (.mk n ks)).getD ((bindT (.mk n ks)).getD (.mk n ks)))) := by
  have hN := h.node
  unfold ruleT compT choT forgT bindT
  dsimp only
  by_cases h88 : n.kind = 88
  · obtain ⟨a, b, rfl, -, -⟩ := hN.code2 (.inr (.inr h88))
    simp [h88]
  by_cases h89 : n.kind = 89
  · obtain ⟨a, rfl, -⟩ := hN.code1 (.inr h89)
    simp only [h89]
    by_cases h : n.text.toList = [126] ∧ a.nd.kind = 72
    · simp [h]
    · simp [h]
  by_cases h83 : n.kind = 83
  · obtain ⟨v, rs, rfl, -, -⟩ := hN.cas h83
    simp only [h83]
    cases hk : knT v <;> simp
  by_cases h80 : n.kind = 80
  · obtain ⟨a, b, rfl, -, -⟩ := hN.code2 (.inr (.inl h80))
    simp only [h80]
    by_cases h : n.num ≤ 200000 ∧ us n.num = 0 ∧ (knT a = true ∨ a.nd.kind = 76 ∨ a.nd.kind = 71)
    · simp [h]
    · simp [h]
  by_cases h77 : n.kind = 77
  · obtain ⟨f, b, rfl, -, -⟩ := hN.code2 (.inl h77)
    simp only [h77]
    by_cases h76 : f.nd.kind = 76
    · have hf := h.kid f (by simp)
      obtain ⟨nf, kf⟩ := f
      obtain ⟨c, rfl, -⟩ := hf.node.code1 (.inl h76)
      simp only [Tre.nd] at h76
      simp [Tre.nd, Tre.ks, h76]
    · simp [h76]
  · simp [h88, h89, h83, h80, h77]
def fnV (N : Nat) : Value := .func (.func N) #[] #[]
theorem results_four {fn : Func} {a : Tmp} {t : TypeId} (h : fn.results = #[.cell a 94]) (tmps : Array Value) (b : Nat) (hta : tmps[a]?.getD undef = .pointer (some ⟨b, 0, none⟩)) (w : World) (x0 x1 x2 x3 : Value) (hr : w.heap[b]? = some (.cells #[x0, x1, x2, x3] t (0, 0))) : (results fn tmps).run Tryz.prog w = .ok (.agg #[x0, x1, x2, x3]) w := by
  have c0 : w.cell? ⟨b, 0, none⟩ = some x0 := by rw [cell_of_row _ _ _ _ _ _ hr]; rfl
  have c1 : w.cell? ⟨b, 1, none⟩ = some x1 := by rw [cell_of_row _ _ _ _ _ _ hr]; rfl
  have c2 : w.cell? ⟨b, 2, none⟩ = some x2 := by rw [cell_of_row _ _ _ _ _ _ hr]; rfl
  have c3 : w.cell? ⟨b, 3, none⟩ = some x3 := by rw [cell_of_row _ _ _ _ _ _ hr]; rfl
  have e : ∀ w, (isAgg 94).run Tryz.prog w = .ok true w := fun w => by kernel_rfl
  have e2 : ∀ w, (sizeOf 94).run Tryz.prog w = .ok 4 w := fun w => by kernel_rfl
  simp [results, h, go_sem, hta, e, e2, c0, c1, c2, c3]
set_option maxRecDepth 20000 in
set_option maxHeartbeats 1000000 in
theorem wayUp_any (w : World) : Calls Tryz.prog 56 #[] w fun e w' => e = .returned (.agg #[fnV 86, fnV 87, fnV 88, fnV 89]) ∧ Below w.heap.size w w' := by
  have HR : Hid _ := heap_alloc_new w (.cells #[.func (.func 86) #[] #[], .func (.func 87) #[] #[], .func (.func 88) #[] #[], .func (.func 89) #[] #[]] 94)
  have HB : Hid _ := (Below.refl w.heap.size w).alloc (Nat.le_refl _) (.cells #[.func (.func 86) #[] #[], .func (.func 87) #[] #[], .func (.func 88) #[] #[], .func (.func 89) #[] #[]] 94)
  go_enter Tryz.func56, Tryz.ntmps56
  go_wp2
  refine bodyPost_ret (results_four rfl _ w.heap.size rfl _ _ _ _ _ HR.out) rfl ?_
  exact ⟨rfl, HB.out⟩
theorem But.ofGrown {w w' : World} {b : Nat} (h : w.grownBy w' (some b)) : But (fun p => p = b) w w' := ⟨h.os, h.tape, h.output, h.size, fun i hi hn => h.block i hi (fun e => hn (by simpa using e))⟩
theorem But.ofTurned {w w' : World} {b : Nat} (h : w.mapTurned w' b) : But (fun p => p = b) w w' := But.ofGrown h.grown
theorem LesS.put {L : LesAt} {bd us : Int → Nat} {w : World} {A : Nat → Prop} {n : Nat} {P : Int → Option Tre} (h : LesS L bd us w A n P) (hn : n < maxLen) {x : Int} (hx : (Lit.int .i64 x).wf = true) {T : Tre} {b : Nat} (hT : PRep w A T b) :
    ∃ w', (Instr.mapUpdate 62 (.map (some L.m3)) (.int .i64 x) (.pointer (some ⟨b, 0, none⟩))).run Tryz.prog w = .ok () w' ∧ LesS L bd us w' A (n + 1) (setP P x (some T)) ∧ But (fun p => p = L.m3) w w' := by
  have hkl : ∀ z : Int, WideAt.IsKeyLit (.int .i64 z) := fun _ => trivial
  obtain ⟨D, U, h1, h2, h3⟩ := h.ma
  obtain ⟨w', hr, ho, hg⟩ := h1.update Tryz.law2L Tryz.underlying62 hn (Tryz.keyL x hx) (val := .pointer (some ⟨b, 0, none⟩)) (d := .held (.pointer (some ⟨b, 0, none⟩))) (ps := []) rfl
  have hb := But.ofGrown hg
  obtain ⟨a0, a1, a2⟩ := h.apart
  have hS : ∀ q, A q → ¬ (q = L.m3) := h.out
  refine ⟨w', hr, ⟨hb.cellL h.c0 a0, hb.cellL h.c1 a0, hb.cellL h.c2 a0, h.mb.but hb a1, h.mu.but hb a2, ?_, h.apart, h.out⟩, hb⟩
  refine ⟨D.put (.int .i64 x) (.held (.pointer (some ⟨b, 0, none⟩))), fun y => if y = x then some b else U y, ho, h2.put (hkl x) _, fun y => ?_⟩
  by_cases e : y = x
  · subst e
    simp only [setP, if_pos]
    refine ⟨?_, rfl, fun T9 b9 h9 h8 => ?_⟩
    · rw [atKey_put_same h2.isMap (hkl y)]
      rfl
    · simp only [Option.some.injEq] at h9 h8
      subst h9
      subst h8
      exact hT.but hb hS (fun q hq _ => hq)
  · simp only [setP, if_neg e]
    obtain ⟨k1, k2, k3⟩ := h3 y
    refine ⟨?_, k2, fun T9 b9 h9 h8 => (k3 T9 b9 h9 h8).but hb hS (fun q hq _ => hq)⟩
    rw [atKey_put_other (fun h => e (by simpa using h)), k1]
theorem LesS.del {L : LesAt} {bd us : Int → Nat} {w : World} {A : Nat → Prop} {n : Nat} {P : Int → Option Tre} (h : LesS L bd us w A n P) {x : Int} (hx : (Lit.int .i64 x).wf = true) (ty : TypeId) :
    ∃ w', (Builtin.delete_ #[62, 2] ty #[.map (some L.m3), .int .i64 x]).run Tryz.prog w = .ok (.tuple #[]) w' ∧ LesS L bd us w' A n (setP P x none) ∧ But (fun p => p = L.m3) w w' := by
  obtain ⟨D, U, h1, h2, h3⟩ := h.ma
  obtain ⟨w', hr, ho, hg⟩ := h1.drop Tryz.law2L Tryz.underlying62 (Tryz.keyL x hx) ty
  have hb := But.ofTurned hg
  obtain ⟨a0, a1, a2⟩ := h.apart
  have hS : ∀ q, A q → ¬ (q = L.m3) := h.out
  refine ⟨w', hr, ⟨hb.cellL h.c0 a0, hb.cellL h.c1 a0, hb.cellL h.c2 a0, h.mb.but hb a1, h.mu.but hb a2, ?_, h.apart, h.out⟩, hb⟩
  refine ⟨D.del (.int .i64 x), fun y => if y = x then none else U y, ho, h2.del _, fun y => ?_⟩
  by_cases e : y = x
  · subst e
    simp only [setP, if_pos]
    refine ⟨?_, rfl, fun T9 b9 h9 h8 => by cases h9⟩
    rw [atKey_del_same]
    rfl
  · simp only [setP, if_neg e]
    obtain ⟨k1, k2, k3⟩ := h3 y
    refine ⟨?_, k2, fun T9 b9 h9 h8 => (k3 T9 b9 h9 h8).but hb hS (fun q hq _ => hq)⟩
    rw [atKey_del_other (fun h => e (by simpa using h)), k1]
end Go.Proofs.YtemancdlnakkmaaGreat
namespace Go.Proofs.YtemancdlnakkmaaGreat
open Go.RowKit Go.Maps
section
variable {P : Program}
theorem step_defer_b {fr : Frame} {cs : List Frame} {w w1 : World} {d : Deferred} {ds : List Deferred} {b : Builtin} {ats : Array TypeId} {ty : TypeId} {cn : Array Bool} {v : Value}
    (hm : fr.mode = .returning) (hd : fr.defers = d :: ds) (ht : d.target = .builtin b ats ty cn)
    (hi : (invoke d.target d.args).run P w = .ok (.value v) w1) :
    Go.step P (lone fr cs w) = .next (lone { fr with defers := ds } cs w1) := by
  obtain ⟨t, a⟩ := d
  simp only at ht hi
  subst ht
  refine step_lone_go ?_
  simp [stepG, unwind, callDeferred, hm, hd, hi]
def bodyPostB (P : Program) (fn : Func) (R : Ending → World → Prop) : Exit → Act → World → Prop
  | .normal, a, w | .ret, a, w => ∃ d b ats ty cn v w1 r, a.defers = [d] ∧ d.target = .builtin b ats ty cn ∧ (invoke d.target d.args).run P w = .ok (.value v) w1 ∧ (results fn a.tmps).run P w1 = .ok r w1 ∧ R (.returned r) w1
  | .outgrown, _, w => R .outgrown w
  | _, _, _ => False
theorem calls_of_wp_b {f : FuncId} {fn : Func} {c : Code} {args : Array Value} {w : World} {R : Ending → World → Prop}
    (hf : P.funcs[f]? = some fn) (hb : fn.body = some c)
    (h : c.wp P (bodyPostB P fn R) { tmps := args ++ Array.replicate (fn.ntmps - args.size) undef, defers := [] } w) : Calls P f args w R := by
  intro cs
  let b : Frame := { (default : Frame) with fn := f, kind := .normal }
  have henter : Frame.enter P f args .normal =
      b.at { tmps := args ++ Array.replicate (fn.ntmps - args.size) undef, defers := [] } [.code c] := by
    simp [Frame.enter, Frame.at, hf, hb, b]
  obtain ⟨e, a', w', hq, harr⟩ := h b [] cs
  rw [← henter] at harr
  cases e with
  | normal =>
    obtain ⟨d, bi, ats, ty, cn, v, w1, r, hd, ht, hi, hr, hR⟩ := hq
    have h1 := step_defer_b (P := P) (fr := { b.at a' [] with mode := .returning }) (cs := cs) (w := w') rfl hd ht hi
    exact ⟨.returned r, w1, { { b.at a' [] with mode := .returning } with defers := [] }, hR, Comes.of_steps (Steps.trans harr (.one step_end)) (Steps.one h1), rfl, rfl, rfl, rfl, fn, hf, hr⟩
  | ret =>
    obtain ⟨todo, hs₀⟩ := harr
    obtain ⟨d, bi, ats, ty, cn, v, w1, r, hd, ht, hi, hr, hR⟩ := hq
    have h1 := step_defer_b (P := P) (fr := { b.at a' todo with mode := .returning }) (cs := cs) (w := w') rfl hd ht hi
    exact ⟨.returned r, w1, { { b.at a' todo with mode := .returning } with defers := [] }, hR, Comes.of_steps hs₀ (Steps.one h1), rfl, rfl, rfl, rfl, fn, hf, hr⟩
  | panic chain => exact hq.elim
  | exit id => exact hq.elim
  | goto l => exact hq.elim
  | outgrown => exact ⟨.outgrown, w', b, hq, harr.resolve_left (by simp [b]), rfl, trivial⟩
end
end Go.Proofs.YtemancdlnakkmaaGreat
