import Derived.Test.YtemancdlnakkmaaGreatWAZ
import Derived.Test.YtemancdlnakkmaaGreatWAN
import Derived.Deep.RegionWith
namespace Go.Proofs.YtemancdlnakkmaaGreat
open Go.RowKit
theorem zipB_len {fs : List (Tre → Bool)} {vs : List Tre} (h : fs.length ≠ vs.length) : zipB fs vs = false := by
  induction fs generalizing vs with
  | nil => cases vs with
    | nil => simp at h
    | cons v vs => rfl
  | cons f fs ih => cases vs with
    | nil => rfl
    | cons v vs => simp only [zipB]; rw [ih (by simpa using h)]; simp
theorem zipB_all {fs : List (Tre → Bool)} {vs : List Tre} (hl : fs.length = vs.length) : zipB fs vs = true ↔ ∀ j (h1 : j < fs.length) (h2 : j < vs.length), fs[j] vs[j] = true := by
  induction fs generalizing vs with
  | nil => cases vs with
    | nil => simp [zipB]
    | cons v vs => simp at hl
  | cons f fs ih => cases vs with
    | nil => simp at hl
    | cons v vs =>
      simp only [zipB, Bool.and_eq_true]
      rw [ih (by simpa using hl)]
      constructor
      · rintro ⟨h1, h2⟩ j h3 h4
        cases j with
        | zero => exact h1
        | succ j => exact h2 j (by simpa using h3) (by simpa using h4)
      · intro h
        exact ⟨h 0 (by simp) (by simp), fun j h1 h2 => h (j + 1) (by simpa using h1) (by simpa using h2)⟩
set_option maxRecDepth 20000 in
set_option maxHeartbeats 8000000 in
theorem fitsS_any : ∀ (P : Tre) (V : Tre) (s s' : Sl3) (A : Nat → Prop) (w : World), ShT P → patK P.nd = true → ShT V → SRep w A P s → SRep w A V s' →
    Calls Tryz.prog 62 #[.agg (sv P s).toArray, .agg (sv V s').toArray] w fun e w' => e = .returned (.bool (fitsT P V)) ∧ Below w.heap.size w w' := by
  intro P
  refine Tre.ind (p := fun P => ∀ (V : Tre) (s s' : Sl3) (A : Nat → Prop) (w : World), ShT P → patK P.nd = true → ShT V → SRep w A P s → SRep w A V s' → Calls Tryz.prog 62 #[.agg (sv P s).toArray, .agg (sv V s').toArray] w fun e w' => e = .returned (.bool (fitsT P V)) ∧ Below w.heap.size w w') ?_ P
  intro n ks ih V s s' A w hSP hPK hSV hR hR'
  obtain ⟨so, sl, sc⟩ := s
  obtain ⟨uo, ul, uc⟩ := s'
  obtain ⟨h1, h2, h3, h4⟩ := hR.skids
  obtain ⟨k1, k2, k3, k4⟩ := hR'.skids
  obtain ⟨m, vs⟩ := V
  simp only [Tre.ks] at h1 h2 h3 h4 k1 k2 k3 k4
  subst h1
  subst k1
  have HV : Hid (fitsT (.mk n ks) (.mk m vs) = fitsStep n (ks.map fitsT) (.mk m vs)) := by show _ = _; rw [fitsT_eq]
  obtain ⟨q, hq⟩ : ∃ q, ks.length = q := ⟨_, rfl⟩
  obtain ⟨r, hr⟩ : ∃ r, vs.length = r := ⟨_, rfl⟩
  have HQ : Hid (ks.length = q) := hq
  have HQR : Hid (vs.length = r) := hr
  obtain ⟨kb, hkb⟩ : ∃ kb, knT (.mk n ks) = kb := ⟨_, rfl⟩
  obtain ⟨vb, hvb⟩ : ∃ vb, knT (.mk m vs) = vb := ⟨_, rfl⟩
  have hsv : (sv (.mk n ks) (so, ks.length, sc)).toArray = #[.int .i64 n.kind, .int .i64 n.num, .string n.text, .int .i64 n.kids, .int .i64 n.place, .slice so q sc, .bool kb] := by
    simp [sv, Tre.nd, hkb, hq]
  have hsv' : (sv (.mk m vs) (uo, vs.length, uc)).toArray = #[.int .i64 m.kind, .int .i64 m.num, .string m.text, .int .i64 m.kids, .int .i64 m.place, .slice uo r uc, .bool vb] := by
    simp [sv, Tre.nd, hvb, hr]
  have HRV : Hid (SRep w A (.mk m vs) (uo, vs.length, uc)) := hR'
  rw [hsv, hsv']
  rw [hq] at h2 h3
  rw [hr] at k2 k3
  have HKS : Hid (∀ j (h : j < ks.length), ∃ g sj, so = some ⟨g, 0, none⟩ ∧ A g ∧ Row7 w g (j * 7) ks[j] sj ∧ SRep w A ks[j] sj) := h4
  have HVS : Hid (∀ j (h : j < vs.length), ∃ g sj, uo = some ⟨g, 0, none⟩ ∧ A g ∧ Row7 w g (j * 7) vs[j] sj ∧ SRep w A vs[j] sj) := k4
  have HIH : Hid (∀ k ∈ ks, ∀ (V : Tre) (s s' : Sl3) (A : Nat → Prop) (w : World), ShT k → patK k.nd = true → ShT V → SRep w A k s → SRep w A V s' → Calls Tryz.prog 62 #[.agg (sv k s).toArray, .agg (sv V s').toArray] w fun e w' => e = .returned (.bool (fitsT k V)) ∧ Below w.heap.size w w') := ih
  have HSP : Hid (ShT (.mk n ks)) := hSP
  have HSV : Hid (ShT (.mk m vs)) := hSV
  clear hR hR' h4 k4 hq hr hkb hvb hsv ih hSP hSV
  obtain ⟨kd, nm, tx, kk, pl⟩ := n
  obtain ⟨md, mn, mx, mk, mp⟩ := m
  simp only [Tre.nd] at hPK HV ⊢
  have bW := (Below.refl w.heap.size w).alloc (Nat.le_refl _) (.cells #[.int .i64 kd, .int .i64 nm, .string tx, .int .i64 kk, .int .i64 pl, .slice so q sc, .bool kb] 51)
  have bW2 := bW.alloc bW.size (.cells #[.int .i64 md, .int .i64 mn, .string mx, .int .i64 mk, .int .i64 mp, .slice uo r uc, .bool vb] 51)
  have hkinds : kd = 15 ∨ kd = 17 ∨ kd = 18 ∨ kd = 20 ∨ kd = 19 ∨ kd = 90 ∨ kd = 91 := by
    simp [patK] at hPK
    omega
  clear hPK
  rcases hkinds with rfl | rfl | rfl | rfl | rfl | rfl | rfl
  · have HK : Hid (fitsT (.mk ⟨15, nm, tx, kk, pl⟩ ks) (.mk ⟨md, mn, mx, mk, mp⟩ vs) = true) := by show _ = _; rw [HV.out]; simp [fitsStep]
    go_enter Tryz.func62, Tryz.ntmps62
    go_wp2
    go_ret
    exact ⟨by rw [HK.out]; rfl, bW2⟩
  · have HK : Hid (fitsT (.mk ⟨17, nm, tx, kk, pl⟩ ks) (.mk ⟨md, mn, mx, mk, mp⟩ vs) = (md == 72 && mn == nm)) := by show _ = _; rw [HV.out]; simp [fitsStep, Tre.nd]
    by_cases h72 : md = 72
    · subst h72
      go_enter Tryz.func62, Tryz.ntmps62
      go_wp2
      go_ret
      exact ⟨by rw [HK.out]; rfl, bW2⟩
    · have t72 : (md == 72) = false := by simpa using h72
      rw [t72] at HK
      go_enter Tryz.func62, Tryz.ntmps62
      go_wp2
      go_ret
      exact ⟨by rw [HK.out]; rfl, bW2⟩
  · have HK : Hid (fitsT (.mk ⟨18, nm, tx, kk, pl⟩ ks) (.mk ⟨md, mn, mx, mk, mp⟩ vs) = (md == 73 && mx.toList == tx.toList)) := by show _ = _; rw [HV.out]; simp [fitsStep, Tre.nd]
    by_cases h73 : md = 73
    · subst h73
      go_enter Tryz.func62, Tryz.ntmps62
      go_wp2
      go_ret
      exact ⟨by rw [HK.out]; rfl, bW2⟩
    · have t73 : (md == 73) = false := by simpa using h73
      rw [t73] at HK
      go_enter Tryz.func62, Tryz.ntmps62
      go_wp2
      go_ret
      exact ⟨by rw [HK.out]; rfl, bW2⟩
  · by_cases h75 : md = 75
    rotate_left
    · have t75 : (md != 75) = true := by simpa using h75
      have HK : Hid (fitsT (.mk ⟨20, nm, tx, kk, pl⟩ ks) (.mk ⟨md, mn, mx, mk, mp⟩ vs) = false) := by
        show _ = _
        rw [HV.out]
        simp [fitsStep, Tre.nd, h75]
      go_enter Tryz.func62, Tryz.ntmps62
      go_wp2
      go_ret
      exact ⟨by rw [HK.out]; rfl, bW2⟩
    subst h75
    have HK : Hid (fitsT (.mk ⟨20, nm, tx, kk, pl⟩ ks) (.mk ⟨75, mn, mx, mk, mp⟩ vs) = zipB (ks.map fitsT) vs) := by
      show _ = _
      rw [HV.out]
      simp [fitsStep, Tre.nd, Tre.ks]
    by_cases hqr : q = r
    rotate_left
    · have tqr : ((r : Int) != (q : Int)) = true := by simp; omega
      have HK2 : Hid (fitsT (.mk ⟨20, nm, tx, kk, pl⟩ ks) (.mk ⟨75, mn, mx, mk, mp⟩ vs) = false) := by
        show _ = _
        rw [HK.out, zipB_len (by rw [List.length_map, HQ.out, HQR.out]; exact hqr)]
      go_enter Tryz.func62, Tryz.ntmps62
      go_wp2
      go_ret
      exact ⟨by rw [HK2.out]; rfl, bW2⟩
    subst hqr
    have HPT : Hid (∀ p ∈ ks, patK p.nd = true) := HSP.out.node.tup rfl
    have HB1 : Hid (((w.alloc (.cells #[.int .i64 20, .int .i64 nm, .string tx, .int .i64 kk, .int .i64 pl, .slice so q sc, .bool kb] 51)).alloc (.cells #[.int .i64 75, .int .i64 mn, .string mx, .int .i64 mk, .int .i64 mp, .slice uo q uc, .bool vb] 51)).heap[w.heap.size]? = some (Obj.cells #[.int .i64 20, .int .i64 nm, .string tx, .int .i64 kk, .int .i64 pl, .slice so q sc, .bool kb] 51 (0, 0))) := (Below.heap_alloc _ _ _ (by simp)).trans (heap_alloc_new _ _)
    have HB2 : Hid (((w.alloc (.cells #[.int .i64 20, .int .i64 nm, .string tx, .int .i64 kk, .int .i64 pl, .slice so q sc, .bool kb] 51)).alloc (.cells #[.int .i64 75, .int .i64 mn, .string mx, .int .i64 mk, .int .i64 mp, .slice uo q uc, .bool vb] 51)).heap[w.heap.size + 1]? = some (Obj.cells #[.int .i64 75, .int .i64 mn, .string mx, .int .i64 mk, .int .i64 mp, .slice uo q uc, .bool vb] 51 (0, 0))) := by
      have h9 := heap_alloc_new (w.alloc (.cells #[.int .i64 20, .int .i64 nm, .string tx, .int .i64 kk, .int .i64 pl, .slice so q sc, .bool kb] 51)) (.cells #[.int .i64 75, .int .i64 mn, .string mx, .int .i64 mk, .int .i64 mp, .slice uo q uc, .bool vb] 51)
      rw [World.size_alloc] at h9
      exact h9
    clear HV hsv'
    go_enter Tryz.func62, Tryz.ntmps62
    go_wp2
    have hblk1 := HB1.out
    have hblk2 := HB2.out
    clear HB1 HB2
    generalize (w.alloc (.cells #[.int .i64 20, .int .i64 nm, .string tx, .int .i64 kk, .int .i64 pl, .slice so q sc, .bool kb] 51)).alloc (.cells #[.int .i64 75, .int .i64 mn, .string mx, .int .i64 mk, .int .i64 mp, .slice uo q uc, .bool vb] 51) = W2 at hblk1 hblk2 bW2 ⊢
    have l1 : w.heap.size < W2.heap.size := (Array.getElem?_eq_some_iff.1 hblk1).1
    have l2 : w.heap.size + 1 < W2.heap.size := (Array.getElem?_eq_some_iff.1 hblk2).1
    have HB1 : Hid _ := hblk1
    have HB2 : Hid _ := hblk2
    clear hblk1 hblk2
    go_loopw [5] (fun v wr => ∃ k : Nat, k ≤ q ∧ v = .int .i64 (k : Int) ∧ (∀ j (h1 : j < ks.length) (h2 : j < vs.length), j < k → fitsT ks[j] vs[j] = true) ∧ Below W2.heap.size W2 wr) (fun v _ => q - (intOf v).toNat)
    case atStart => exact ⟨0, Nat.zero_le _, rfl, fun j _ _ h => absurd h (Nat.not_lt_zero _), Below.refl _ _⟩
    case round =>
      obtain ⟨k, hk, rfl, hall, hb⟩ := hrel
      have HALL : Hid (∀ j (h1 : j < ks.length) (h2 : j < vs.length), j < k → fitsT ks[j] vs[j] = true) := hall
      have hbw := Below.step bW2 hb
      have q1 := (hb.block _ l1).trans HB1.out
      have q2 := (hb.block _ l2).trans HB2.out
      have p5 : wr.cell? ⟨w.heap.size, 5, none⟩ = some (.slice so q sc) := by rw [cell_of_row _ _ _ _ _ _ q1]; rfl
      have v5 : wr.cell? ⟨w.heap.size + 1, 5, none⟩ = some (.slice uo q uc) := by rw [cell_of_row _ _ _ _ _ _ q2]; rfl
      have m1 : w.heap.size < wr.heap.size := lt_of_cell p5
      have m2 : w.heap.size + 1 < wr.heap.size := lt_of_cell v5
      clear hall
      by_cases hkq : k < q
      rotate_left
      · have HT : Hid (fitsT (.mk ⟨20, nm, tx, kk, pl⟩ ks) (.mk ⟨75, mn, mx, mk, mp⟩ vs) = true) := by
          show _ = _
          rw [HK.out, zipB_all (by rw [List.length_map, HQ.out, HQR.out])]
          intro j h1 h2
          rw [List.length_map] at h1
          simp only [List.getElem_map]
          exact HALL.out j h1 h2 (by have := HQ.out; omega)
        clear q1 q2
        go_wp2
        go_ret
        exact ⟨by rw [HT.out]; rfl, hbw⟩
      have hkl : k < ks.length := by have := HQ.out; omega
      have hkv : k < vs.length := by have := HQR.out; omega
      obtain ⟨gp, sp, hso, -, rowp, repp⟩ := HKS.out k hkl
      obtain ⟨gv, su, huo, -, rowv, repv⟩ := HVS.out k hkv
      subst hso
      subst huo
      have HCL := fun W (hW : Below wr.heap.size wr W) => HIH.out ks[k] (List.getElem_mem hkl) vs[k] sp su A W (HSP.out.kid _ (List.getElem_mem hkl)) (HPT.out _ (List.getElem_mem hkl)) (HSV.out.kid _ (List.getElem_mem hkv)) (repp.under (Below.step hbw hW)) (repv.under (Below.step hbw hW))
      obtain ⟨P1, hP1⟩ : ∃ P1, ks[k] = P1 := ⟨_, rfl⟩
      obtain ⟨V1, hV1⟩ : ∃ V1, vs[k] = V1 := ⟨_, rfl⟩
      rw [hP1] at rowp HCL
      rw [hV1] at rowv HCL
      have HP1 : Hid (ks[k] = P1) := hP1
      have HV1 : Hid (vs[k] = V1) := hV1
      obtain ⟨fv, hfv⟩ : ∃ fv, fitsT P1 V1 = fv := ⟨_, rfl⟩
      rw [hfv] at HCL
      have HCC : Hid (∀ W, Below wr.heap.size wr W → Calls Tryz.prog 62 #[.agg (sv P1 sp).toArray, .agg (sv V1 su).toArray] W fun e w' => e = .returned (.bool fv) ∧ Below W.heap.size W w') := HCL
      have HFV : Hid (fitsT P1 V1 = fv) := hfv
      have lgp : gp < wr.heap.size := Nat.lt_of_lt_of_le (lt_of_cell rowp.1) hbw.size
      have lgv : gv < wr.heap.size := Nat.lt_of_lt_of_le (lt_of_cell rowv.1) hbw.size
      obtain ⟨z, hz⟩ : ∃ z, w.heap.size = z := ⟨_, rfl⟩
      have HRP : Hid (Row7 w gp (k * 7) P1 sp) := rowp
      have HRV1 : Hid (Row7 w gv (k * 7) V1 su) := rowv
      have HBW : Hid (Below w.heap.size w wr) := hbw
      rw [hz] at p5 v5 m1 m2 q1 q2 ⊢
      have HCE : Hid (∀ W, Below wr.heap.size wr W → W.cell? ⟨z, 5, none⟩ = some (.slice (some ⟨gp, 0, none⟩) q sc) ∧ W.cell? ⟨z + 1, 5, none⟩ = some (.slice (some ⟨gv, 0, none⟩) q uc) ∧ W.cell? ⟨gp, k * 7, none⟩ = some (.int .i64 P1.nd.kind) ∧ W.cell? ⟨gp, k * 7 + 1, none⟩ = some (.int .i64 P1.nd.num) ∧ W.cell? ⟨gp, k * 7 + 2, none⟩ = some (.string P1.nd.text) ∧ W.cell? ⟨gp, k * 7 + 3, none⟩ = some (.int .i64 P1.nd.kids) ∧ W.cell? ⟨gp, k * 7 + 4, none⟩ = some (.int .i64 P1.nd.place) ∧ W.cell? ⟨gp, k * 7 + 5, none⟩ = some (.slice sp.1 sp.2.1 sp.2.2) ∧ W.cell? ⟨gp, k * 7 + 6, none⟩ = some (.bool (knT P1)) ∧ W.cell? ⟨gv, k * 7, none⟩ = some (.int .i64 V1.nd.kind) ∧ W.cell? ⟨gv, k * 7 + 1, none⟩ = some (.int .i64 V1.nd.num) ∧ W.cell? ⟨gv, k * 7 + 2, none⟩ = some (.string V1.nd.text) ∧ W.cell? ⟨gv, k * 7 + 3, none⟩ = some (.int .i64 V1.nd.kids) ∧ W.cell? ⟨gv, k * 7 + 4, none⟩ = some (.int .i64 V1.nd.place) ∧ W.cell? ⟨gv, k * 7 + 5, none⟩ = some (.slice su.1 su.2.1 su.2.2) ∧ W.cell? ⟨gv, k * 7 + 6, none⟩ = some (.bool (knT V1))) := by
        intro W hW
        have q1' := (hW.block z m1).trans q1
        have q2' := (hW.block (z + 1) m2).trans q2
        have hbw9 := But.ofBelow (S := fun _ => False) (Below.step HBW.out hW)
        obtain ⟨d0, d1, d2, d3, d4, d5, d6⟩ := HRP.out.but hbw9 (fun h => h)
        obtain ⟨b0, b1, b2, b3, b4, b5, b6⟩ := HRV1.out.but hbw9 (fun h => h)
        refine ⟨?_, ?_, d0, d1, d2, d3, d4, d5, d6, b0, b1, b2, b3, b4, b5, b6⟩
        · rw [cell_of_row _ _ _ _ _ _ q1']; rfl
        · rw [cell_of_row _ _ _ _ _ _ q2']; rfl
      have hki : (k : Int) < (q : Int) := by omega
      have hbD := (Below.refl wr.heap.size wr).drew
      clear rowp rowv repp repv HCL hP1 hV1 hfv q1 q2
      go_wp2_with fail
      go_region_held3 (fun w' => w'.cell? ⟨z, 5, none⟩ = some (.slice (some ⟨gp, 0, none⟩) q sc) ∧ w'.cell? ⟨z + 1, 5, none⟩ = some (.slice (some ⟨gv, 0, none⟩) q uc) ∧ w'.cell? ⟨gp, k * 7, none⟩ = some (.int .i64 P1.nd.kind) ∧ w'.cell? ⟨gp, k * 7 + 1, none⟩ = some (.int .i64 P1.nd.num) ∧ w'.cell? ⟨gp, k * 7 + 2, none⟩ = some (.string P1.nd.text) ∧ w'.cell? ⟨gp, k * 7 + 3, none⟩ = some (.int .i64 P1.nd.kids) ∧ w'.cell? ⟨gp, k * 7 + 4, none⟩ = some (.int .i64 P1.nd.place) ∧ w'.cell? ⟨gp, k * 7 + 5, none⟩ = some (.slice sp.1 sp.2.1 sp.2.2) ∧ w'.cell? ⟨gp, k * 7 + 6, none⟩ = some (.bool (knT P1)) ∧ w'.cell? ⟨gv, k * 7, none⟩ = some (.int .i64 V1.nd.kind) ∧ w'.cell? ⟨gv, k * 7 + 1, none⟩ = some (.int .i64 V1.nd.num) ∧ w'.cell? ⟨gv, k * 7 + 2, none⟩ = some (.string V1.nd.text) ∧ w'.cell? ⟨gv, k * 7 + 3, none⟩ = some (.int .i64 V1.nd.kids) ∧ w'.cell? ⟨gv, k * 7 + 4, none⟩ = some (.int .i64 V1.nd.place) ∧ w'.cell? ⟨gv, k * 7 + 5, none⟩ = some (.slice su.1 su.2.1 su.2.2) ∧ w'.cell? ⟨gv, k * 7 + 6, none⟩ = some (.bool (knT V1))) (first | exact HCE.out _ hbD | exact HCE.out _ (Below.step hbD hb3)) ((go_at_call 62; refine (HCC.out _ hbD).mono ?_; rintro e w3 ⟨rfl, hb3⟩))
      have hb9 := Below.step hb (Below.step hbD hb3)
      have hbb := Below.step HBW.out (Below.step hbD hb3)
      clear hb3 p5 v5
      cases fv
      · have HF : Hid (fitsT (.mk ⟨20, nm, tx, kk, pl⟩ ks) (.mk ⟨75, mn, mx, mk, mp⟩ vs) = false) := by
          show _ = _
          rw [HK.out]
          cases h9 : zipB (ks.map fitsT) vs
          · rfl
          · rw [zipB_all (by rw [List.length_map, HQ.out, HQR.out])] at h9
            have h8 := h9 k (by simpa using hkl) hkv
            simp only [List.getElem_map] at h8
            rw [HP1.out, HV1.out, HFV.out] at h8
            cases h8
        go_wp2
        go_ret
        exact ⟨by rw [HF.out]; rfl, hbb⟩
      · have HN : Hid (∀ j (h1 : j < ks.length) (h2 : j < vs.length), j < k + 1 → fitsT ks[j] vs[j] = true) := by
          intro j h1 h2 h3
          by_cases e : j = k
          · subst e; rw [HP1.out, HV1.out, HFV.out]
          · exact HALL.out j h1 h2 (by omega)
        go_wp2
        go_roundw
        case rel => exact ⟨k + 1, by omega, by go_num, HN.out, hb9⟩
        case measure => simp [intOf]; omega
  · rcases HSP.out.node.con rfl with hks | ⟨P0, hks, hp0⟩
    · subst hks
      have hq0 : q = 0 := by have := HQ.out; simpa using this.symm
      subst hq0
      have HK : Hid (fitsT (.mk ⟨19, nm, tx, kk, pl⟩ []) (.mk ⟨md, mn, mx, mk, mp⟩ vs) = (md == 74 && mx.toList == tx.toList)) := by show _ = _; rw [HV.out]; simp [fitsStep, Tre.nd]
      by_cases h74 : md = 74
      · subst h74
        go_enter Tryz.func62, Tryz.ntmps62
        go_wp2
        go_ret
        exact ⟨by rw [HK.out]; rfl, bW2⟩
      · have t74 : (md == 74) = false := by simpa using h74
        rw [t74] at HK
        go_enter Tryz.func62, Tryz.ntmps62
        go_wp2
        go_ret
        exact ⟨by rw [HK.out]; rfl, bW2⟩
    · subst hks
      have hq1 : 0 < q := by have := HQ.out; simp at this; omega
      have tq : ((q : Int) == 0) = false := by simp; omega
      by_cases h77 : md = 77
      rotate_left
      · have t77 : (md == 77) = false := by simpa using h77
        have HK : Hid (fitsT (.mk ⟨19, nm, tx, kk, pl⟩ [P0]) (.mk ⟨md, mn, mx, mk, mp⟩ vs) = false) := by
          show _ = _
          rw [HV.out]
          simp [fitsStep, Tre.nd, t77]
        go_enter Tryz.func62, Tryz.ntmps62
        go_wp2_with fail
        go_quiet (fail)
        have b8 := Below.step bW2 (quietB _ nq)
        go_wp2
        go_ret
        exact ⟨by rw [HK.out]; rfl, b8⟩
      subst h77
      obtain ⟨a, b, hvs⟩ := HSV.out.node.app rfl
      subst hvs
      have HK : Hid (fitsT (.mk ⟨19, nm, tx, kk, pl⟩ [P0]) (.mk ⟨77, mn, mx, mk, mp⟩ [a, b]) = (a.nd.text.toList == tx.toList && fitsT P0 b)) := by
        show _ = _
        rw [HV.out]
        simp [fitsStep, Tre.nd, Tre.ks]
      have hr1 : 1 < r := by have := HQR.out; simp at this; omega
      have hr0 : 0 < r := by omega
      have hr1i : (1 : Int) < (r : Int) := by omega
      have hr0i : (0 : Int) < (r : Int) := by omega
      have hq1i : (0 : Int) < (q : Int) := by omega
      obtain ⟨ga, sa, huo, -, rowa, -⟩ := HVS.out 0 (by simp)
      obtain ⟨ga', sb, huo', -, rowb, repb⟩ := HVS.out 1 (by simp)
      rw [huo] at huo'
      simp only [Option.some.injEq, Addr.mk.injEq, and_true] at huo'
      subst huo'
      subst huo
      obtain ⟨gp, sp, hso, -, hrow, hrep⟩ := HKS.out 0 (by simp)
      subst hso
      simp only [List.getElem_cons_zero, List.getElem_cons_succ, Nat.zero_mul, Nat.one_mul] at hrow hrep rowa rowb repb
      have lga : ga < w.heap.size := lt_of_cell rowa.1
      have lgp : gp < w.heap.size := lt_of_cell hrow.1
      have HB1 : Hid (((w.alloc (.cells #[.int .i64 19, .int .i64 nm, .string tx, .int .i64 kk, .int .i64 pl, .slice (some ⟨gp, 0, none⟩) q sc, .bool kb] 51)).alloc (.cells #[.int .i64 77, .int .i64 mn, .string mx, .int .i64 mk, .int .i64 mp, .slice (some ⟨ga, 0, none⟩) r uc, .bool vb] 51)).heap[w.heap.size]? = some (Obj.cells #[.int .i64 19, .int .i64 nm, .string tx, .int .i64 kk, .int .i64 pl, .slice (some ⟨gp, 0, none⟩) q sc, .bool kb] 51 (0, 0))) := (Below.heap_alloc _ _ _ (by simp)).trans (heap_alloc_new _ _)
      have HB2 : Hid (((w.alloc (.cells #[.int .i64 19, .int .i64 nm, .string tx, .int .i64 kk, .int .i64 pl, .slice (some ⟨gp, 0, none⟩) q sc, .bool kb] 51)).alloc (.cells #[.int .i64 77, .int .i64 mn, .string mx, .int .i64 mk, .int .i64 mp, .slice (some ⟨ga, 0, none⟩) r uc, .bool vb] 51)).heap[w.heap.size + 1]? = some (Obj.cells #[.int .i64 77, .int .i64 mn, .string mx, .int .i64 mk, .int .i64 mp, .slice (some ⟨ga, 0, none⟩) r uc, .bool vb] 51 (0, 0))) := by
        have h9 := heap_alloc_new (w.alloc (.cells #[.int .i64 19, .int .i64 nm, .string tx, .int .i64 kk, .int .i64 pl, .slice (some ⟨gp, 0, none⟩) q sc, .bool kb] 51)) (.cells #[.int .i64 77, .int .i64 mn, .string mx, .int .i64 mk, .int .i64 mp, .slice (some ⟨ga, 0, none⟩) r uc, .bool vb] 51)
        rw [World.size_alloc] at h9
        exact h9
      have HROW : Hid (Row7 w gp 0 P0 sp) := hrow
      have HRA : Hid (Row7 w ga 0 a sa) := rowa
      have HRB : Hid (Row7 w ga 7 b sb) := rowb
      have HIC : Hid (∀ W, Below w.heap.size w W → Calls Tryz.prog 62 #[.agg (sv P0 sp).toArray, .agg (sv b sb).toArray] W fun e w' => e = .returned (.bool (fitsT P0 b)) ∧ Below W.heap.size W w') := by
        intro W hW
        exact HIH.out P0 (by simp) b sp sb A W (HSP.out.kid P0 (by simp)) hp0 (HSV.out.kid b (by simp)) (hrep.under hW) (repb.under hW)
      clear hrow hrep rowa rowb repb HIH HKS HVS HRV HSP HSV HV hsv'
      obtain ⟨ax, hax⟩ : ∃ ax, a.nd.text = ax := ⟨_, rfl⟩
      have HAX : Hid (a.nd.text = ax) := hax
      rw [hax] at HK
      clear hax
      go_enter Tryz.func62, Tryz.ntmps62
      go_wp2_with fail
      have hblk1 := HB1.out
      have hblk2 := HB2.out
      clear HB1 HB2
      generalize (w.alloc (.cells #[.int .i64 19, .int .i64 nm, .string tx, .int .i64 kk, .int .i64 pl, .slice (some ⟨gp, 0, none⟩) q sc, .bool kb] 51)).alloc (.cells #[.int .i64 77, .int .i64 mn, .string mx, .int .i64 mk, .int .i64 mp, .slice (some ⟨ga, 0, none⟩) r uc, .bool vb] 51) = W2 at hblk1 hblk2 bW2 ⊢
      have l1 : w.heap.size < W2.heap.size := (Array.getElem?_eq_some_iff.1 hblk1).1
      have l2 : w.heap.size + 1 < W2.heap.size := (Array.getElem?_eq_some_iff.1 hblk2).1
      obtain ⟨z, hz⟩ : ∃ z, w.heap.size = z := ⟨_, rfl⟩
      have HZ : Hid (w.heap.size = z) := hz
      rw [hz] at hblk1 hblk2 l1 l2 lga lgp ⊢
      clear hz
      have HCE : Hid (∀ W, Below W2.heap.size W2 W → W.cell? ⟨z, 2, none⟩ = some (.string tx) ∧ W.cell? ⟨z, 5, none⟩ = some (.slice (some ⟨gp, 0, none⟩) q sc) ∧ W.cell? ⟨z + 1, 0, none⟩ = some (.int .i64 77) ∧ W.cell? ⟨z + 1, 5, none⟩ = some (.slice (some ⟨ga, 0, none⟩) r uc) ∧ W.cell? ⟨ga, 2, none⟩ = some (.string ax) ∧ W.cell? ⟨gp, 0, none⟩ = some (.int .i64 P0.nd.kind) ∧ W.cell? ⟨gp, 1, none⟩ = some (.int .i64 P0.nd.num) ∧ W.cell? ⟨gp, 2, none⟩ = some (.string P0.nd.text) ∧ W.cell? ⟨gp, 3, none⟩ = some (.int .i64 P0.nd.kids) ∧ W.cell? ⟨gp, 4, none⟩ = some (.int .i64 P0.nd.place) ∧ W.cell? ⟨gp, 5, none⟩ = some (.slice sp.1 sp.2.1 sp.2.2) ∧ W.cell? ⟨gp, 6, none⟩ = some (.bool (knT P0)) ∧ W.cell? ⟨ga, 7, none⟩ = some (.int .i64 b.nd.kind) ∧ W.cell? ⟨ga, 8, none⟩ = some (.int .i64 b.nd.num) ∧ W.cell? ⟨ga, 9, none⟩ = some (.string b.nd.text) ∧ W.cell? ⟨ga, 10, none⟩ = some (.int .i64 b.nd.kids) ∧ W.cell? ⟨ga, 11, none⟩ = some (.int .i64 b.nd.place) ∧ W.cell? ⟨ga, 12, none⟩ = some (.slice sb.1 sb.2.1 sb.2.2) ∧ W.cell? ⟨ga, 13, none⟩ = some (.bool (knT b))) := by
        intro W hW
        have q1 := (hW.block z l1).trans hblk1
        have q2 := (hW.block (z + 1) l2).trans hblk2
        have hbw := But.ofBelow (S := fun _ => False) (Below.step bW2 hW)
        obtain ⟨d0, d1, d2, d3, d4, d5, d6⟩ := HROW.out.but hbw (fun h => h)
        obtain ⟨-, -, a2, -, -, -, -⟩ := HRA.out.but hbw (fun h => h)
        obtain ⟨b0, b1, b2, b3, b4, b5, b6⟩ := HRB.out.but hbw (fun h => h)
        rw [HAX.out] at a2
        simp only [Nat.zero_add, Nat.reduceAdd] at d0 d1 d2 d3 d4 d5 d6 a2 b0 b1 b2 b3 b4 b5 b6
        refine ⟨?_, ?_, ?_, ?_, a2, d0, d1, d2, d3, d4, d5, d6, b0, b1, b2, b3, b4, b5, b6⟩
        · rw [cell_of_row _ _ _ _ _ _ q1]; rfl
        · rw [cell_of_row _ _ _ _ _ _ q1]; rfl
        · rw [cell_of_row _ _ _ _ _ _ q2]; rfl
        · rw [cell_of_row _ _ _ _ _ _ q2]; rfl
      have lga2 : ga < W2.heap.size := by omega
      have lgp2 : gp < W2.heap.size := by omega
      have hbD := (Below.refl W2.heap.size W2).drew
      clear hblk1 hblk2
      cases hteq : (ax.toList == tx.toList)
      · rw [hteq] at HK
        obtain ⟨x1, x2, x3, x4, x5, -⟩ := HCE.out W2 (Below.refl _ _)
        go_quiet (fail)
        have b8 := Below.step bW2 (quietB W2 nq)
        clear x1 x2 x3 x4 x5
        go_wp2
        go_ret
        exact ⟨by rw [HK.out]; rfl, b8⟩
      · rw [hteq] at HK
        have HCC : Hid (∀ W, Below W2.heap.size W2 W → Calls Tryz.prog 62 #[.agg (sv P0 sp).toArray, .agg (sv b sb).toArray] W fun e w' => e = .returned (.bool (fitsT P0 b)) ∧ Below W.heap.size W w') := fun W hW => HIC.out W (Below.step bW2 hW)
        go_region_held3 (fun w' => w'.cell? ⟨z, 2, none⟩ = some (.string tx) ∧ w'.cell? ⟨z, 5, none⟩ = some (.slice (some ⟨gp, 0, none⟩) q sc) ∧ w'.cell? ⟨z + 1, 0, none⟩ = some (.int .i64 77) ∧ w'.cell? ⟨z + 1, 5, none⟩ = some (.slice (some ⟨ga, 0, none⟩) r uc) ∧ w'.cell? ⟨ga, 2, none⟩ = some (.string ax) ∧ w'.cell? ⟨gp, 0, none⟩ = some (.int .i64 P0.nd.kind) ∧ w'.cell? ⟨gp, 1, none⟩ = some (.int .i64 P0.nd.num) ∧ w'.cell? ⟨gp, 2, none⟩ = some (.string P0.nd.text) ∧ w'.cell? ⟨gp, 3, none⟩ = some (.int .i64 P0.nd.kids) ∧ w'.cell? ⟨gp, 4, none⟩ = some (.int .i64 P0.nd.place) ∧ w'.cell? ⟨gp, 5, none⟩ = some (.slice sp.1 sp.2.1 sp.2.2) ∧ w'.cell? ⟨gp, 6, none⟩ = some (.bool (knT P0)) ∧ w'.cell? ⟨ga, 7, none⟩ = some (.int .i64 b.nd.kind) ∧ w'.cell? ⟨ga, 8, none⟩ = some (.int .i64 b.nd.num) ∧ w'.cell? ⟨ga, 9, none⟩ = some (.string b.nd.text) ∧ w'.cell? ⟨ga, 10, none⟩ = some (.int .i64 b.nd.kids) ∧ w'.cell? ⟨ga, 11, none⟩ = some (.int .i64 b.nd.place) ∧ w'.cell? ⟨ga, 12, none⟩ = some (.slice sb.1 sb.2.1 sb.2.2) ∧ w'.cell? ⟨ga, 13, none⟩ = some (.bool (knT b))) (first | exact HCE.out _ hbD | exact HCE.out _ (Below.step hbD hb3)) ((go_at_call 62; refine (HCC.out _ hbD).mono ?_; rintro e w3 ⟨rfl, hb3⟩))
        have hbb := Below.step bW2 (Below.step hbD hb3)
        clear hb3
        go_wp2
        go_ret
        exact ⟨by rw [HK.out]; rfl, hbb⟩
  · have HK : Hid (fitsT (.mk ⟨90, nm, tx, kk, pl⟩ ks) (.mk ⟨md, mn, mx, mk, mp⟩ vs) = true) := by show _ = _; rw [HV.out]; simp [fitsStep]
    go_enter Tryz.func62, Tryz.ntmps62
    go_wp2_with fail
    go_quiet (fail)
    have b8 := Below.step bW2 (quietB _ nq)
    go_wp2
    go_ret
    exact ⟨by rw [HK.out]; rfl, b8⟩
  · obtain ⟨P0, hks, hp0⟩ := HSP.out.node.qas rfl
    subst hks
    have HK : Hid (fitsT (.mk ⟨91, nm, tx, kk, pl⟩ [P0]) (.mk ⟨md, mn, mx, mk, mp⟩ vs) = fitsT P0 (.mk ⟨md, mn, mx, mk, mp⟩ vs)) := by show _ = _; rw [HV.out]; simp [fitsStep]
    obtain ⟨gp, sp, hso, -, hrow, hrep⟩ := HKS.out 0 (by simp)
    subst hso
    simp only [List.getElem_cons_zero, Nat.zero_mul] at hrow hrep
    have hq0 : 0 < q := by have := HQ.out; simp at this; omega
    have lgp : gp < w.heap.size := lt_of_cell hrow.1
    have HC : Hid (∀ W, Below ((w.alloc (.cells #[.int .i64 91, .int .i64 nm, .string tx, .int .i64 kk, .int .i64 pl, .slice (some ⟨gp, 0, none⟩) q sc, .bool kb] 51)).alloc (.cells #[.int .i64 md, .int .i64 mn, .string mx, .int .i64 mk, .int .i64 mp, .slice uo r uc, .bool vb] 51)).heap.size ((w.alloc (.cells #[.int .i64 91, .int .i64 nm, .string tx, .int .i64 kk, .int .i64 pl, .slice (some ⟨gp, 0, none⟩) q sc, .bool kb] 51)).alloc (.cells #[.int .i64 md, .int .i64 mn, .string mx, .int .i64 mk, .int .i64 mp, .slice uo r uc, .bool vb] 51)) W → Calls Tryz.prog 62 #[.agg (sv P0 sp).toArray, .agg #[.int .i64 md, .int .i64 mn, .string mx, .int .i64 mk, .int .i64 mp, .slice uo r uc, .bool vb]] W fun e w' => e = .returned (.bool (fitsT P0 (.mk ⟨md, mn, mx, mk, mp⟩ vs))) ∧ Below W.heap.size W w') := by
      intro W hW
      have hbb := Below.step bW2 hW
      have h9 := HIH.out P0 (by simp) (.mk ⟨md, mn, mx, mk, mp⟩ vs) sp (uo, vs.length, uc) A W (HSP.out.kid P0 (by simp)) hp0 HSV.out (hrep.under hbb) (HRV.out.under hbb)
      rw [hsv'] at h9
      exact h9
    have hblk1 : ((w.alloc (.cells #[.int .i64 91, .int .i64 nm, .string tx, .int .i64 kk, .int .i64 pl, .slice (some ⟨gp, 0, none⟩) q sc, .bool kb] 51)).alloc (.cells #[.int .i64 md, .int .i64 mn, .string mx, .int .i64 mk, .int .i64 mp, .slice uo r uc, .bool vb] 51)).heap[w.heap.size]? = some (.cells #[.int .i64 91, .int .i64 nm, .string tx, .int .i64 kk, .int .i64 pl, .slice (some ⟨gp, 0, none⟩) q sc, .bool kb] 51 (0, 0)) := (Below.heap_alloc _ _ _ (by simp)).trans (heap_alloc_new _ _)
    have hblk2 : ((w.alloc (.cells #[.int .i64 91, .int .i64 nm, .string tx, .int .i64 kk, .int .i64 pl, .slice (some ⟨gp, 0, none⟩) q sc, .bool kb] 51)).alloc (.cells #[.int .i64 md, .int .i64 mn, .string mx, .int .i64 mk, .int .i64 mp, .slice uo r uc, .bool vb] 51)).heap[w.heap.size + 1]? = some (.cells #[.int .i64 md, .int .i64 mn, .string mx, .int .i64 mk, .int .i64 mp, .slice uo r uc, .bool vb] 51 (0, 0)) := by
      have h9 := heap_alloc_new (w.alloc (.cells #[.int .i64 91, .int .i64 nm, .string tx, .int .i64 kk, .int .i64 pl, .slice (some ⟨gp, 0, none⟩) q sc, .bool kb] 51)) (.cells #[.int .i64 md, .int .i64 mn, .string mx, .int .i64 mk, .int .i64 mp, .slice uo r uc, .bool vb] 51)
      rw [World.size_alloc] at h9
      exact h9
    have HB1 : Hid _ := hblk1
    have HB2 : Hid _ := hblk2
    have HROW : Hid (Row7 w gp 0 P0 sp) := hrow
    clear hblk1 hblk2 hrow hrep HIH HKS HVS HRV HSP HSV HV hsv'
    go_enter Tryz.func62, Tryz.ntmps62
    go_wp2_with fail
    have hblk1 := HB1.out
    have hblk2 := HB2.out
    have hC := HC.out
    clear HB1 HB2 HC
    generalize (w.alloc (.cells #[.int .i64 91, .int .i64 nm, .string tx, .int .i64 kk, .int .i64 pl, .slice (some ⟨gp, 0, none⟩) q sc, .bool kb] 51)).alloc (.cells #[.int .i64 md, .int .i64 mn, .string mx, .int .i64 mk, .int .i64 mp, .slice uo r uc, .bool vb] 51) = W2 at hblk1 hblk2 hC bW2 ⊢
    have l1 : w.heap.size < W2.heap.size := (Array.getElem?_eq_some_iff.1 hblk1).1
    have l2 : w.heap.size + 1 < W2.heap.size := (Array.getElem?_eq_some_iff.1 hblk2).1
    obtain ⟨z, hz⟩ : ∃ z, w.heap.size = z := ⟨_, rfl⟩
    rw [hz] at hblk1 hblk2 l1 l2 lgp ⊢
    have HZ : Hid (w.heap.size = z) := hz
    clear hz
    have HCE : Hid (∀ W, Below W2.heap.size W2 W → W.cell? ⟨z, 0, none⟩ = some (.int .i64 91) ∧ W.cell? ⟨z, 5, none⟩ = some (.slice (some ⟨gp, 0, none⟩) q sc) ∧ W.cell? ⟨z + 1, 0, none⟩ = some (.int .i64 md) ∧ W.cell? ⟨z + 1, 1, none⟩ = some (.int .i64 mn) ∧ W.cell? ⟨z + 1, 2, none⟩ = some (.string mx) ∧ W.cell? ⟨z + 1, 3, none⟩ = some (.int .i64 mk) ∧ W.cell? ⟨z + 1, 4, none⟩ = some (.int .i64 mp) ∧ W.cell? ⟨z + 1, 5, none⟩ = some (.slice uo r uc) ∧ W.cell? ⟨z + 1, 6, none⟩ = some (.bool vb) ∧ W.cell? ⟨gp, 0, none⟩ = some (.int .i64 P0.nd.kind) ∧ W.cell? ⟨gp, 1, none⟩ = some (.int .i64 P0.nd.num) ∧ W.cell? ⟨gp, 2, none⟩ = some (.string P0.nd.text) ∧ W.cell? ⟨gp, 3, none⟩ = some (.int .i64 P0.nd.kids) ∧ W.cell? ⟨gp, 4, none⟩ = some (.int .i64 P0.nd.place) ∧ W.cell? ⟨gp, 5, none⟩ = some (.slice sp.1 sp.2.1 sp.2.2) ∧ W.cell? ⟨gp, 6, none⟩ = some (.bool (knT P0))) := by
      intro W hW
      have q1 := (hW.block z l1).trans hblk1
      have q2 := (hW.block (z + 1) l2).trans hblk2
      obtain ⟨d0, d1, d2, d3, d4, d5, d6⟩ := HROW.out.but (But.ofBelow (S := fun _ => False) (Below.step bW2 hW)) (fun h => h)
      simp only [Nat.zero_add] at d0 d1 d2 d3 d4 d5 d6
      refine ⟨?_, ?_, ?_, ?_, ?_, ?_, ?_, ?_, ?_, d0, d1, d2, d3, d4, d5, d6⟩
      · rw [cell_of_row _ _ _ _ _ _ q1]; rfl
      · rw [cell_of_row _ _ _ _ _ _ q1]; rfl
      all_goals (rw [cell_of_row _ _ _ _ _ _ q2]; rfl)
    have HCC : Hid (∀ W, Below W2.heap.size W2 W → Calls Tryz.prog 62 #[.agg (sv P0 sp).toArray, .agg #[.int .i64 md, .int .i64 mn, .string mx, .int .i64 mk, .int .i64 mp, .slice uo r uc, .bool vb]] W fun e w' => e = .returned (.bool (fitsT P0 (.mk ⟨md, mn, mx, mk, mp⟩ vs))) ∧ Below W.heap.size W w') := hC
    have hbD := (Below.refl W2.heap.size W2).drew
    clear hC hblk1 hblk2
    go_region_held3 (fun w' => w'.cell? ⟨z, 0, none⟩ = some (.int .i64 91) ∧ w'.cell? ⟨z, 5, none⟩ = some (.slice (some ⟨gp, 0, none⟩) q sc) ∧ w'.cell? ⟨z + 1, 0, none⟩ = some (.int .i64 md) ∧ w'.cell? ⟨z + 1, 1, none⟩ = some (.int .i64 mn) ∧ w'.cell? ⟨z + 1, 2, none⟩ = some (.string mx) ∧ w'.cell? ⟨z + 1, 3, none⟩ = some (.int .i64 mk) ∧ w'.cell? ⟨z + 1, 4, none⟩ = some (.int .i64 mp) ∧ w'.cell? ⟨z + 1, 5, none⟩ = some (.slice uo r uc) ∧ w'.cell? ⟨z + 1, 6, none⟩ = some (.bool vb) ∧ w'.cell? ⟨gp, 0, none⟩ = some (.int .i64 P0.nd.kind) ∧ w'.cell? ⟨gp, 1, none⟩ = some (.int .i64 P0.nd.num) ∧ w'.cell? ⟨gp, 2, none⟩ = some (.string P0.nd.text) ∧ w'.cell? ⟨gp, 3, none⟩ = some (.int .i64 P0.nd.kids) ∧ w'.cell? ⟨gp, 4, none⟩ = some (.int .i64 P0.nd.place) ∧ w'.cell? ⟨gp, 5, none⟩ = some (.slice sp.1 sp.2.1 sp.2.2) ∧ w'.cell? ⟨gp, 6, none⟩ = some (.bool (knT P0))) (first | exact HCE.out _ hbD | exact HCE.out _ (Below.step hbD hb3)) ((go_at_call 62; refine (HCC.out _ hbD).mono ?_; rintro e w3 ⟨rfl, hb3⟩))
    have hbb := Below.step bW2 (Below.step hbD hb3)
    clear hb3
    go_wp2
    go_ret
    exact ⟨by rw [HK.out]; rfl, hbb⟩
end Go.Proofs.YtemancdlnakkmaaGreat
