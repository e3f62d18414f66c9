import Derived.Test.YtedlofpgddjpgaaGreatWBQ
import Derived.Deep.CutRange
import Derived.Deep.RegionWith
import Derived.Deep.RegionHeld3
import Derived.BigQuiet
import Derived.BigGuard
namespace Go.Proofs.YtedlofpgddjpgaaGreat
open Go.RowKit
def LsRes (k : PasAt) (t : List Nd) (m : Nat) (ys : List Sp) (bd us : Int → Nat) (w : World) (A : Nat → Prop) (r : Tre × (Int → Option Tre)) (e : Ending) (w' : World) : Prop :=
  ∃ s : Sl3, e = .returned (.agg (sv r.1 s).toArray) ∧ SRep w' A r.1 s ∧ Pas k t m ys bd us w' A r.2 ∧ But k.W w w'
theorem three_blocks (w : World) (v0 v1 v2 : Array Value) (t0 t1 t2 : TypeId) :
    (((w.alloc (.cells v0 t0)).alloc (.cells v1 t1)).alloc (.cells v2 t2)).heap[w.heap.size]? = some (.cells v0 t0 (0, 0)) ∧ (((w.alloc (.cells v0 t0)).alloc (.cells v1 t1)).alloc (.cells v2 t2)).heap[w.heap.size + 1]? = some (.cells v1 t1 (0, 0)) ∧ (((w.alloc (.cells v0 t0)).alloc (.cells v1 t1)).alloc (.cells v2 t2)).heap[w.heap.size + 2]? = some (.cells v2 t2 (0, 0)) ∧ (((w.alloc (.cells v0 t0)).alloc (.cells v1 t1)).alloc (.cells v2 t2)).heap.size = w.heap.size + 3 ∧ Below w.heap.size w (((w.alloc (.cells v0 t0)).alloc (.cells v1 t1)).alloc (.cells v2 t2)) := by
  have h0 := heap_alloc_new w (.cells v0 t0)
  have h1 := heap_alloc_new (w.alloc (.cells v0 t0)) (.cells v1 t1)
  have h2 := heap_alloc_new ((w.alloc (.cells v0 t0)).alloc (.cells v1 t1)) (.cells v2 t2)
  simp only [World.size_alloc] at h0 h1 h2
  have b0 := (Below.refl w.heap.size w).alloc (Nat.le_refl _) (.cells v0 t0)
  have b1 := b0.alloc b0.size (.cells v1 t1)
  have b2 := b1.alloc b1.size (.cells v2 t2)
  refine ⟨?_, ?_, h2, by simp, b2⟩
  · exact (Below.heap_alloc _ _ _ (by simp; omega)).trans ((Below.heap_alloc _ _ _ (by simp)).trans h0)
  · exact (Below.heap_alloc _ _ _ (by simp)).trans h1
theorem treT_nd (t : List Nd) (f i : Nat) : (treT t f i).nd = ndAt t i := by cases f <;> rfl
set_option maxRecDepth 20000 in
set_option maxHeartbeats 8000000 in
theorem less_any (k : PasAt) (t : List Nd) (m : Nat) (HM : Hid (t.length = m)) (hm : m ≤ 60000) (S ys : List Sp) (HAF : Hid (after t m = some (S, ys))) (bd us : Int → Nat) (HPL : Hid (∀ f i, i < f → i < m → PlT (treT t f i))) :
    ∀ (f : Nat), ∀ (i : Nat) (w : World) (A : Nat → Prop) (P : Int → Option Tre), i < f → i < m → Pas k t m ys bd us w A P → PGood P → (∀ q, w.heap.size ≤ q → A q) → Calls Tryz.prog 35 #[.agg #[.slice (some ⟨k.b0, k.o0, none⟩) m k.cap, .slice (some ⟨k.gz, 0, none⟩) m k.cz, .slice (some ⟨k.b2, 0, none⟩) 200001 k.c2, .slice (some ⟨k.b3, 0, none⟩) 200001 k.c3, .slice (some ⟨k.g4, 0, none⟩) 200001 k.c4, .slice (some ⟨k.g5, 0, none⟩) 200001 k.c5], .int .i64 (i : Int)] w fun e w' => LsRes k t m ys bd us w A (lessT bd us (treT t f i) P) e w' := by
  intro f
  induction f with
  | zero => intro i w A P h; exact absurd h (Nat.not_lt_zero _)
  | succ f ih =>
    intro i w A P hif him hPas hPG hA
    have hit : i < t.length := by have := HM.out; omega
    have HIH : Hid (∀ (i : Nat) (w : World) (A : Nat → Prop) (P : Int → Option Tre), i < f → i < m → Pas k t m ys bd us w A P → PGood P → (∀ q, w.heap.size ≤ q → A q) → Calls Tryz.prog 35 #[.agg #[.slice (some ⟨k.b0, k.o0, none⟩) m k.cap, .slice (some ⟨k.gz, 0, none⟩) m k.cz, .slice (some ⟨k.b2, 0, none⟩) 200001 k.c2, .slice (some ⟨k.b3, 0, none⟩) 200001 k.c3, .slice (some ⟨k.g4, 0, none⟩) 200001 k.c4, .slice (some ⟨k.g5, 0, none⟩) 200001 k.c5], .int .i64 (i : Int)] w fun e w' => LsRes k t m ys bd us w A (lessT bd us (treT t f i) P) e w') := ih
    have HPT : Hid (PlT (treT t (f + 1) i)) := HPL.out (f + 1) i hif him
    have HTT : Hid (treT t (f + 1) i = .mk (ndAt t i) ((kidsRt t i).map (treT t f))) := rfl
    have HLT : Hid (∀ r ∈ kidsRt t i, r < i) := kidsRt_lt HAF.out him
    obtain ⟨Si, hSi, hkt, hK⟩ := kids_atS HAF.out i him
    have hKR := kidsRt_eq hSi hkt
    obtain ⟨K, hKe⟩ : ∃ K, Si.drop (Si.length - (t[i]).kids.toNat) = K := ⟨_, rfl⟩
    rw [hKe] at hK hKR
    obtain ⟨q, hq⟩ : ∃ q, K.length = q := ⟨_, rfl⟩
    have HQ : Hid (K.length = q) := hq
    have hq6 : q ≤ 60000 := by have := hK.len; omega
    have HYL : Hid (ys.length = m) := (after_fine HAF.out).len
    have HRTS : Hid (∀ W, Below w.heap.size w W → Calls Tryz.prog 32 #[.slice (some ⟨k.b0, k.o0, none⟩) m k.cap, .slice (some ⟨k.gz, 0, none⟩) m k.cz, .int .i64 (i : Int)] W fun e w' => ∃ G, e = .returned (.slice (some ⟨G, 0, none⟩) q q) ∧ Ints w' W.heap.size G q q (rts K) ∧ Below W.heap.size W w') :=
      fun W hW => roots60_any t ys K m i q HM hm hK hq him HYL (some ⟨k.b0, k.o0, none⟩) k.cap k.gz k.cz k.Bz W (hPas.nodes.below hW) (hPas.ints.below hW)
    have HRK : Hid (rts K = (kidsRt t i).map fun (n : Nat) => (n : Int)) := by show _ = _; rw [hKR]; unfold rts; simp
    have HRL : Hid ((kidsRt t i).length = q) := by show _ = _; rw [hKR, List.length_map]; exact hq
    obtain ⟨b0', o0', e0, hn⟩ := hPas.nodes i hit
    simp only [Option.some.injEq, Addr.mk.injEq, and_true] at e0
    obtain ⟨rfl, rfl⟩ := e0
    rw [show t[i] = ndAt t i from by rw [ndAt_get hit]] at hn
    obtain ⟨c0, c1, c2, c3, c4⟩ := hn
    have HPA : Hid (Pas k t m ys bd us w A P) := hPas
    have HPG : Hid (PGood P) := hPG
    have HA : Hid (∀ q, w.heap.size ≤ q → A q) := hA
    have hlb : k.b0 < w.heap.size := lt_of_cell c0
    rw [HTT.out] at HPT ⊢
    obtain ⟨n, hnd⟩ : ∃ n, ndAt t i = n := ⟨_, rfl⟩
    rw [hnd] at c0 c1 c2 c3 c4 HPT ⊢
    have HND : Hid (ndAt t i = n) := hnd
    obtain ⟨kd, nm, tx, kk, pl⟩ := n
    simp only at c0 c1 c2 c3 c4
    clear hnd
    have him2 : (i : Int) < (m : Int) := by omega
    have hi0 : (0 : Int) ≤ (i : Int) := by omega
    clear hPas hPG hA ih hSi hkt hK hKR hKe hq HTT
    obtain ⟨rX, rZ, rN, hsz, hB0⟩ := three_blocks w #[.slice (some ⟨k.b0, k.o0, none⟩) m k.cap, .slice (some ⟨k.gz, 0, none⟩) m k.cz, .slice (some ⟨k.b2, 0, none⟩) 200001 k.c2, .slice (some ⟨k.b3, 0, none⟩) 200001 k.c3, .slice (some ⟨k.g4, 0, none⟩) 200001 k.c4, .slice (some ⟨k.g5, 0, none⟩) 200001 k.c5] #[.int .i64 0, .int .i64 0, .string ⟨#[]⟩, .int .i64 0, .int .i64 0, .slice none 0 0, .bool false] #[.int .i64 kd, .int .i64 nm, .string tx, .int .i64 kk, .int .i64 pl] 56 59 34
    have HRX : Hid _ := rX
    have HRZ : Hid _ := rZ
    have HRN : Hid _ := rN
    have HSZ : Hid _ := hsz
    have HB0 : Hid _ := hB0
    obtain ⟨R, hR⟩ : ∃ R, lessT bd us (.mk ⟨kd, nm, tx, kk, pl⟩ ((kidsRt t i).map (treT t f))) P = R := ⟨_, rfl⟩
    have HR : Hid (lessT bd us (.mk ⟨kd, nm, tx, kk, pl⟩ ((kidsRt t i).map (treT t f))) P = R) := hR
    rw [hR]
    clear rX rZ rN hsz hB0 hR
    go_enter Tryz.func35, Tryz.ntmps35
    go_upto_region 2 with fail
    have rX := HRX.out
    have rZ := HRZ.out
    have rN := HRN.out
    have hsz := HSZ.out
    have hB0 := HB0.out
    clear HRX HRZ HRN HSZ HB0 c0 c1 c2 c3 c4
    generalize (((w.alloc (.cells #[.slice (some ⟨k.b0, k.o0, none⟩) m k.cap, .slice (some ⟨k.gz, 0, none⟩) m k.cz, .slice (some ⟨k.b2, 0, none⟩) 200001 k.c2, .slice (some ⟨k.b3, 0, none⟩) 200001 k.c3, .slice (some ⟨k.g4, 0, none⟩) 200001 k.c4, .slice (some ⟨k.g5, 0, none⟩) 200001 k.c5] 56)).alloc (.cells #[.int .i64 0, .int .i64 0, .string ⟨#[]⟩, .int .i64 0, .int .i64 0, .slice none 0 0, .bool false] 59)).alloc (.cells #[.int .i64 kd, .int .i64 nm, .string tx, .int .i64 kk, .int .i64 pl] 34)) = W0 at rX rZ rN hsz hB0 ⊢
    obtain ⟨z, hz⟩ : ∃ z, w.heap.size = z := ⟨_, rfl⟩
    have HZ : Hid (w.heap.size = z) := hz
    have e2 : z + 1 + 1 = z + 2 := rfl
    simp only [hz] at rX rZ rN hsz hlb
    simp only [hz, e2]
    clear e2 hz
    have HC := HRTS.out W0 hB0
    clear HRTS
    have x0 : W0.cell? ⟨z, 0, none⟩ = some (.slice (some ⟨k.b0, k.o0, none⟩) m k.cap) := by rw [cell_of_row _ _ _ _ _ _ rX]; rfl
    have x1 : W0.cell? ⟨z, 1, none⟩ = some (.slice (some ⟨k.gz, 0, none⟩) m k.cz) := by rw [cell_of_row _ _ _ _ _ _ rX]; rfl
    have lz : z < W0.heap.size := lt_of_cell x0
    have HRX : Hid _ := rX
    have HRZ : Hid _ := rZ
    have HRN : Hid _ := rN
    have HSZ : Hid _ := hsz
    have HB0 : Hid _ := hB0
    clear rX rZ rN hsz hB0
    go_wp2_with fail
    refine HC.mono ?_
    rintro e w1 ⟨G, rfl, hG, hb1⟩
    have rX := (hb1.block z lz).trans HRX.out
    have rZ := (hb1.block (z + 1) (by rw [HSZ.out]; omega)).trans HRZ.out
    have rN := (hb1.block (z + 2) (by rw [HSZ.out]; omega)).trans HRN.out
    have hB1 := Below.step HB0.out hb1
    have hGb := hG.block
    have hGz : z + 3 ≤ G := by have := HSZ.out; omega
    have HGz : Hid (z + 3 ≤ G) := hGz
    have hz1 : z + 3 ≤ w1.heap.size := by omega
    clear HC x0 x1 lz HRX HRZ HRN HB0 HSZ hb1
    have HG : Hid (Ints w1 W0.heap.size G q q (rts K)) := hG
    clear hG
    have HP1 : Hid (Pas k t m ys bd us w1 (fun q => A q ∧ q ≠ z + 1) P) := HPA.out.under hB1 (fun q hq hlt => ⟨hq, by have := HZ.out; omega⟩) (fun q hq => HPA.out.out q hq.1)
    have HRX : Hid _ := rX
    have HRZ : Hid _ := rZ
    have HRN : Hid _ := rN
    have HB1 : Hid _ := hB1
    have HKD : Hid ((kd = 70 ∨ kd = 80) → 1 ≤ nm) := fun h => (HPT.out.node.numb (by show kd = 70 ∨ kd = 76 ∨ kd = 80 ∨ kd = 82 ∨ kd = 90 ∨ kd = 91; omega)).1
    clear rX rZ rN hB1
    go_upto_region 3 with fail
    go_cut [36] from 21 to 36 (fun v36 wx => v36 = .bool (decide (kd = 70 ∧ (P nm).isSome = true)) ∧ w1 = wx)
    case first =>
      have rX := HRX.out
      have rN := HRN.out
      have x5 : w1.cell? ⟨z, 5, none⟩ = some (.slice (some ⟨k.g5, 0, none⟩) 200001 k.c5) := by rw [cell_of_row _ _ _ _ _ _ rX]; rfl
      have lx : z < w1.heap.size := lt_of_cell x5
      have n0 : w1.cell? ⟨z + 2, 0, none⟩ = some (.int .i64 kd) := by rw [cell_of_row _ _ _ _ _ _ rN]; rfl
      have n1 : w1.cell? ⟨z + 2, 1, none⟩ = some (.int .i64 nm) := by rw [cell_of_row _ _ _ _ _ _ rN]; rfl
      have ln : z + 2 < w1.heap.size := lt_of_cell n0
      clear rX rN
      by_cases h70 : kd = 70
      · subst h70
        have h1 := HKD.out (.inl rfl)
        by_cases h2 : nm ≤ 200000
        · have t2 : decide (nm ≤ 200000) = true := by simpa using h2
          obtain ⟨x, rfl⟩ : ∃ x : Nat, nm = (x : Int) := ⟨nm.toNat, by omega⟩
          have hfl := HP1.out.flag x (by omega)
          have lg5 : k.g5 < w1.heap.size := lt_of_cell hfl
          have hk1 : (x : Int) < 200001 := by omega
          have hk0 : (0 : Int) ≤ (x : Int) := by omega
          obtain ⟨fb, hfb⟩ : ∃ fb, (P (x : Int)).isSome = fb := ⟨_, rfl⟩
          have HFB : Hid _ := hfb
          rw [hfb] at hfl
          clear h2 h1 hfb
          go_wp2_with fail
          go_meet
          case rel => exact ⟨by rw [HFB.out]; cases fb <;> rfl, rfl⟩
        · have t2 : decide (nm ≤ 200000) = false := by simpa using h2
          have HFB : Hid (decide ((70 : Int) = 70 ∧ (P nm).isSome = true) = false) := by
            refine decide_eq_false ?_
            rintro ⟨-, h9⟩
            obtain ⟨V, hV⟩ := Option.isSome_iff_exists.1 h9
            exact h2 (HPG.out _ V hV).2.2.2.2
          clear h2 h1
          go_wp2_with fail
          go_meet
          case rel => exact ⟨by rw [HFB.out], rfl⟩
      · have t70 : (kd == 70) = false := by simpa using h70
        have HFB : Hid (decide (kd = 70 ∧ (P nm).isSome = true) = false) := decide_eq_false (fun h => h70 h.1)
        clear h70
        go_wp2_with fail
        go_meet
        case rel => exact ⟨by rw [HFB.out], rfl⟩
    case rest =>
    obtain ⟨rfl, rfl⟩ := hcut
    by_cases hv : kd = 70 ∧ (P nm).isSome = true
    · rw [decide_eq_true hv]
      obtain ⟨rfl, hs⟩ := hv
      obtain ⟨V, hV⟩ := Option.isSome_iff_exists.1 hs
      have hVr := (HPG.out _ V hV).2.2.2
      obtain ⟨x, rfl⟩ : ∃ x : Nat, nm = (x : Int) := ⟨nm.toNat, by omega⟩
      obtain ⟨s, hrow, hrep⟩ := HPA.out.row x (by omega) V hV
      have HREP : Hid (SRep w A V s) := hrep
      have hBW := HB1.out
      obtain ⟨v0, v1, v2, v3, v4, v5, v6⟩ := hrow.cells hBW HPA.out.lt4.1
      have lg4 : k.g4 < w1.heap.size := lt_of_cell v0
      have hRV : R = (V, P) := by
        rw [← HR.out, lessT_eq]
        unfold lessStep
        rw [if_pos ⟨rfl, hs⟩, hV]
        rfl
      have HRV : Hid (R = (V, P)) := hRV
      have rX := HRX.out
      have rN := HRN.out
      have rZ := HRZ.out
      have x4 : w1.cell? ⟨z, 4, none⟩ = some (.slice (some ⟨k.g4, 0, none⟩) 200001 k.c4) := by rw [cell_of_row _ _ _ _ _ _ rX]; rfl
      have lx : z < w1.heap.size := lt_of_cell x4
      have n0 : w1.cell? ⟨z + 2, 0, none⟩ = some (.int .i64 70) := by rw [cell_of_row _ _ _ _ _ _ rN]; rfl
      have n1 : w1.cell? ⟨z + 2, 1, none⟩ = some (.int .i64 (x : Int)) := by rw [cell_of_row _ _ _ _ _ _ rN]; rfl
      have ln : z + 2 < w1.heap.size := lt_of_cell n0
      have hk1 : (x : Int) < 200001 := by omega
      have hk0 : (0 : Int) ≤ (x : Int) := by omega
      have hf := seven_fin (w := w) V s rZ hBW (by rw [HZ.out]; omega)
      obtain ⟨f, d0, d1, d2, d3, d4, d5, d6⟩ := zero7 rZ
      have f0 := f 0
      have f1 := f 1
      have f2 := f 2
      have f3 := f 3
      have f4 := f 4
      have f5 := f 5
      have f6 := f 6
      have LZ : z + 1 < w1.heap.size := lt_of_cell d0
      clear f
      have HF : Hid (Row7 (((((((w1.setCell ⟨z + 1, 0, none⟩ (.int .i64 V.nd.kind)).setCell ⟨z + 1, 1, none⟩ (.int .i64 V.nd.num)).setCell ⟨z + 1, 2, none⟩ (.string V.nd.text)).setCell ⟨z + 1, 3, none⟩ (.int .i64 V.nd.kids)).setCell ⟨z + 1, 4, none⟩ (.int .i64 V.nd.place)).setCell ⟨z + 1, 5, none⟩ (.slice s.1 s.2.1 s.2.2)).setCell ⟨z + 1, 6, none⟩ (.bool (knT V))) (z + 1) 0 V s ∧ Below w.heap.size w (((((((w1.setCell ⟨z + 1, 0, none⟩ (.int .i64 V.nd.kind)).setCell ⟨z + 1, 1, none⟩ (.int .i64 V.nd.num)).setCell ⟨z + 1, 2, none⟩ (.string V.nd.text)).setCell ⟨z + 1, 3, none⟩ (.int .i64 V.nd.kids)).setCell ⟨z + 1, 4, none⟩ (.int .i64 V.nd.place)).setCell ⟨z + 1, 5, none⟩ (.slice s.1 s.2.1 s.2.2)).setCell ⟨z + 1, 6, none⟩ (.bool (knT V)))) := hf
      clear hf rX rN rZ hBW hV hs hrow hrep hVr hRV
      go_wp2
      refine bodyPost_ret (results_cell7 rfl _ (z + 1) rfl _ _ _ HF.out.1) rfl ?_
      rw [HRV.out]
      exact ⟨s, rfl, HREP.out.under HF.out.2, HPA.out.under HF.out.2 (fun q hq _ => hq) HPA.out.out, But.ofBelow HF.out.2⟩
    rw [decide_eq_false hv]
    have HNV : Hid (¬ (kd = 70 ∧ (P nm).isSome = true)) := hv
    clear hv
    go_upto_region 5 with fail
    go_cut [62] from 43 to 62 (fun v62 wx => v62 = .bool (decide (kd = 80 ∧ singleT bd nm = true ∧ (((kidsRt t i).map (treT t f)).head?.map (fun a => atomT bd a.nd)) = some true)) ∧ Below w1.heap.size w1 wx)
    case first =>
      have rX := HRX.out
      have rN := HRN.out
      have x0 : w1.cell? ⟨z, 0, none⟩ = some (.slice (some ⟨k.b0, k.o0, none⟩) m k.cap) := by rw [cell_of_row _ _ _ _ _ _ rX]; rfl
      have x1 : w1.cell? ⟨z, 1, none⟩ = some (.slice (some ⟨k.gz, 0, none⟩) m k.cz) := by rw [cell_of_row _ _ _ _ _ _ rX]; rfl
      have x2 : w1.cell? ⟨z, 2, none⟩ = some (.slice (some ⟨k.b2, 0, none⟩) 200001 k.c2) := by rw [cell_of_row _ _ _ _ _ _ rX]; rfl
      have x3 : w1.cell? ⟨z, 3, none⟩ = some (.slice (some ⟨k.b3, 0, none⟩) 200001 k.c3) := by rw [cell_of_row _ _ _ _ _ _ rX]; rfl
      have x4 : w1.cell? ⟨z, 4, none⟩ = some (.slice (some ⟨k.g4, 0, none⟩) 200001 k.c4) := by rw [cell_of_row _ _ _ _ _ _ rX]; rfl
      have x5 : w1.cell? ⟨z, 5, none⟩ = some (.slice (some ⟨k.g5, 0, none⟩) 200001 k.c5) := by rw [cell_of_row _ _ _ _ _ _ rX]; rfl
      have lx : z < w1.heap.size := lt_of_cell x5
      have n0 : w1.cell? ⟨z + 2, 0, none⟩ = some (.int .i64 kd) := by rw [cell_of_row _ _ _ _ _ _ rN]; rfl
      have n1 : w1.cell? ⟨z + 2, 1, none⟩ = some (.int .i64 nm) := by rw [cell_of_row _ _ _ _ _ _ rN]; rfl
      have ln : z + 2 < w1.heap.size := lt_of_cell n0
      clear rX rN
      by_cases h80 : kd = 80
      rotate_left
      · have t80 : (kd == 80) = false := by simpa using h80
        have HFB : Hid (decide (kd = 80 ∧ singleT bd nm = true ∧ (((kidsRt t i).map (treT t f)).head?.map (fun a => atomT bd a.nd)) = some true) = false) := decide_eq_false (fun h => h80 h.1)
        clear h80
        go_quiet (fail)
        have b8 := quietB w1 nq
        clear x0 x1 x2 x3 x4 x5 n0 n1
        go_wp2_with fail
        go_meet
        case rel => exact ⟨by rw [HFB.out], b8⟩
      subst h80
      have h1 := HKD.out (.inr rfl)
      obtain ⟨a, b, hab, -, -⟩ := HPT.out.node.code2 (.inr (.inl rfl))
      have hl2 : (kidsRt t i).length = 2 := by rw [← List.length_map (f := treT t f), hab]; rfl
      obtain ⟨r0, r1, hr⟩ := twoS_of hl2
      have hq2 : q = 2 := by have := HRL.out; omega
      subst hq2
      have hr0 : r0 < i := HLT.out r0 (by rw [hr]; simp)
      have g0 : w1.cell? ⟨G, 0, none⟩ = some (.int .i64 (r0 : Int)) := by
        have h9 := HG.out.at 0 (by rw [HRK.out, hr]; simp)
        rw [h9]
        simp [HRK.out, hr]
      have lG : G < w1.heap.size := lt_of_cell g0
      obtain ⟨b9, o9, e9, hnd⟩ := HP1.out.nodes r0 (by omega)
      simp only [Option.some.injEq, Addr.mk.injEq, and_true] at e9
      obtain ⟨rfl, rfl⟩ := e9
      rw [show t[r0] = ndAt t r0 from by rw [ndAt_get (by omega)]] at hnd
      have HND0 : Hid (NodeAt w1 k.b0 (k.o0 + r0 * 5) (ndAt t r0)) := hnd
      have lb : k.b0 < w1.heap.size := lt_of_cell hnd.1
      have hat : (((kidsRt t i).map (treT t f)).head?.map (fun a => atomT bd a.nd)) = some (atomT bd (ndAt t r0)) := by rw [hr]; simp [treT_nd]
      have HA0 : Hid (ndAt t r0 = ndAt t r0 ∧ ((ndAt t r0).kind = 70 → 1 ≤ (ndAt t r0).num)) := by
        refine ⟨rfl, fun h9 => ?_⟩
        have h8 := HPL.out f r0 (by omega) (by omega)
        cases f with
        | zero => omega
        | succ f => exact (h8.node.numb (.inl h9)).1
      have hr0m : (r0 : Int) < (m : Int) := by omega
      have hr00 : (0 : Int) ≤ (r0 : Int) := by omega
      obtain ⟨sb, hsb⟩ : ∃ sb, singleT bd nm = sb := ⟨_, rfl⟩
      have HSI : Hid (∀ W, Below w1.heap.size w1 W → Calls Tryz.prog 52 #[.agg #[.slice (some ⟨k.b0, k.o0, none⟩) m k.cap, .slice (some ⟨k.gz, 0, none⟩) m k.cz, .slice (some ⟨k.b2, 0, none⟩) 200001 k.c2, .slice (some ⟨k.b3, 0, none⟩) 200001 k.c3, .slice (some ⟨k.g4, 0, none⟩) 200001 k.c4, .slice (some ⟨k.g5, 0, none⟩) 200001 k.c5], .int .i64 nm] W fun e w' => e = .returned (.bool sb) ∧ Below W.heap.size W w') := by
        intro W hW
        rw [← hsb]
        exact single_any bd (some ⟨k.b0, k.o0, none⟩, m, k.cap) (some ⟨k.gz, 0, none⟩, m, k.cz) (some ⟨k.b2, 0, none⟩, 200001, k.c2) (some ⟨k.b3, 0, none⟩, 200001, k.c3) (some ⟨k.g4, 0, none⟩, 200001, k.c4) (some ⟨k.g5, 0, none⟩, 200001, k.c5) nm W (HP1.out.cb.under hW) h1
      obtain ⟨ab, hab2⟩ : ∃ ab, atomT bd (ndAt t r0) = ab := ⟨_, rfl⟩
      have HFB : Hid (decide ((80 : Int) = 80 ∧ singleT bd nm = true ∧ (((kidsRt t i).map (treT t f)).head?.map (fun a => atomT bd a.nd)) = some true) = (sb && ab)) := by
        show _ = _
        rw [hat, hsb, hab2]
        cases sb <;> cases ab <;> decide
      have HAB : Hid _ := hab2
      clear hat h1 hab hl2 hnd hsb hab2
      have HRR : Hid (kidsRt t i = [r0, r1]) := hr
      have HAT : Hid (∀ W, Below w1.heap.size w1 W → Calls Tryz.prog 53 #[.agg #[.slice (some ⟨k.b0, k.o0, none⟩) m k.cap, .slice (some ⟨k.gz, 0, none⟩) m k.cz, .slice (some ⟨k.b2, 0, none⟩) 200001 k.c2, .slice (some ⟨k.b3, 0, none⟩) 200001 k.c3, .slice (some ⟨k.g4, 0, none⟩) 200001 k.c4, .slice (some ⟨k.g5, 0, none⟩) 200001 k.c5], .agg #[.int .i64 (ndAt t r0).kind, .int .i64 (ndAt t r0).num, .string (ndAt t r0).text, .int .i64 (ndAt t r0).kids, .int .i64 (ndAt t r0).place]] W fun e w' => e = .returned (.bool ab) ∧ Below W.heap.size W w') := by
        intro W hW
        rw [← HAB.out]
        exact atom_any bd (some ⟨k.b0, k.o0, none⟩, m, k.cap) (some ⟨k.gz, 0, none⟩, m, k.cz) (some ⟨k.b2, 0, none⟩, 200001, k.c2) (some ⟨k.b3, 0, none⟩, 200001, k.c3) (some ⟨k.g4, 0, none⟩, 200001, k.c4) (some ⟨k.g5, 0, none⟩, 200001, k.c5) (ndAt t r0) W (HP1.out.cb.under hW) HA0.out.2
      clear hr
      cases sb
      · have HCE : Hid (∀ W, Below w1.heap.size w1 W → W.cell? ⟨z, 0, none⟩ = some (.slice (some ⟨k.b0, k.o0, none⟩) m k.cap) ∧ W.cell? ⟨z, 1, none⟩ = some (.slice (some ⟨k.gz, 0, none⟩) m k.cz) ∧ W.cell? ⟨z, 2, none⟩ = some (.slice (some ⟨k.b2, 0, none⟩) 200001 k.c2) ∧ W.cell? ⟨z, 3, none⟩ = some (.slice (some ⟨k.b3, 0, none⟩) 200001 k.c3) ∧ W.cell? ⟨z, 4, none⟩ = some (.slice (some ⟨k.g4, 0, none⟩) 200001 k.c4) ∧ W.cell? ⟨z, 5, none⟩ = some (.slice (some ⟨k.g5, 0, none⟩) 200001 k.c5) ∧ W.cell? ⟨z + 2, 0, none⟩ = some (.int .i64 80) ∧ W.cell? ⟨z + 2, 1, none⟩ = some (.int .i64 nm) ∧ W.cell? ⟨G, 0, none⟩ = some (.int .i64 (r0 : Int)) ∧ W.cell? ⟨k.b0, k.o0 + r0 * 5, none⟩ = some (.int .i64 (ndAt t r0).kind) ∧ W.cell? ⟨k.b0, k.o0 + r0 * 5 + 1, none⟩ = some (.int .i64 (ndAt t r0).num) ∧ W.cell? ⟨k.b0, k.o0 + r0 * 5 + 2, none⟩ = some (.string (ndAt t r0).text) ∧ W.cell? ⟨k.b0, k.o0 + r0 * 5 + 3, none⟩ = some (.int .i64 (ndAt t r0).kids) ∧ W.cell? ⟨k.b0, k.o0 + r0 * 5 + 4, none⟩ = some (.int .i64 (ndAt t r0).place)) := by
          intro W hW
          have q0 := (hW.block z (by omega)).trans HRX.out
          have q2 := (hW.block (z + 2) (by omega)).trans HRN.out
          obtain ⟨d0, d1, d2, d3, d4⟩ := HND0.out.below hW
          have hg := (HG.out.below hW).at 0 (by rw [HRK.out, HRR.out]; simp)
          refine ⟨?_, ?_, ?_, ?_, ?_, ?_, ?_, ?_, ?_, d0, d1, d2, d3, d4⟩
          · rw [cell_of_row _ _ _ _ _ _ q0]; rfl
          · rw [cell_of_row _ _ _ _ _ _ q0]; rfl
          · rw [cell_of_row _ _ _ _ _ _ q0]; rfl
          · rw [cell_of_row _ _ _ _ _ _ q0]; rfl
          · rw [cell_of_row _ _ _ _ _ _ q0]; rfl
          · rw [cell_of_row _ _ _ _ _ _ q0]; rfl
          · rw [cell_of_row _ _ _ _ _ _ q2]; rfl
          · rw [cell_of_row _ _ _ _ _ _ q2]; rfl
          · rw [hg]; simp [HRK.out, HRR.out]
        have hbD := (Below.refl w1.heap.size w1).drew
        clear x0 x1 x2 x3 x4 x5 n0 n1 g0
        refine wp_region_held_drew (S := fun w' => w'.cell? ⟨z, 0, none⟩ = some (.slice (some ⟨k.b0, k.o0, none⟩) m k.cap) ∧ w'.cell? ⟨z, 1, none⟩ = some (.slice (some ⟨k.gz, 0, none⟩) m k.cz) ∧ w'.cell? ⟨z, 2, none⟩ = some (.slice (some ⟨k.b2, 0, none⟩) 200001 k.c2) ∧ w'.cell? ⟨z, 3, none⟩ = some (.slice (some ⟨k.b3, 0, none⟩) 200001 k.c3) ∧ w'.cell? ⟨z, 4, none⟩ = some (.slice (some ⟨k.g4, 0, none⟩) 200001 k.c4) ∧ w'.cell? ⟨z, 5, none⟩ = some (.slice (some ⟨k.g5, 0, none⟩) 200001 k.c5) ∧ w'.cell? ⟨z + 2, 0, none⟩ = some (.int .i64 80) ∧ w'.cell? ⟨z + 2, 1, none⟩ = some (.int .i64 nm) ∧ w'.cell? ⟨G, 0, none⟩ = some (.int .i64 (r0 : Int)) ∧ w'.cell? ⟨k.b0, k.o0 + r0 * 5, none⟩ = some (.int .i64 (ndAt t r0).kind) ∧ w'.cell? ⟨k.b0, k.o0 + r0 * 5 + 1, none⟩ = some (.int .i64 (ndAt t r0).num) ∧ w'.cell? ⟨k.b0, k.o0 + r0 * 5 + 2, none⟩ = some (.string (ndAt t r0).text) ∧ w'.cell? ⟨k.b0, k.o0 + r0 * 5 + 3, none⟩ = some (.int .i64 (ndAt t r0).kids) ∧ w'.cell? ⟨k.b0, k.o0 + r0 * 5 + 4, none⟩ = some (.int .i64 (ndAt t r0).place)) (by kernel_rfl) (HCE.out _ hbD) (fun hS => ?_)
        refine take_in 0 43 (v := ?_) (oi := _) (ixA rfl) (by rfl) (by kernel_rfl) (by kernel_rfl) (by kernel_rfl) (by exact fun _ _ _ h => h) (Or.inl ⟨by rfl, ?_⟩) hS ?_
        rotate_left
        · intro w' hSw; (try dsimp only at hSw); (go_simp <;> with_reducible rfl)
        simp only [List.setIfInBounds_toArray, List.set_cons_zero, List.set_cons_succ]
        refine take_in 1 44 (v := ?_) (oi := _) (ixA rfl) (by rfl) (by kernel_rfl) (by kernel_rfl) (by kernel_rfl) (by exact fun _ _ _ h => h) (Or.inl ⟨by rfl, ?_⟩) hS ?_
        rotate_left
        · intro w' hSw; (try dsimp only at hSw); (go_simp <;> with_reducible rfl)
        simp only [List.setIfInBounds_toArray, List.set_cons_zero, List.set_cons_succ]
        refine take_in 2 45 (v := ?_) (oi := _) (ixA rfl) (by rfl) (by kernel_rfl) (by kernel_rfl) (by kernel_rfl) (by exact fun _ _ _ h => h) (Or.inl ⟨by rfl, ?_⟩) hS ?_
        rotate_left
        · intro w' hSw; (try dsimp only at hSw); (go_simp <;> with_reducible rfl)
        simp only [List.setIfInBounds_toArray, List.set_cons_zero, List.set_cons_succ]
        refine take_in 3 46 (v := ?_) (oi := _) (ixA rfl) (by rfl) (by kernel_rfl) (by kernel_rfl) (by kernel_rfl) (by exact fun _ _ _ h => h) (Or.inl ⟨by rfl, ?_⟩) hS ?_
        rotate_left
        · intro w' hSw; (try dsimp only at hSw); (go_simp <;> with_reducible rfl)
        simp only [List.setIfInBounds_toArray, List.set_cons_zero, List.set_cons_succ]
        refine take_in 4 47 (v := ?_) (oi := _) (ixA rfl) (by rfl) (by kernel_rfl) (by kernel_rfl) (by kernel_rfl) (by exact fun _ _ _ h => h) (Or.inl ⟨by rfl, ?_⟩) hS ?_
        rotate_left
        · intro w' hSw; (try dsimp only at hSw); (go_simp <;> with_reducible rfl)
        simp only [List.setIfInBounds_toArray, List.set_cons_zero, List.set_cons_succ]
        refine take_in 5 48 (v := ?_) (oi := _) (ixA rfl) (by rfl) (by kernel_rfl) (by kernel_rfl) (by kernel_rfl) (by exact fun _ _ _ h => h) (Or.inl ⟨by rfl, ?_⟩) hS ?_
        rotate_left
        · intro w' hSw; (try dsimp only at hSw); (go_simp <;> with_reducible rfl)
        simp only [List.setIfInBounds_toArray, List.set_cons_zero, List.set_cons_succ]
        refine take_in 6 49 (v := ?_) (oi := _) (ixA rfl) (by rfl) (by kernel_rfl) (by kernel_rfl) (by kernel_rfl) (by exact fun _ _ _ h => h) (Or.inl ⟨by rfl, ?_⟩) hS ?_
        rotate_left
        · intro w' hSw; (try dsimp only at hSw); (go_simp <;> with_reducible rfl)
        simp only [List.setIfInBounds_toArray, List.set_cons_zero, List.set_cons_succ]
        refine wpAnyH_ready (rs := [7]) (by kernel_rfl) (by simp) ?_
        refine AllReadyH.cons (o := _) (ixA rfl) (fun K' hK' => ?_) AllReadyH.nil
        rw [if_pos (by rfl)]
        go_simp
        refine (HSI.out _ hbD).mono ?_
        rintro e w3 ⟨rfl, hb3⟩
        have hb4 := Below.step hbD hb3
        refine hK'.out _ _ (HCE.out _ hb4) (fun hS => ?_)
        clear hK' K'
        try simp only [Act.put, List.setIfInBounds_toArray, List.set_cons_zero, List.set_cons_succ]
        refine take_in 8 51 (v := ?_) (oi := _) (ixA rfl) (by rfl) (by kernel_rfl) (by kernel_rfl) (by kernel_rfl) (by exact fun _ _ _ h => h) (Or.inl ⟨by rfl, ?_⟩) hS ?_
        rotate_left
        · intro w' hSw; (try dsimp only at hSw); (go_simp <;> with_reducible rfl)
        simp only [List.setIfInBounds_toArray, List.set_cons_zero, List.set_cons_succ]
        refine take_in 9 52 (v := ?_) (oi := _) (ixA rfl) (by rfl) (by kernel_rfl) (by kernel_rfl) (by kernel_rfl) (by exact fun _ _ _ h => h) (Or.inl ⟨by rfl, ?_⟩) hS ?_
        rotate_left
        · intro w' hSw; (try dsimp only at hSw); (go_simp <;> with_reducible rfl)
        simp only [List.setIfInBounds_toArray, List.set_cons_zero, List.set_cons_succ]
        refine take_in 10 53 (v := undef) (oi := _) (ixA rfl) (by rfl) (by kernel_rfl) (by kernel_rfl) (by kernel_rfl) (by exact fun _ _ _ h => h) (Or.inr ⟨by rfl, rfl⟩) hS ?_
        simp only [List.setIfInBounds_toArray, List.set_cons_zero, List.set_cons_succ]
        refine take_in 11 54 (v := undef) (oi := _) (ixA rfl) (by rfl) (by kernel_rfl) (by kernel_rfl) (by kernel_rfl) (by exact fun _ _ _ h => h) (Or.inr ⟨by rfl, rfl⟩) hS ?_
        simp only [List.setIfInBounds_toArray, List.set_cons_zero, List.set_cons_succ]
        refine take_in 12 55 (v := undef) (oi := _) (ixA rfl) (by rfl) (by kernel_rfl) (by kernel_rfl) (by kernel_rfl) (by exact fun _ _ _ h => h) (Or.inr ⟨by rfl, rfl⟩) hS ?_
        simp only [List.setIfInBounds_toArray, List.set_cons_zero, List.set_cons_succ]
        refine take_in 13 56 (v := undef) (oi := _) (ixA rfl) (by rfl) (by kernel_rfl) (by kernel_rfl) (by kernel_rfl) (by exact fun _ _ _ h => h) (Or.inr ⟨by rfl, rfl⟩) hS ?_
        simp only [List.setIfInBounds_toArray, List.set_cons_zero, List.set_cons_succ]
        refine take_in 14 57 (v := undef) (oi := _) (ixA rfl) (by rfl) (by kernel_rfl) (by kernel_rfl) (by kernel_rfl) (by exact fun _ _ _ h => h) (Or.inr ⟨by rfl, rfl⟩) hS ?_
        simp only [List.setIfInBounds_toArray, List.set_cons_zero, List.set_cons_succ]
        refine take_in 15 58 (v := undef) (oi := _) (ixA rfl) (by rfl) (by kernel_rfl) (by kernel_rfl) (by kernel_rfl) (by exact fun _ _ _ h => h) (Or.inr ⟨by rfl, rfl⟩) hS ?_
        simp only [List.setIfInBounds_toArray, List.set_cons_zero, List.set_cons_succ]
        refine take_in 16 59 (v := undef) (oi := _) (ixA rfl) (by rfl) (by kernel_rfl) (by kernel_rfl) (by kernel_rfl) (by exact fun _ _ _ h => h) (Or.inr ⟨by rfl, rfl⟩) hS ?_
        simp only [List.setIfInBounds_toArray, List.set_cons_zero, List.set_cons_succ]
        refine take_in 17 60 (v := undef) (oi := _) (ixA rfl) (by rfl) (by kernel_rfl) (by kernel_rfl) (by kernel_rfl) (by exact fun _ _ _ h => h) (Or.inr ⟨by rfl, rfl⟩) hS ?_
        simp only [List.setIfInBounds_toArray, List.set_cons_zero, List.set_cons_succ]
        refine take_in 18 61 (v := undef) (oi := _) (ixA rfl) (by rfl) (by kernel_rfl) (by kernel_rfl) (by kernel_rfl) (by exact fun _ _ _ h => h) (Or.inr ⟨by rfl, rfl⟩) hS ?_
        simp only [List.setIfInBounds_toArray, List.set_cons_zero, List.set_cons_succ]
        refine take_in 19 62 (v := ?_) (oi := _) (ixA rfl) (by rfl) (by kernel_rfl) (by kernel_rfl) (by kernel_rfl) (by exact fun _ _ _ h => h) (Or.inl ⟨by rfl, ?_⟩) hS ?_
        rotate_left
        · intro w' hSw; (try dsimp only at hSw); (go_simp <;> with_reducible rfl)
        simp only [List.setIfInBounds_toArray, List.set_cons_zero, List.set_cons_succ]
        refine wpAnyH_done (by kernel_rfl) ?_ _
        clear hS HCE
        go_wp2_with fail
        go_meet
        case rel => exact ⟨by rw [HFB.out]; rfl, hb4⟩
      · have HCE : Hid (∀ W, Below w1.heap.size w1 W → W.cell? ⟨z, 0, none⟩ = some (.slice (some ⟨k.b0, k.o0, none⟩) m k.cap) ∧ W.cell? ⟨z, 1, none⟩ = some (.slice (some ⟨k.gz, 0, none⟩) m k.cz) ∧ W.cell? ⟨z, 2, none⟩ = some (.slice (some ⟨k.b2, 0, none⟩) 200001 k.c2) ∧ W.cell? ⟨z, 3, none⟩ = some (.slice (some ⟨k.b3, 0, none⟩) 200001 k.c3) ∧ W.cell? ⟨z, 4, none⟩ = some (.slice (some ⟨k.g4, 0, none⟩) 200001 k.c4) ∧ W.cell? ⟨z, 5, none⟩ = some (.slice (some ⟨k.g5, 0, none⟩) 200001 k.c5) ∧ W.cell? ⟨z + 2, 0, none⟩ = some (.int .i64 80) ∧ W.cell? ⟨z + 2, 1, none⟩ = some (.int .i64 nm) ∧ W.cell? ⟨G, 0, none⟩ = some (.int .i64 (r0 : Int)) ∧ W.cell? ⟨k.b0, k.o0 + r0 * 5, none⟩ = some (.int .i64 (ndAt t r0).kind) ∧ W.cell? ⟨k.b0, k.o0 + r0 * 5 + 1, none⟩ = some (.int .i64 (ndAt t r0).num) ∧ W.cell? ⟨k.b0, k.o0 + r0 * 5 + 2, none⟩ = some (.string (ndAt t r0).text) ∧ W.cell? ⟨k.b0, k.o0 + r0 * 5 + 3, none⟩ = some (.int .i64 (ndAt t r0).kids) ∧ W.cell? ⟨k.b0, k.o0 + r0 * 5 + 4, none⟩ = some (.int .i64 (ndAt t r0).place)) := by
          intro W hW
          have q0 := (hW.block z (by omega)).trans HRX.out
          have q2 := (hW.block (z + 2) (by omega)).trans HRN.out
          obtain ⟨d0, d1, d2, d3, d4⟩ := HND0.out.below hW
          have hg := (HG.out.below hW).at 0 (by rw [HRK.out, HRR.out]; simp)
          refine ⟨?_, ?_, ?_, ?_, ?_, ?_, ?_, ?_, ?_, d0, d1, d2, d3, d4⟩
          · rw [cell_of_row _ _ _ _ _ _ q0]; rfl
          · rw [cell_of_row _ _ _ _ _ _ q0]; rfl
          · rw [cell_of_row _ _ _ _ _ _ q0]; rfl
          · rw [cell_of_row _ _ _ _ _ _ q0]; rfl
          · rw [cell_of_row _ _ _ _ _ _ q0]; rfl
          · rw [cell_of_row _ _ _ _ _ _ q0]; rfl
          · rw [cell_of_row _ _ _ _ _ _ q2]; rfl
          · rw [cell_of_row _ _ _ _ _ _ q2]; rfl
          · rw [hg]; simp [HRK.out, HRR.out]
        have hbD := (Below.refl w1.heap.size w1).drew
        clear x0 x1 x2 x3 x4 x5 n0 n1 g0
        refine wp_region_held_drew (S := fun w' => w'.cell? ⟨z, 0, none⟩ = some (.slice (some ⟨k.b0, k.o0, none⟩) m k.cap) ∧ w'.cell? ⟨z, 1, none⟩ = some (.slice (some ⟨k.gz, 0, none⟩) m k.cz) ∧ w'.cell? ⟨z, 2, none⟩ = some (.slice (some ⟨k.b2, 0, none⟩) 200001 k.c2) ∧ w'.cell? ⟨z, 3, none⟩ = some (.slice (some ⟨k.b3, 0, none⟩) 200001 k.c3) ∧ w'.cell? ⟨z, 4, none⟩ = some (.slice (some ⟨k.g4, 0, none⟩) 200001 k.c4) ∧ w'.cell? ⟨z, 5, none⟩ = some (.slice (some ⟨k.g5, 0, none⟩) 200001 k.c5) ∧ w'.cell? ⟨z + 2, 0, none⟩ = some (.int .i64 80) ∧ w'.cell? ⟨z + 2, 1, none⟩ = some (.int .i64 nm) ∧ w'.cell? ⟨G, 0, none⟩ = some (.int .i64 (r0 : Int)) ∧ w'.cell? ⟨k.b0, k.o0 + r0 * 5, none⟩ = some (.int .i64 (ndAt t r0).kind) ∧ w'.cell? ⟨k.b0, k.o0 + r0 * 5 + 1, none⟩ = some (.int .i64 (ndAt t r0).num) ∧ w'.cell? ⟨k.b0, k.o0 + r0 * 5 + 2, none⟩ = some (.string (ndAt t r0).text) ∧ w'.cell? ⟨k.b0, k.o0 + r0 * 5 + 3, none⟩ = some (.int .i64 (ndAt t r0).kids) ∧ w'.cell? ⟨k.b0, k.o0 + r0 * 5 + 4, none⟩ = some (.int .i64 (ndAt t r0).place)) (by kernel_rfl) (HCE.out _ hbD) (fun hS => ?_)
        refine take_in 0 43 (v := ?_) (oi := _) (ixA rfl) (by rfl) (by kernel_rfl) (by kernel_rfl) (by kernel_rfl) (by exact fun _ _ _ h => h) (Or.inl ⟨by rfl, ?_⟩) hS ?_
        rotate_left
        · intro w' hSw; (try dsimp only at hSw); (go_simp <;> with_reducible rfl)
        simp only [List.setIfInBounds_toArray, List.set_cons_zero, List.set_cons_succ]
        refine take_in 1 44 (v := ?_) (oi := _) (ixA rfl) (by rfl) (by kernel_rfl) (by kernel_rfl) (by kernel_rfl) (by exact fun _ _ _ h => h) (Or.inl ⟨by rfl, ?_⟩) hS ?_
        rotate_left
        · intro w' hSw; (try dsimp only at hSw); (go_simp <;> with_reducible rfl)
        simp only [List.setIfInBounds_toArray, List.set_cons_zero, List.set_cons_succ]
        refine take_in 2 45 (v := ?_) (oi := _) (ixA rfl) (by rfl) (by kernel_rfl) (by kernel_rfl) (by kernel_rfl) (by exact fun _ _ _ h => h) (Or.inl ⟨by rfl, ?_⟩) hS ?_
        rotate_left
        · intro w' hSw; (try dsimp only at hSw); (go_simp <;> with_reducible rfl)
        simp only [List.setIfInBounds_toArray, List.set_cons_zero, List.set_cons_succ]
        refine take_in 3 46 (v := ?_) (oi := _) (ixA rfl) (by rfl) (by kernel_rfl) (by kernel_rfl) (by kernel_rfl) (by exact fun _ _ _ h => h) (Or.inl ⟨by rfl, ?_⟩) hS ?_
        rotate_left
        · intro w' hSw; (try dsimp only at hSw); (go_simp <;> with_reducible rfl)
        simp only [List.setIfInBounds_toArray, List.set_cons_zero, List.set_cons_succ]
        refine take_in 4 47 (v := ?_) (oi := _) (ixA rfl) (by rfl) (by kernel_rfl) (by kernel_rfl) (by kernel_rfl) (by exact fun _ _ _ h => h) (Or.inl ⟨by rfl, ?_⟩) hS ?_
        rotate_left
        · intro w' hSw; (try dsimp only at hSw); (go_simp <;> with_reducible rfl)
        simp only [List.setIfInBounds_toArray, List.set_cons_zero, List.set_cons_succ]
        refine take_in 5 48 (v := ?_) (oi := _) (ixA rfl) (by rfl) (by kernel_rfl) (by kernel_rfl) (by kernel_rfl) (by exact fun _ _ _ h => h) (Or.inl ⟨by rfl, ?_⟩) hS ?_
        rotate_left
        · intro w' hSw; (try dsimp only at hSw); (go_simp <;> with_reducible rfl)
        simp only [List.setIfInBounds_toArray, List.set_cons_zero, List.set_cons_succ]
        refine take_in 6 49 (v := ?_) (oi := _) (ixA rfl) (by rfl) (by kernel_rfl) (by kernel_rfl) (by kernel_rfl) (by exact fun _ _ _ h => h) (Or.inl ⟨by rfl, ?_⟩) hS ?_
        rotate_left
        · intro w' hSw; (try dsimp only at hSw); (go_simp <;> with_reducible rfl)
        simp only [List.setIfInBounds_toArray, List.set_cons_zero, List.set_cons_succ]
        refine wpAnyH_ready (rs := [7]) (by kernel_rfl) (by simp) ?_
        refine AllReadyH.cons (o := _) (ixA rfl) (fun K' hK' => ?_) AllReadyH.nil
        rw [if_pos (by rfl)]
        go_simp
        refine (HSI.out _ hbD).mono ?_
        rintro e w3 ⟨rfl, hb3⟩
        have hb4 := Below.step hbD hb3
        refine hK'.out _ _ (HCE.out _ hb4) (fun hS => ?_)
        clear hK' K'
        try simp only [Act.put, List.setIfInBounds_toArray, List.set_cons_zero, List.set_cons_succ]
        refine take_in 8 51 (v := ?_) (oi := _) (ixA rfl) (by rfl) (by kernel_rfl) (by kernel_rfl) (by kernel_rfl) (by exact fun _ _ _ h => h) (Or.inl ⟨by rfl, ?_⟩) hS ?_
        rotate_left
        · intro w' hSw; (try dsimp only at hSw); (go_simp <;> with_reducible rfl)
        simp only [List.setIfInBounds_toArray, List.set_cons_zero, List.set_cons_succ]
        refine take_in 9 52 (v := ?_) (oi := _) (ixA rfl) (by rfl) (by kernel_rfl) (by kernel_rfl) (by kernel_rfl) (by exact fun _ _ _ h => h) (Or.inl ⟨by rfl, ?_⟩) hS ?_
        rotate_left
        · intro w' hSw; (try dsimp only at hSw); (go_simp <;> with_reducible rfl)
        simp only [List.setIfInBounds_toArray, List.set_cons_zero, List.set_cons_succ]
        refine take_in 10 53 (v := ?_) (oi := _) (ixA rfl) (by rfl) (by kernel_rfl) (by kernel_rfl) (by kernel_rfl) (by exact fun _ _ _ h => h) (Or.inl ⟨by rfl, ?_⟩) hS ?_
        rotate_left
        · intro w' hSw; (try dsimp only at hSw); (go_simp <;> with_reducible rfl)
        simp only [List.setIfInBounds_toArray, List.set_cons_zero, List.set_cons_succ]
        refine take_in 11 54 (v := ?_) (oi := _) (ixA rfl) (by rfl) (by kernel_rfl) (by kernel_rfl) (by kernel_rfl) (by exact fun _ _ _ h => h) (Or.inl ⟨by rfl, ?_⟩) hS ?_
        rotate_left
        · intro w' hSw; (try dsimp only at hSw); (go_simp <;> with_reducible rfl)
        simp only [List.setIfInBounds_toArray, List.set_cons_zero, List.set_cons_succ]
        refine take_in 12 55 (v := ?_) (oi := _) (ixA rfl) (by rfl) (by kernel_rfl) (by kernel_rfl) (by kernel_rfl) (by exact fun _ _ _ h => h) (Or.inl ⟨by rfl, ?_⟩) hS ?_
        rotate_left
        · intro w' hSw; (try dsimp only at hSw); (go_simp <;> with_reducible rfl)
        simp only [List.setIfInBounds_toArray, List.set_cons_zero, List.set_cons_succ]
        refine take_in 13 56 (v := ?_) (oi := _) (ixA rfl) (by rfl) (by kernel_rfl) (by kernel_rfl) (by kernel_rfl) (by exact fun _ _ _ h => h) (Or.inl ⟨by rfl, ?_⟩) hS ?_
        rotate_left
        · intro w' hSw; (try dsimp only at hSw); (go_simp <;> with_reducible rfl)
        simp only [List.setIfInBounds_toArray, List.set_cons_zero, List.set_cons_succ]
        refine take_in 14 57 (v := ?_) (oi := _) (ixA rfl) (by rfl) (by kernel_rfl) (by kernel_rfl) (by kernel_rfl) (by exact fun _ _ _ h => h) (Or.inl ⟨by rfl, ?_⟩) hS ?_
        rotate_left
        · intro w' hSw; (try dsimp only at hSw); (go_simp <;> with_reducible rfl)
        simp only [List.setIfInBounds_toArray, List.set_cons_zero, List.set_cons_succ]
        refine take_in 15 58 (v := ?_) (oi := _) (ixA rfl) (by rfl) (by kernel_rfl) (by kernel_rfl) (by kernel_rfl) (by exact fun _ _ _ h => h) (Or.inl ⟨by rfl, ?_⟩) hS ?_
        rotate_left
        · intro w' hSw; (try dsimp only at hSw); (go_simp <;> with_reducible rfl)
        simp only [List.setIfInBounds_toArray, List.set_cons_zero, List.set_cons_succ]
        refine take_in 16 59 (v := ?_) (oi := _) (ixA rfl) (by rfl) (by kernel_rfl) (by kernel_rfl) (by kernel_rfl) (by exact fun _ _ _ h => h) (Or.inl ⟨by rfl, ?_⟩) hS ?_
        rotate_left
        · intro w' hSw; (try dsimp only at hSw); (go_simp <;> with_reducible rfl)
        simp only [List.setIfInBounds_toArray, List.set_cons_zero, List.set_cons_succ]
        refine take_in 17 60 (v := ?_) (oi := _) (ixA rfl) (by rfl) (by kernel_rfl) (by kernel_rfl) (by kernel_rfl) (by exact fun _ _ _ h => h) (Or.inl ⟨by rfl, ?_⟩) hS ?_
        rotate_left
        · intro w' hSw; (try dsimp only at hSw); (go_simp <;> with_reducible rfl)
        simp only [List.setIfInBounds_toArray, List.set_cons_zero, List.set_cons_succ]
        refine wpAnyH_ready (rs := [18]) (by kernel_rfl) (by simp) ?_
        refine AllReadyH.cons (o := _) (ixA rfl) (fun K' hK' => ?_) AllReadyH.nil
        rw [if_pos (by rfl)]
        go_simp
        refine (HAT.out _ hb4).mono ?_
        rintro e w5 ⟨rfl, hb5⟩
        have hb4 := Below.step hb4 hb5
        refine hK'.out _ _ (HCE.out _ hb4) (fun hS => ?_)
        clear hK' K'
        try simp only [Act.put, List.setIfInBounds_toArray, List.set_cons_zero, List.set_cons_succ]
        refine take_in 19 62 (v := ?_) (oi := _) (ixA rfl) (by rfl) (by kernel_rfl) (by kernel_rfl) (by kernel_rfl) (by exact fun _ _ _ h => h) (Or.inl ⟨by rfl, ?_⟩) hS ?_
        rotate_left
        · intro w' hSw; (try dsimp only at hSw); (go_simp <;> with_reducible rfl)
        simp only [List.setIfInBounds_toArray, List.set_cons_zero, List.set_cons_succ]
        refine wpAnyH_done (by kernel_rfl) ?_ _
        clear hS HCE
        go_wp2_with fail
        go_meet
        case rel => exact ⟨by rw [HFB.out]; rfl, hb4⟩
    case rest =>
    obtain ⟨rfl, hbc⟩ := hcut
    by_cases hv : kd = 80 ∧ singleT bd nm = true ∧ (((kidsRt t i).map (treT t f)).head?.map (fun a => atomT bd a.nd)) = some true
    · rw [decide_eq_true hv]
      obtain ⟨rfl, hsg, hat⟩ := hv
      have h1 := HKD.out (.inr rfl)
      have h2 := single_le hsg
      obtain ⟨x, rfl⟩ : ∃ x : Nat, nm = (x : Int) := ⟨nm.toNat, by omega⟩
      obtain ⟨a, b, hab, -, -⟩ := HPT.out.node.code2 (.inr (.inl rfl))
      have hl2 : (kidsRt t i).length = 2 := by rw [← List.length_map (f := treT t f), hab]; rfl
      obtain ⟨r0, r1, hr⟩ := twoS_of hl2
      have hq2 : q = 2 := by have := HRL.out; omega
      subst hq2
      have hr0 : r0 < i := HLT.out r0 (by rw [hr]; simp)
      have hr1 : r1 < i := HLT.out r1 (by rw [hr]; simp)
      have hat0 := hat
      rw [hr] at hat
      simp only [List.map_cons, List.head?_cons, Option.map_some, Option.some.injEq] at hat
      have hp0 := HPL.out f r0 (by omega) (by omega)
      have hp1 := HPL.out f r1 (by omega) (by omega)
      have hkt := less_kept bd us (treT t f r0) P hp0 HPG.out
      have hat1 := less_atom bd us hp0 hat HPG.out
      obtain ⟨L1, hL1⟩ : ∃ L1, lessT bd us (treT t f r0) P = L1 := ⟨_, rfl⟩
      rw [hL1] at hat1 hkt
      have hpc0 : cls L1.1.nd = 1 := by rw [hkt.1.cl, treT_nd]; exact atom_cls (by rw [treT_nd] at hat; exact hat)
      have hPG2 : PGood (setP P (x : Int) (some L1.1)) := HPG.out.put hkt.1.pl hpc0 hat1.1 h1 h2
      obtain ⟨L2, hL2⟩ : ∃ L2, lessT bd us (treT t f r1) (setP P (x : Int) (some L1.1)) = L2 := ⟨_, rfl⟩
      have HRB : Hid (R = (L2.1, setP L2.2 (x : Int) none)) := by
        show _ = _
        rw [← HR.out, lessT_eq]
        unfold lessStep
        rw [if_neg (by intro h; exact absurd (show (80 : Int) = 70 from h.1) (by decide)), if_pos ⟨rfl, hsg, hat0⟩, hr]
        simp only [List.map_cons, List.map_nil]
        rw [hL1, hat1.2, hL2]
      have HP2 : Hid (L1.2 = P) := hat1.2
      have HPG2 : Hid _ := hPG2
      have HRXc : Hid _ := (hbc.block z (by omega)).trans HRX.out
      have HRZc : Hid _ := (hbc.block (z + 1) (by omega)).trans HRZ.out
      have HRNc : Hid _ := (hbc.block (z + 2) (by omega)).trans HRN.out
      have HGc : Hid (Ints wc W0.heap.size G 2 2 (rts K)) := HG.out.below hbc
      have HBc : Hid (Below w.heap.size w wc) := Below.step HB1.out hbc
      have HZC : Hid (z + 3 ≤ wc.heap.size) := by have := hbc.size; show _ ≤ _; omega
      have HZG : Hid (k.g4 < z ∧ k.g5 < z) := by
        have := HPA.out.lt4
        have := HZ.out
        show _ ∧ _
        omega
      have HPc : Hid (Pas k t m ys bd us wc (fun q => A q ∧ q ≠ z + 1) P) := HP1.out.under hbc (fun q hq _ => hq) HP1.out.out
      have HRR : Hid (kidsRt t i = [r0, r1]) := hr
      have HCE : Hid (∀ W, But k.W wc W → W.cell? ⟨z, 0, none⟩ = some (.slice (some ⟨k.b0, k.o0, none⟩) m k.cap) ∧ W.cell? ⟨z, 1, none⟩ = some (.slice (some ⟨k.gz, 0, none⟩) m k.cz) ∧ W.cell? ⟨z, 2, none⟩ = some (.slice (some ⟨k.b2, 0, none⟩) 200001 k.c2) ∧ W.cell? ⟨z, 3, none⟩ = some (.slice (some ⟨k.b3, 0, none⟩) 200001 k.c3) ∧ W.cell? ⟨z, 4, none⟩ = some (.slice (some ⟨k.g4, 0, none⟩) 200001 k.c4) ∧ W.cell? ⟨z, 5, none⟩ = some (.slice (some ⟨k.g5, 0, none⟩) 200001 k.c5) ∧ W.cell? ⟨z + 2, 1, none⟩ = some (.int .i64 (x : Int)) ∧ W.cell? ⟨G, 0, none⟩ = some (.int .i64 (r0 : Int)) ∧ W.cell? ⟨G, 1, none⟩ = some (.int .i64 (r1 : Int))) := by
        intro W hW
        have hzg := HZG.out
        have hzc := HZC.out
        have hgz := HGz.out
        have q0 := (hW.block z (by omega) (by rintro (e | e) <;> omega)).trans HRXc.out
        have q2 := (hW.block (z + 2) (by omega) (by rintro (e | e) <;> omega)).trans HRNc.out
        have hG9 := HGc.out.butL hW (by rintro (e | e) <;> omega)
        have hg0 := hG9.at 0 (by rw [HRK.out, HRR.out]; simp)
        have hg1 := hG9.at 1 (by rw [HRK.out, HRR.out]; simp)
        refine ⟨?_, ?_, ?_, ?_, ?_, ?_, ?_, ?_, ?_⟩
        · rw [cell_of_row _ _ _ _ _ _ q0]; rfl
        · rw [cell_of_row _ _ _ _ _ _ q0]; rfl
        · rw [cell_of_row _ _ _ _ _ _ q0]; rfl
        · rw [cell_of_row _ _ _ _ _ _ q0]; rfl
        · rw [cell_of_row _ _ _ _ _ _ q0]; rfl
        · rw [cell_of_row _ _ _ _ _ _ q0]; rfl
        · rw [cell_of_row _ _ _ _ _ _ q2]; rfl
        · rw [hg0]; simp [HRK.out, HRR.out]
        · rw [hg1]; simp [HRK.out, HRR.out]
      have HC1 : Hid (∀ W, Below wc.heap.size wc W → Calls Tryz.prog 35 #[.agg #[.slice (some ⟨k.b0, k.o0, none⟩) m k.cap, .slice (some ⟨k.gz, 0, none⟩) m k.cz, .slice (some ⟨k.b2, 0, none⟩) 200001 k.c2, .slice (some ⟨k.b3, 0, none⟩) 200001 k.c3, .slice (some ⟨k.g4, 0, none⟩) 200001 k.c4, .slice (some ⟨k.g5, 0, none⟩) 200001 k.c5], .int .i64 (r0 : Int)] W fun e w' => LsRes k t m ys bd us W (fun q => A q ∧ q ≠ z + 1) L1 e w') := by
        intro W hW
        have hs := hW.size
        have hzc := HZC.out
        rw [← hL1]
        exact HIH.out r0 W (fun q => A q ∧ q ≠ z + 1) P (by omega) (by omega) (HPc.out.under hW (fun q hq _ => hq) HPc.out.out) HPG.out (fun q hq => ⟨HA.out q (by have := HZ.out; omega), by omega⟩)
      have HC2 : Hid (∀ W A9, Pas k t m ys bd us W A9 (setP P (x : Int) (some L1.1)) → (∀ q, W.heap.size ≤ q → A9 q) → Calls Tryz.prog 35 #[.agg #[.slice (some ⟨k.b0, k.o0, none⟩) m k.cap, .slice (some ⟨k.gz, 0, none⟩) m k.cz, .slice (some ⟨k.b2, 0, none⟩) 200001 k.c2, .slice (some ⟨k.b3, 0, none⟩) 200001 k.c3, .slice (some ⟨k.g4, 0, none⟩) 200001 k.c4, .slice (some ⟨k.g5, 0, none⟩) 200001 k.c5], .int .i64 (r1 : Int)] W fun e w' => LsRes k t m ys bd us W A9 L2 e w') := by
        intro W A9 hW hq
        rw [← hL2]
        exact HIH.out r1 W A9 _ (by omega) (by omega) hW HPG2.out hq
      have bD := (Below.refl wc.heap.size wc).drew
      have hbD := But.ofBelow (S := k.W) bD
      have hx1 : (x : Int) < 200001 := by omega
      have hx0 : (0 : Int) ≤ (x : Int) := by omega
      have HX : Hid (x ≤ 200000) := by show _ ≤ _; omega
      clear hsg hat hat0 hab hl2 hr hkt hat1 hL1 hL2 hpc0 hPG2 hp0 hp1 h1 h2 hbc HRX HRZ HRN HG HB1 HP1 hGb hGz hz1 HNV
      go_upto_region 6 with fail
      refine wp_region_held_drew (S := fun w' => w'.cell? ⟨z, 0, none⟩ = some (.slice (some ⟨k.b0, k.o0, none⟩) m k.cap) ∧ w'.cell? ⟨z, 1, none⟩ = some (.slice (some ⟨k.gz, 0, none⟩) m k.cz) ∧ w'.cell? ⟨z, 2, none⟩ = some (.slice (some ⟨k.b2, 0, none⟩) 200001 k.c2) ∧ w'.cell? ⟨z, 3, none⟩ = some (.slice (some ⟨k.b3, 0, none⟩) 200001 k.c3) ∧ w'.cell? ⟨z, 4, none⟩ = some (.slice (some ⟨k.g4, 0, none⟩) 200001 k.c4) ∧ w'.cell? ⟨z, 5, none⟩ = some (.slice (some ⟨k.g5, 0, none⟩) 200001 k.c5) ∧ w'.cell? ⟨z + 2, 1, none⟩ = some (.int .i64 (x : Int)) ∧ w'.cell? ⟨G, 0, none⟩ = some (.int .i64 (r0 : Int)) ∧ w'.cell? ⟨G, 1, none⟩ = some (.int .i64 (r1 : Int))) (by kernel_rfl) (HCE.out _ hbD) (fun hS => ?_)
      refine take_in 0 63 (v := ?_) (oi := _) (ixA rfl) (by rfl) (by kernel_rfl) (by kernel_rfl) (by kernel_rfl) (by exact fun _ _ _ h => h) (Or.inl ⟨by rfl, ?_⟩) hS ?_
      rotate_left
      · intro w' hSw; (try dsimp only at hSw); (go_simp <;> with_reducible rfl)
      simp only [List.setIfInBounds_toArray, List.set_cons_zero, List.set_cons_succ]
      refine take_in 1 64 (v := ?_) (oi := _) (ixA rfl) (by rfl) (by kernel_rfl) (by kernel_rfl) (by kernel_rfl) (by exact fun _ _ _ h => h) (Or.inl ⟨by rfl, ?_⟩) hS ?_
      rotate_left
      · intro w' hSw; (try dsimp only at hSw); (go_simp <;> with_reducible rfl)
      simp only [List.setIfInBounds_toArray, List.set_cons_zero, List.set_cons_succ]
      refine take_in 2 65 (v := ?_) (oi := _) (ixA rfl) (by rfl) (by kernel_rfl) (by kernel_rfl) (by kernel_rfl) (by exact fun _ _ _ h => h) (Or.inl ⟨by rfl, ?_⟩) hS ?_
      rotate_left
      · intro w' hSw; (try dsimp only at hSw); (go_simp <;> with_reducible rfl)
      simp only [List.setIfInBounds_toArray, List.set_cons_zero, List.set_cons_succ]
      refine take_in 3 66 (v := ?_) (oi := _) (ixA rfl) (by rfl) (by kernel_rfl) (by kernel_rfl) (by kernel_rfl) (by exact fun _ _ _ h => h) (Or.inl ⟨by rfl, ?_⟩) hS ?_
      rotate_left
      · intro w' hSw; (try dsimp only at hSw); (go_simp <;> with_reducible rfl)
      simp only [List.setIfInBounds_toArray, List.set_cons_zero, List.set_cons_succ]
      refine take_in 4 67 (v := ?_) (oi := _) (ixA rfl) (by rfl) (by kernel_rfl) (by kernel_rfl) (by kernel_rfl) (by exact fun _ _ _ h => h) (Or.inl ⟨by rfl, ?_⟩) hS ?_
      rotate_left
      · intro w' hSw; (try dsimp only at hSw); (go_simp <;> with_reducible rfl)
      simp only [List.setIfInBounds_toArray, List.set_cons_zero, List.set_cons_succ]
      refine take_in 5 68 (v := ?_) (oi := _) (ixA rfl) (by rfl) (by kernel_rfl) (by kernel_rfl) (by kernel_rfl) (by exact fun _ _ _ h => h) (Or.inl ⟨by rfl, ?_⟩) hS ?_
      rotate_left
      · intro w' hSw; (try dsimp only at hSw); (go_simp <;> with_reducible rfl)
      simp only [List.setIfInBounds_toArray, List.set_cons_zero, List.set_cons_succ]
      refine take_in 6 69 (v := ?_) (oi := _) (ixA rfl) (by rfl) (by kernel_rfl) (by kernel_rfl) (by kernel_rfl) (by exact fun _ _ _ h => h) (Or.inl ⟨by rfl, ?_⟩) hS ?_
      rotate_left
      · intro w' hSw; (try dsimp only at hSw); (go_simp <;> with_reducible rfl)
      simp only [List.setIfInBounds_toArray, List.set_cons_zero, List.set_cons_succ]
      refine take_in 7 70 (v := ?_) (oi := _) (ixA rfl) (by rfl) (by kernel_rfl) (by kernel_rfl) (by kernel_rfl) (by exact fun _ _ _ h => h) (Or.inl ⟨by rfl, ?_⟩) hS ?_
      rotate_left
      · intro w' hSw; (try dsimp only at hSw); (go_simp <;> with_reducible rfl)
      simp only [List.setIfInBounds_toArray, List.set_cons_zero, List.set_cons_succ]
      refine wpAnyH_ready (rs := [8]) (by kernel_rfl) (by simp) ?_
      refine AllReadyH.cons (o := _) (ixA rfl) (fun K' hK' => ?_) AllReadyH.nil
      rw [if_pos (by rfl)]
      go_simp
      refine (HC1.out _ bD).mono ?_
      rintro e w3 ⟨s1, rfl, hs1, hp1, hb3⟩
      have hb4 := hbD.trans hb3
      refine hK'.out _ _ (HCE.out _ hb4) (fun hS => ?_)
      clear hK' K'
      try simp only [Act.put, List.setIfInBounds_toArray, List.set_cons_zero, List.set_cons_succ]
      refine take_in 9 72 (v := ?_) (oi := _) (ixA rfl) (by rfl) (by kernel_rfl) (by kernel_rfl) (by kernel_rfl) (by exact fun _ _ _ h => h) (Or.inl ⟨by rfl, ?_⟩) hS ?_
      rotate_left
      · intro w' hSw; (try dsimp only at hSw); (go_simp <;> with_reducible rfl)
      simp only [List.setIfInBounds_toArray, List.set_cons_zero, List.set_cons_succ]
      rw [HP2.out] at hp1
      obtain ⟨cur4, r4, z4⟩ := hp1.row4
      have fz : ∀ j, w3.frozen? ⟨k.g4, j, none⟩ = false := fun j => frozen_of_row _ _ _ _ _ r4
      have hcu : ∀ j, j < 1400007 → ∃ u, w3.cell? ⟨k.g4, j, none⟩ = some u := fun j hj => ⟨cur4[j]'(by omega), by rw [cell_of_row _ _ _ _ _ _ r4]; simp [z4, hj]⟩
      obtain ⟨u0, d0⟩ := hcu (x * 7) (by omega)
      have f0 := fz (x * 7)
      obtain ⟨u1, d1⟩ := hcu (x * 7 + 1) (by omega)
      have f1 := fz (x * 7 + 1)
      obtain ⟨u2, d2⟩ := hcu (x * 7 + 2) (by omega)
      have f2 := fz (x * 7 + 2)
      obtain ⟨u3, d3⟩ := hcu (x * 7 + 3) (by omega)
      have f3 := fz (x * 7 + 3)
      obtain ⟨u4, d4⟩ := hcu (x * 7 + 4) (by omega)
      have f4 := fz (x * 7 + 4)
      obtain ⟨u5, d5⟩ := hcu (x * 7 + 5) (by omega)
      have f5 := fz (x * 7 + 5)
      obtain ⟨u6, d6⟩ := hcu (x * 7 + 6) (by omega)
      have f6 := fz (x * 7 + 6)
      have lg4 : k.g4 < w3.heap.size := lt_of_cell d0
      have HS1 : Hid _ := hs1
      have HP3 : Hid _ := hp1
      clear fz hcu r4 hs1 hp1
      refine wpAnyH_ready (rs := [10]) (by kernel_rfl) (by simp) ?_
      refine AllReadyH.cons (o := _) (ixA rfl) (fun K' hK' => ?_) AllReadyH.nil
      rw [if_pos (by rfl)]
      simp only [sv] at hK' ⊢
      go_simp
      refine hK'.out _ _ (HCE.out _ (put7_but (o := x * 7) L1.1 s1 hb4 (Or.inl rfl))) (fun hS => ?_)
      clear hK' K'
      try simp only [Act.put, List.setIfInBounds_toArray, List.set_cons_zero, List.set_cons_succ]
      refine wpAnyH_done (by kernel_rfl) ?_ _
      have HPut : Hid (Pas k t m ys bd us ((((((((w3.setCell ⟨k.g4, x * 7, none⟩ (.int .i64 L1.1.nd.kind)).setCell ⟨k.g4, x * 7 + 1, none⟩ (.int .i64 L1.1.nd.num)).setCell ⟨k.g4, x * 7 + 2, none⟩ (.string L1.1.nd.text)).setCell ⟨k.g4, x * 7 + 3, none⟩ (.int .i64 L1.1.nd.kids)).setCell ⟨k.g4, x * 7 + 4, none⟩ (.int .i64 L1.1.nd.place)).setCell ⟨k.g4, x * 7 + 5, none⟩ (.slice s1.1 s1.2.1 s1.2.2)).setCell ⟨k.g4, x * 7 + 6, none⟩ (.bool (knT L1.1))).setCell ⟨k.g5, x, none⟩ (.bool true)) (fun q => A q ∧ q ≠ z + 1) (setP P (x : Int) (some L1.1))) := HP3.out.put HX.out L1.1 s1 HS1.out
      have HB4 : Hid (But k.W wc (((((((w3.setCell ⟨k.g4, x * 7, none⟩ (.int .i64 L1.1.nd.kind)).setCell ⟨k.g4, x * 7 + 1, none⟩ (.int .i64 L1.1.nd.num)).setCell ⟨k.g4, x * 7 + 2, none⟩ (.string L1.1.nd.text)).setCell ⟨k.g4, x * 7 + 3, none⟩ (.int .i64 L1.1.nd.kids)).setCell ⟨k.g4, x * 7 + 4, none⟩ (.int .i64 L1.1.nd.place)).setCell ⟨k.g4, x * 7 + 5, none⟩ (.slice s1.1 s1.2.1 s1.2.2)).setCell ⟨k.g4, x * 7 + 6, none⟩ (.bool (knT L1.1)))) := put7_but (o := x * 7) L1.1 s1 hb4 (Or.inl rfl)
      obtain ⟨cur5, r5, z5⟩ := HP3.out.row5
      have r5' : (((((((w3.setCell ⟨k.g4, x * 7, none⟩ (.int .i64 L1.1.nd.kind)).setCell ⟨k.g4, x * 7 + 1, none⟩ (.int .i64 L1.1.nd.num)).setCell ⟨k.g4, x * 7 + 2, none⟩ (.string L1.1.nd.text)).setCell ⟨k.g4, x * 7 + 3, none⟩ (.int .i64 L1.1.nd.kids)).setCell ⟨k.g4, x * 7 + 4, none⟩ (.int .i64 L1.1.nd.place)).setCell ⟨k.g4, x * 7 + 5, none⟩ (.slice s1.1 s1.2.1 s1.2.2)).setCell ⟨k.g4, x * 7 + 6, none⟩ (.bool (knT L1.1))).heap[k.g5]? = some (.cells cur5 4 (0, 0)) := ((put7_but (S := (· = k.g4)) (o := x * 7) L1.1 s1 (But.refl _ w3) rfl).block k.g5 HP3.out.lt4.2 (fun e => HP3.out.apart.2.2.2.2 e.symm)).trans r5
      clear d0 d1 d2 d3 d4 d5 d6 f0 f1 f2 f3 f4 f5 f6 hb4 hb3 hbD bD r5 HC1
      generalize (((((((w3.setCell ⟨k.g4, x * 7, none⟩ (.int .i64 L1.1.nd.kind)).setCell ⟨k.g4, x * 7 + 1, none⟩ (.int .i64 L1.1.nd.num)).setCell ⟨k.g4, x * 7 + 2, none⟩ (.string L1.1.nd.text)).setCell ⟨k.g4, x * 7 + 3, none⟩ (.int .i64 L1.1.nd.kids)).setCell ⟨k.g4, x * 7 + 4, none⟩ (.int .i64 L1.1.nd.place)).setCell ⟨k.g4, x * 7 + 5, none⟩ (.slice s1.1 s1.2.1 s1.2.2)).setCell ⟨k.g4, x * 7 + 6, none⟩ (.bool (knT L1.1))) = W4 at HPut HB4 r5' hS ⊢
      have f5 : W4.frozen? ⟨k.g5, x, none⟩ = false := frozen_of_row _ _ _ _ _ r5'
      have c5 : W4.cell? ⟨k.g5, x, none⟩ = some (cur5[x]'(by omega)) := by rw [cell_of_row _ _ _ _ _ _ r5']; simp
      obtain ⟨y0, y1, y2, y3, y4, y5, y6, -, -⟩ := hS
      have ly : z < W4.heap.size := lt_of_cell y0
      have ly2 : z + 2 < W4.heap.size := lt_of_cell y6
      have lg5 : k.g5 < W4.heap.size := lt_of_cell c5
      generalize cur5[x] = u5 at c5
      clear r5' y0 y1 y2 y3 y4
      go_upto_region 8 with fail
      have HB5 : Hid (But k.W wc (W4.setCell ⟨k.g5, x, none⟩ (.bool true))) := HB4.out.setCell (p := ⟨k.g5, x, none⟩) (Or.inr rfl) _
      clear f5 c5 y5 y6 ly ly2 lg5
      generalize W4.setCell ⟨k.g5, x, none⟩ (.bool true) = W5 at HPut HB5 ⊢
      have l5c := HB5.out.size
      have HZ5 : Hid (z + 3 ≤ W5.heap.size) := by have := HZC.out; show _ ≤ _; omega
      have HCE8 : Hid (∀ W, But (fun q => k.W q ∨ q = W5.heap.size) W5 W → W.cell? ⟨z, 0, none⟩ = some (.slice (some ⟨k.b0, k.o0, none⟩) m k.cap) ∧ W.cell? ⟨z, 1, none⟩ = some (.slice (some ⟨k.gz, 0, none⟩) m k.cz) ∧ W.cell? ⟨z, 2, none⟩ = some (.slice (some ⟨k.b2, 0, none⟩) 200001 k.c2) ∧ W.cell? ⟨z, 3, none⟩ = some (.slice (some ⟨k.b3, 0, none⟩) 200001 k.c3) ∧ W.cell? ⟨z, 4, none⟩ = some (.slice (some ⟨k.g4, 0, none⟩) 200001 k.c4) ∧ W.cell? ⟨z, 5, none⟩ = some (.slice (some ⟨k.g5, 0, none⟩) 200001 k.c5) ∧ W.cell? ⟨z + 2, 1, none⟩ = some (.int .i64 (x : Int)) ∧ W.cell? ⟨G, 0, none⟩ = some (.int .i64 (r0 : Int)) ∧ W.cell? ⟨G, 1, none⟩ = some (.int .i64 (r1 : Int))) := fun W hW => HCE.out W (HB5.out.trans (hW.shrink (fun q hq h => h.elim id (fun e => by omega))))
      have bD := (Below.refl W5.heap.size W5).drew
      have bA := ((Below.refl W5.heap.size W5).alloc (Nat.le_refl _) (.cells #[.int .i64 0, .int .i64 0, .string ⟨#[]⟩, .int .i64 0, .int .i64 0, .slice none 0 0, .bool false] 59)).drew
      have hbD := But.ofBelow (S := fun q => k.W q ∨ q = W5.heap.size) bD
      have hbA := But.ofBelow (S := fun q => k.W q ∨ q = W5.heap.size) bA
      have RA : Hid ((W5.alloc (.cells #[.int .i64 0, .int .i64 0, .string ⟨#[]⟩, .int .i64 0, .int .i64 0, .slice none 0 0, .bool false] 59)).drew.heap[W5.heap.size]? = some (.cells #[.int .i64 0, .int .i64 0, .string ⟨#[]⟩, .int .i64 0, .int .i64 0, .slice none 0 0, .bool false] 59 (0, 0))) := heap_alloc_new _ _
      have PD : Hid (Pas k t m ys bd us W5.drew (fun q => A q ∧ q ≠ z + 1) (setP P (x : Int) (some L1.1))) := HPut.out.under bD (fun q hq _ => hq) HPut.out.out
      have PA : Hid (Pas k t m ys bd us (W5.alloc (.cells #[.int .i64 0, .int .i64 0, .string ⟨#[]⟩, .int .i64 0, .int .i64 0, .slice none 0 0, .bool false] 59)).drew (fun q => (A q ∧ q ≠ z + 1) ∧ q ≠ W5.heap.size) (setP P (x : Int) (some L1.1))) := HPut.out.under bA (fun q hq hl => ⟨hq, by omega⟩) (fun q hq => HPut.out.out q hq.1)
      have QD : Hid (∀ q, W5.drew.heap.size ≤ q → (fun q => A q ∧ q ≠ z + 1) q) := fun q hq => by have h9 : W5.heap.size ≤ q := hq; have := HZ5.out; exact ⟨HA.out q (by have := HZ.out; omega), by omega⟩
      have QA : Hid (∀ q, (W5.alloc (.cells #[.int .i64 0, .int .i64 0, .string ⟨#[]⟩, .int .i64 0, .int .i64 0, .slice none 0 0, .bool false] 59)).drew.heap.size ≤ q → (fun q => (A q ∧ q ≠ z + 1) ∧ q ≠ W5.heap.size) q) := fun q hq => by have h9 : W5.heap.size + 1 ≤ q := (by simpa using hq); have := HZ5.out; exact ⟨⟨HA.out q (by have := HZ.out; omega), by omega⟩, by omega⟩
      have lz5 : z < W5.heap.size := by have := HZ5.out; omega
      have lg9 : G < W5.heap.size := by have := HGc.out.block; omega
      have HL : Hid (k.g4 < W5.heap.size ∧ k.g5 < W5.heap.size) := HPut.out.lt4
      clear l5c
      go_cut [7] from 78 to 82 (fun v7 wx => ∃ (rb : Nat) (s2 : Sl3), v7 = .pointer (some ⟨rb, 0, none⟩) ∧ Row7 wx rb 0 L2.1 s2 ∧ SRep wx (fun q => A q ∧ q ≠ z + 1) L2.1 s2 ∧ Pas k t m ys bd us wx (fun q => A q ∧ q ≠ z + 1) L2.2 ∧ But k.W W5 wx ∧ W5.heap.size ≤ rb)
      case first =>
        refine wp_region_held_drew (S := fun w' => w'.cell? ⟨z, 0, none⟩ = some (.slice (some ⟨k.b0, k.o0, none⟩) m k.cap) ∧ w'.cell? ⟨z, 1, none⟩ = some (.slice (some ⟨k.gz, 0, none⟩) m k.cz) ∧ w'.cell? ⟨z, 2, none⟩ = some (.slice (some ⟨k.b2, 0, none⟩) 200001 k.c2) ∧ w'.cell? ⟨z, 3, none⟩ = some (.slice (some ⟨k.b3, 0, none⟩) 200001 k.c3) ∧ w'.cell? ⟨z, 4, none⟩ = some (.slice (some ⟨k.g4, 0, none⟩) 200001 k.c4) ∧ w'.cell? ⟨z, 5, none⟩ = some (.slice (some ⟨k.g5, 0, none⟩) 200001 k.c5) ∧ w'.cell? ⟨z + 2, 1, none⟩ = some (.int .i64 (x : Int)) ∧ w'.cell? ⟨G, 0, none⟩ = some (.int .i64 (r0 : Int)) ∧ w'.cell? ⟨G, 1, none⟩ = some (.int .i64 (r1 : Int))) (by kernel_rfl) (HCE8.out _ hbD) (fun hS => ?_)
        refine take_in 0 78 (v := ?_) (oi := _) (ixA rfl) (by rfl) (by kernel_rfl) (by kernel_rfl) (by kernel_rfl) (by exact fun _ _ _ h => h) (Or.inl ⟨by rfl, ?_⟩) hS ?_
        rotate_left
        · intro w' hSw; (try dsimp only at hSw); (go_simp <;> with_reducible rfl)
        simp only [List.setIfInBounds_toArray, List.set_cons_zero, List.set_cons_succ]
        refine take_in 1 79 (v := ?_) (oi := _) (ixA rfl) (by rfl) (by kernel_rfl) (by kernel_rfl) (by kernel_rfl) (by exact fun _ _ _ h => h) (Or.inl ⟨by rfl, ?_⟩) hS ?_
        rotate_left
        · intro w' hSw; (try dsimp only at hSw); (go_simp <;> with_reducible rfl)
        simp only [List.setIfInBounds_toArray, List.set_cons_zero, List.set_cons_succ]
        refine take_in 2 80 (v := ?_) (oi := _) (ixA rfl) (by rfl) (by kernel_rfl) (by kernel_rfl) (by kernel_rfl) (by exact fun _ _ _ h => h) (Or.inl ⟨by rfl, ?_⟩) hS ?_
        rotate_left
        · intro w' hSw; (try dsimp only at hSw); (go_simp <;> with_reducible rfl)
        simp only [List.setIfInBounds_toArray, List.set_cons_zero, List.set_cons_succ]
        refine take_in 3 81 (v := ?_) (oi := _) (ixA rfl) (by rfl) (by kernel_rfl) (by kernel_rfl) (by kernel_rfl) (by exact fun _ _ _ h => h) (Or.inl ⟨by rfl, ?_⟩) hS ?_
        rotate_left
        · intro w' hSw; (try dsimp only at hSw); (go_simp <;> with_reducible rfl)
        simp only [List.setIfInBounds_toArray, List.set_cons_zero, List.set_cons_succ]
        refine wpAnyH_ready (rs := [4, 5]) (by kernel_rfl) (by simp) ?_
        refine AllReadyH.cons (o := _) (ixA rfl) (fun K' hK' => ?_) (AllReadyH.cons (o := _) (ixA rfl) (fun K' hK' => ?_) AllReadyH.nil)
        · rw [if_pos (by rfl)]
          go_simp
          refine (HC2.out _ _ PD.out QD.out).mono ?_
          rintro e w6 ⟨s2, rfl, hs2, hp2, hb7⟩
          have hb8 := hbD.trans (hb7.mono (fun q h => Or.inl (b := q = W5.heap.size) h))
          refine hK'.out _ _ (HCE8.out _ hb8) (fun hS => ?_)
          clear hK' K'
          try simp only [Act.put, List.setIfInBounds_toArray, List.set_cons_zero, List.set_cons_succ]
          refine wpAnyH_ready (rs := [5]) (by kernel_rfl) (by simp) ?_
          refine AllReadyH.cons (o := _) (ixA rfl) (fun K' hK' => ?_) AllReadyH.nil
          rw [if_pos (by rfl)]
          go_simp
          refine hK'.out _ _ (HCE8.out _ (hb8.trans (But.ofBelow ((Below.refl _ _).alloc (Nat.le_refl _) _)))) (fun hS => ?_)
          clear hK' K'
          try simp only [Act.put, List.setIfInBounds_toArray, List.set_cons_zero, List.set_cons_succ]
          refine wpAnyH_ready (rs := [6]) (by kernel_rfl) (by simp) ?_
          refine AllReadyH.cons (o := _) (ixA rfl) (fun K' hK' => ?_) AllReadyH.nil
          rw [if_pos (by rfl)]
          simp only [sv] at hK' ⊢
          go_simp
          refine hK'.out _ _ (HCE8.out _ (hb8.trans (But.ofBelow ((Below.refl _ _).alloc (Nat.le_refl _) _)))) (fun hS => ?_)
          clear hK' K'
          try simp only [Act.put, List.setIfInBounds_toArray, List.set_cons_zero, List.set_cons_succ]
          refine wpAnyH_done (by kernel_rfl) ?_ _
          have bE := (Below.refl w6.heap.size w6).alloc (Nat.le_refl _) (.cells #[.int .i64 L2.1.nd.kind, .int .i64 L2.1.nd.num, .string L2.1.nd.text, .int .i64 L2.1.nd.kids, .int .i64 L2.1.nd.place, .slice s2.1 s2.2.1 s2.2.2, .bool (knT L2.1)] 59)
          have HROW : Hid (Row7 _ _ 0 L2.1 s2) := row7_of (heap_alloc_new w6 (.cells #[.int .i64 L2.1.nd.kind, .int .i64 L2.1.nd.num, .string L2.1.nd.text, .int .i64 L2.1.nd.kids, .int .i64 L2.1.nd.place, .slice s2.1 s2.2.1 s2.2.2, .bool (knT L2.1)] 59))
          have HSR : Hid _ := hs2.under bE
          have HPP : Hid _ := hp2.under (A' := (fun q => A q ∧ q ≠ z + 1)) bE (fun q hq _ => hq) (fun q hq => HPA.out.out q hq.1)
          have HBB : Hid (But k.W W5 _) := ((But.ofBelow bD).trans hb7).trans (But.ofBelow bE)
          have HLE : Hid (W5.heap.size ≤ w6.heap.size) := hb7.size
          clear hs2 hp2 hb7 hb8 bE hbD hbA bA bD hS
          go_wp2_with fail
          go_meet
          case rel => exact ⟨_, s2, rfl, HROW.out, HSR.out, HPP.out, HBB.out, HLE.out⟩
        · rw [if_pos (by rfl)]
          go_simp
          refine hK'.out _ _ (HCE8.out _ hbA) (fun hS => ?_)
          clear hK' K'
          try simp only [Act.put, List.setIfInBounds_toArray, List.set_cons_zero, List.set_cons_succ]
          refine wpAnyH_ready (rs := [4]) (by kernel_rfl) (by simp) ?_
          refine AllReadyH.cons (o := _) (ixA rfl) (fun K' hK' => ?_) AllReadyH.nil
          rw [if_pos (by rfl)]
          go_simp
          refine (HC2.out _ _ PA.out QA.out).mono ?_
          rintro e w6 ⟨s2, rfl, hs2, hp2, hb7⟩
          have hb8 := hbA.trans (hb7.mono (fun q h => Or.inl (b := q = W5.heap.size) h))
          refine hK'.out _ _ (HCE8.out _ hb8) (fun hS => ?_)
          clear hK' K'
          try simp only [Act.put, List.setIfInBounds_toArray, List.set_cons_zero, List.set_cons_succ]
          have r9 := (hb7.block W5.heap.size (by simp) (by have := HL.out; rintro (e | e) <;> omega)).trans RA.out
          obtain ⟨f, d0, d1, d2, d3, d4, d5, d6⟩ := zero7 r9
          have f0 := f 0
          have f1 := f 1
          have f2 := f 2
          have f3 := f 3
          have f4 := f 4
          have f5 := f 5
          have f6 := f 6
          have LZ : W5.heap.size < w6.heap.size := lt_of_cell d0
          clear f
          refine wpAnyH_ready (rs := [6]) (by kernel_rfl) (by simp) ?_
          refine AllReadyH.cons (o := _) (ixA rfl) (fun K' hK' => ?_) AllReadyH.nil
          rw [if_pos (by rfl)]
          simp only [sv] at hK' ⊢
          go_simp
          refine hK'.out _ _ (HCE8.out _ (set7_but (S := fun q => k.W q ∨ q = W5.heap.size) hb8 (Or.inr rfl) _ _ _ _ _ _ _)) (fun hS => ?_)
          clear hK' K'
          try simp only [Act.put, List.setIfInBounds_toArray, List.set_cons_zero, List.set_cons_succ]
          refine wpAnyH_done (by kernel_rfl) ?_ _
          have bz := set7_but (S := (· = W5.heap.size)) (But.refl _ w6) (show W5.heap.size = W5.heap.size from rfl) (.int .i64 L2.1.nd.kind) (.int .i64 L2.1.nd.num) (.string L2.1.nd.text) (.int .i64 L2.1.nd.kids) (.int .i64 L2.1.nd.place) (.slice s2.1 s2.2.1 s2.2.2) (.bool (knT L2.1))
          have HROW : Hid (Row7 _ _ 0 L2.1 s2) := row7_of (set7 r9 (.int .i64 L2.1.nd.kind) (.int .i64 L2.1.nd.num) (.string L2.1.nd.text) (.int .i64 L2.1.nd.kids) (.int .i64 L2.1.nd.place) (.slice s2.1 s2.2.1 s2.2.2) (.bool (knT L2.1)))
          have HSR : Hid _ := hs2.but (A' := (fun q => A q ∧ q ≠ z + 1)) bz (fun q hq => hq.2) (fun q hq _ => hq.1)
          have HPP : Hid _ := hp2.turn (A' := (fun q => A q ∧ q ≠ z + 1)) bz (pas_lt HPut.out (Nat.le_refl _) (by have := HM.out; omega)) (fun q hq => hq.2) (fun q hq _ => hq.1) (fun q hq => HPA.out.out q hq.1)
          have HBB : Hid (But k.W W5 _) := ((But.ofBelow bA).trans hb7).trans2 bz (Nat.le_refl _)
          clear hs2 hp2 hb7 hb8 bz hbD hbA bA bD r9 hS f0 f1 f2 f3 f4 f5 f6 d0 d1 d2 d3 d4 d5 d6
          go_wp2_with fail
          go_meet
          case rel => exact ⟨_, s2, rfl, HROW.out, HSR.out, HPP.out, HBB.out, Nat.le_refl _⟩
      case rest =>
        obtain ⟨rb, s2, rfl, hrow, hsr, hpas, hbut, hrb⟩ := hcut
        have hbW := HB5.out.trans hbut
        have rZ := (hbW.block (z + 1) (by have := HZC.out; omega) (by have := HZG.out; rintro (e | e) <;> omega)).trans HRZc.out
        obtain ⟨-, -, -, -, -, y5, y6, -, -⟩ := HCE.out _ hbW
        obtain ⟨cur5, r5, z5⟩ := hpas.row5
        have f5 : wc.frozen? ⟨k.g5, x, none⟩ = false := frozen_of_row _ _ _ _ _ r5
        have c5 : wc.cell? ⟨k.g5, x, none⟩ = some (cur5[x]'(by omega)) := by rw [cell_of_row _ _ _ _ _ _ r5]; simp
        have ly : z < wc.heap.size := lt_of_cell y5
        have ly2 : z + 2 < wc.heap.size := lt_of_cell y6
        have lg5 : k.g5 < wc.heap.size := lt_of_cell c5
        have lrb : rb < wc.heap.size := lt_of_cell hrow.1
        generalize cur5[x] = u5 at c5
        have bs : But (· = k.g5) wc (wc.setCell ⟨k.g5, x, none⟩ (.bool false)) := (But.refl (· = k.g5) wc).setCell (p := ⟨k.g5, x, none⟩) (show k.g5 = k.g5 from rfl) _
        have HPd : Hid (Pas k t m ys bd us (wc.setCell ⟨k.g5, x, none⟩ (.bool false)) (fun q => A q ∧ q ≠ z + 1) (setP L2.2 (x : Int) none)) := hpas.del HX.out
        have HRow9 : Hid (Row7 (wc.setCell ⟨k.g5, x, none⟩ (.bool false)) rb 0 L2.1 s2) := hrow.but bs (by have := HL.out; omega)
        have HSr9 : Hid (SRep (wc.setCell ⟨k.g5, x, none⟩ (.bool false)) (fun q => A q ∧ q ≠ z + 1) L2.1 s2) := hsr.but bs (fun q hq => fun e => HPA.out.out q hq.1 (Or.inr e)) (fun q hq _ => hq)
        have HRz9 : Hid _ := (bs.block (z + 1) (by omega) (by have := HZG.out; omega)).trans rZ
        have HBw9 : Hid (But k.W w (wc.setCell ⟨k.g5, x, none⟩ (.bool false))) := ((But.ofBelow HBc.out).trans hbW).setCell (p := ⟨k.g5, x, none⟩) (Or.inr rfl) _
        clear r5 hrow hsr hpas hbut hrb hbW bs rZ
        go_upto_region 10 with fail
        clear f5 c5 y5 y6 ly ly2 lg5 lrb
        generalize wc.setCell ⟨k.g5, x, none⟩ (.bool false) = W9 at HPd HRow9 HSr9 HRz9 HBw9 ⊢
        obtain ⟨c0, c1, c2, c3, c4, c5, c6⟩ := HRow9.out
        simp only [Nat.zero_add] at c0 c1 c2 c3 c4 c5 c6
        have lrb : rb < W9.heap.size := lt_of_cell c0
        have rZ9 := HRz9.out
        obtain ⟨f, d0, d1, d2, d3, d4, d5, d6⟩ := zero7 rZ9
        have f0 := f 0
        have f1 := f 1
        have f2 := f 2
        have f3 := f 3
        have f4 := f 4
        have f5 := f 5
        have f6 := f 6
        have LZ : z + 1 < W9.heap.size := lt_of_cell d0
        clear f
        have bz := set7_but (S := (· = z + 1)) (But.refl _ W9) (show z + 1 = z + 1 from rfl) (.int .i64 L2.1.nd.kind) (.int .i64 L2.1.nd.num) (.string L2.1.nd.text) (.int .i64 L2.1.nd.kids) (.int .i64 L2.1.nd.place) (.slice s2.1 s2.2.1 s2.2.2) (.bool (knT L2.1))
        have HROW : Hid (Row7 (((((((W9.setCell ⟨z + 1, 0, none⟩ (.int .i64 L2.1.nd.kind)).setCell ⟨z + 1, 1, none⟩ (.int .i64 L2.1.nd.num)).setCell ⟨z + 1, 2, none⟩ (.string L2.1.nd.text)).setCell ⟨z + 1, 3, none⟩ (.int .i64 L2.1.nd.kids)).setCell ⟨z + 1, 4, none⟩ (.int .i64 L2.1.nd.place)).setCell ⟨z + 1, 5, none⟩ (.slice s2.1 s2.2.1 s2.2.2)).setCell ⟨z + 1, 6, none⟩ (.bool (knT L2.1))) (z + 1) 0 L2.1 s2) := row7_of (set7 rZ9 (.int .i64 L2.1.nd.kind) (.int .i64 L2.1.nd.num) (.string L2.1.nd.text) (.int .i64 L2.1.nd.kids) (.int .i64 L2.1.nd.place) (.slice s2.1 s2.2.1 s2.2.2) (.bool (knT L2.1)))
        have HSRF : Hid (SRep (((((((W9.setCell ⟨z + 1, 0, none⟩ (.int .i64 L2.1.nd.kind)).setCell ⟨z + 1, 1, none⟩ (.int .i64 L2.1.nd.num)).setCell ⟨z + 1, 2, none⟩ (.string L2.1.nd.text)).setCell ⟨z + 1, 3, none⟩ (.int .i64 L2.1.nd.kids)).setCell ⟨z + 1, 4, none⟩ (.int .i64 L2.1.nd.place)).setCell ⟨z + 1, 5, none⟩ (.slice s2.1 s2.2.1 s2.2.2)).setCell ⟨z + 1, 6, none⟩ (.bool (knT L2.1))) A L2.1 s2) := HSr9.out.but bz (fun q hq => hq.2) (fun q hq _ => hq.1)
        have HPF : Hid (Pas k t m ys bd us (((((((W9.setCell ⟨z + 1, 0, none⟩ (.int .i64 L2.1.nd.kind)).setCell ⟨z + 1, 1, none⟩ (.int .i64 L2.1.nd.num)).setCell ⟨z + 1, 2, none⟩ (.string L2.1.nd.text)).setCell ⟨z + 1, 3, none⟩ (.int .i64 L2.1.nd.kids)).setCell ⟨z + 1, 4, none⟩ (.int .i64 L2.1.nd.place)).setCell ⟨z + 1, 5, none⟩ (.slice s2.1 s2.2.1 s2.2.2)).setCell ⟨z + 1, 6, none⟩ (.bool (knT L2.1))) A (setP L2.2 (x : Int) none)) := HPd.out.turn bz (pas_lt HPA.out (by have := HZ.out; omega) (by have := HM.out; omega)) (fun q hq => hq.2) (fun q hq _ => hq.1) HPA.out.out
        have HBF : Hid (But k.W w (((((((W9.setCell ⟨z + 1, 0, none⟩ (.int .i64 L2.1.nd.kind)).setCell ⟨z + 1, 1, none⟩ (.int .i64 L2.1.nd.num)).setCell ⟨z + 1, 2, none⟩ (.string L2.1.nd.text)).setCell ⟨z + 1, 3, none⟩ (.int .i64 L2.1.nd.kids)).setCell ⟨z + 1, 4, none⟩ (.int .i64 L2.1.nd.place)).setCell ⟨z + 1, 5, none⟩ (.slice s2.1 s2.2.1 s2.2.2)).setCell ⟨z + 1, 6, none⟩ (.bool (knT L2.1)))) := HBw9.out.trans2 bz (by have := HZ.out; omega)
        clear rZ9 bz HRz9
        go_wp2
        refine bodyPost_ret (results_cell7 rfl _ (z + 1) rfl _ _ _ HROW.out) rfl ?_
        rw [HRB.out]
        exact ⟨s2, rfl, HSRF.out, HPF.out, HBF.out⟩
    rw [decide_eq_false hv]
    have HRC : Hid (R = (ruleT us (mkT ⟨kd, nm, tx, kk, pl⟩ (seqF (((kidsRt t i).map (treT t f)).map (lessT bd us)) P).1), (seqF (((kidsRt t i).map (treT t f)).map (lessT bd us)) P).2)) := by
      show _ = _
      rw [← HR.out, lessT_eq]
      unfold lessStep
      rw [if_neg HNV.out, if_neg hv]
    obtain ⟨i0, hi, hy0, hy1, hy2⟩ := info_parts Tryz.infoT14
    have HRXc : Hid _ := (hbc.block z (by omega)).trans HRX.out
    have HRZc : Hid _ := (hbc.block (z + 1) (by omega)).trans HRZ.out
    have HRNc : Hid _ := (hbc.block (z + 2) (by omega)).trans HRN.out
    have HGc : Hid (Ints wc W0.heap.size G q q (rts K)) := HG.out.below hbc
    have HBc : Hid (Below w.heap.size w wc) := Below.step HB1.out hbc
    have hcz : z + 3 ≤ wc.heap.size := by have := hbc.size; omega
    have lGc : G < wc.heap.size := by have := hbc.size; omega
    have HZG : Hid (k.g4 < z ∧ k.g5 < z) := by
      have := HPA.out.lt4
      have := HZ.out
      show _ ∧ _
      omega
    have HPc : Hid (Pas k t m ys bd us wc (fun q => A q ∧ q ≠ z + 1) P) := HP1.out.under hbc (fun q hq _ => hq) HP1.out.out
    have HKL : Hid (((kidsRt t i).map (treT t f)).length = q) := by show _ = _; rw [List.length_map]; exact HRL.out
    have bE := (Below.refl wc.heap.size wc).alloc (Nat.le_refl _) (.cells #[] 59)
    have HOE : Hid (Own7 (wc.alloc (.cells #[] 59)) wc.heap.size wc.heap.size 0 0 []) := ⟨rfl, owns_fresh7 wc⟩
    have HZC : Hid (z + 3 ≤ wc.heap.size) := hcz
    clear hv HNV HRX HRZ HRN HG HB1 hbc HP1 hGb hGz hz1
    go_wp2_with fail
    have hE := (Below.refl wc.heap.size wc).alloc (Nat.le_refl _) (.cells #[] 59)
    have hEs : (wc.alloc (.cells #[] 59)).heap.size = wc.heap.size + 1 := by simp
    have hOE := HOE.out
    clear HOE bE
    generalize wc.alloc (.cells #[] 59) = We at hE hEs hOE ⊢
    obtain ⟨wz, hwz⟩ : ∃ wz, wc.heap.size = wz := ⟨_, rfl⟩
    have HWZ : Hid (wc.heap.size = wz) := hwz
    rw [hwz] at hOE hEs hcz lGc ⊢
    clear hwz
    go_loopw [8, 9] (fun v8 v9 wr => ∃ (n gk c : Nat) (xs : List (Tre × Sl3)), n ≤ q ∧ v9 = .int .i64 (n : Int) ∧ v8 = .slice (some ⟨gk, 0, none⟩) n c ∧ Own7 wr wz gk c n xs ∧ xs.map Prod.fst = (seqF ((((kidsRt t i).map (treT t f)).take n).map (lessT bd us)) P).1 ∧ (∀ p ∈ xs, SRep wr (fun q => A q ∧ q ≠ z + 1 ∧ q ≠ gk) p.1 p.2) ∧ Pas k t m ys bd us wr (fun q => A q ∧ q ≠ z + 1 ∧ q ≠ gk) (seqF ((((kidsRt t i).map (treT t f)).take n).map (lessT bd us)) P).2 ∧ PGood (seqF ((((kidsRt t i).map (treT t f)).take n).map (lessT bd us)) P).2 ∧ But k.W wc wr) (fun _ v9 _ => q - (intOf v9).toNat)
    case atStart =>
      have h9 := HWZ.out
      refine ⟨0, wz, 0, [], Nat.zero_le _, rfl, rfl, hOE, rfl, by simp, HPc.out.under hE (fun q hq hlt => ⟨hq.1, hq.2, by omega⟩) (fun q hq => HPA.out.out q hq.1), HPG.out, But.ofBelow hE⟩
    case round =>
      obtain ⟨n, gk, c, xs, hnq, rfl, rfl, hown, hxs, hsr, hpas, hpg, hbut⟩ := hrel
      have hwz9 := HWZ.out
      have HOWN : Hid (Own7 wr wz gk c n xs) := hown
      have HXS : Hid _ := hxs
      have HSR : Hid _ := hsr
      have HPAS : Hid _ := hpas
      have HPGN : Hid _ := hpg
      have HBUT : Hid (But k.W wc wr) := hbut
      have hgb := hown.block
      have hcap := hown.cap
      have rX := (hbut.block z (by omega) (by have := HZG.out; rintro (e | e) <;> omega)).trans HRXc.out
      have rN := (hbut.block (z + 2) (by omega) (by have := HZG.out; rintro (e | e) <;> omega)).trans HRNc.out
      have rZ := (hbut.block (z + 1) (by omega) (by have := HZG.out; rintro (e | e) <;> omega)).trans HRZc.out
      have hsr9 := hbut.size
      clear hown hxs hsr hpas hpg hbut
      by_cases hlt : n < q
      · have hnl : n < (kidsRt t i).length := by have := HRL.out; omega
        obtain ⟨r, hr⟩ : ∃ r, (kidsRt t i)[n] = r := ⟨_, rfl⟩
        have hri : r < i := HLT.out r (by rw [← hr]; exact List.getElem_mem hnl)
        have hGr : Ints wr W0.heap.size G q q (rts K) := HGc.out.butL HBUT.out (by have := HZG.out; have := HGz.out; rintro (e | e) <;> omega)
        have gn : wr.cell? ⟨G, n, none⟩ = some (.int .i64 (r : Int)) := by
          have h9 := hGr.at n (by rw [HRK.out]; simpa using hnl)
          rw [h9]
          simp [HRK.out, hr]
        have HCC : Hid (∀ W, Below wr.heap.size wr W → Calls Tryz.prog 35 #[.agg #[.slice (some ⟨k.b0, k.o0, none⟩) m k.cap, .slice (some ⟨k.gz, 0, none⟩) m k.cz, .slice (some ⟨k.b2, 0, none⟩) 200001 k.c2, .slice (some ⟨k.b3, 0, none⟩) 200001 k.c3, .slice (some ⟨k.g4, 0, none⟩) 200001 k.c4, .slice (some ⟨k.g5, 0, none⟩) 200001 k.c5], .int .i64 (r : Int)] W fun e w' => LsRes k t m ys bd us W (fun q => A q ∧ q ≠ z + 1 ∧ q ≠ gk) (lessT bd us (treT t f r) (seqF ((((kidsRt t i).map (treT t f)).take n).map (lessT bd us)) P).2) e w') := by
          intro W hW
          have hs := hW.size
          refine HIH.out r W (fun q => A q ∧ q ≠ z + 1 ∧ q ≠ gk) _ (by omega) (by omega) (HPAS.out.under hW (fun q hq _ => hq) HPAS.out.out) HPGN.out (fun q hq => ⟨HA.out q (by have := HZ.out; omega), by omega, by omega⟩)
        have HCE : Hid (∀ W, But (fun q => k.W q ∨ q = gk) wr W → W.cell? ⟨z, 0, none⟩ = some (.slice (some ⟨k.b0, k.o0, none⟩) m k.cap) ∧ W.cell? ⟨z, 1, none⟩ = some (.slice (some ⟨k.gz, 0, none⟩) m k.cz) ∧ W.cell? ⟨z, 2, none⟩ = some (.slice (some ⟨k.b2, 0, none⟩) 200001 k.c2) ∧ W.cell? ⟨z, 3, none⟩ = some (.slice (some ⟨k.b3, 0, none⟩) 200001 k.c3) ∧ W.cell? ⟨z, 4, none⟩ = some (.slice (some ⟨k.g4, 0, none⟩) 200001 k.c4) ∧ W.cell? ⟨z, 5, none⟩ = some (.slice (some ⟨k.g5, 0, none⟩) 200001 k.c5) ∧ W.cell? ⟨G, n, none⟩ = some (.int .i64 (r : Int))) := by
          intro W hW
          have hzg := HZG.out
          have q0 := (hW.block z (by omega) (by rintro ((e | e) | e) <;> omega)).trans rX
          have hg := hW.cellL gn (by have := HGz.out; rintro ((e | e) | e) <;> omega)
          refine ⟨?_, ?_, ?_, ?_, ?_, ?_, hg⟩ <;> (rw [cell_of_row _ _ _ _ _ _ q0]; rfl)
        have hn1 : (n : Int) < (q : Int) := by omega
        have hn0 : (0 : Int) ≤ (n : Int) := by omega
        have bD := (Below.refl wr.heap.size wr).drew
        have HBD : Hid _ := bD
        have hbD := But.ofBelow (S := fun q => k.W q ∨ q = gk) bD
        have HS9 : Hid (wz ≤ gk ∧ gk < wr.heap.size ∧ wc.heap.size ≤ wr.heap.size) := ⟨hgb.1, hgb.2, hsr9⟩
        have HSQ : Hid (seqF ((((kidsRt t i).map (treT t f)).take (n + 1)).map (lessT bd us)) P = ((seqF ((((kidsRt t i).map (treT t f)).take n).map (lessT bd us)) P).1 ++ [(lessT bd us (treT t f r) (seqF ((((kidsRt t i).map (treT t f)).take n).map (lessT bd us)) P).2).1], (lessT bd us (treT t f r) (seqF ((((kidsRt t i).map (treT t f)).take n).map (lessT bd us)) P).2).2)) := by
          show _ = _
          rw [List.take_succ_eq_append_getElem (by rw [List.length_map]; exact hnl), List.map_append, List.map_singleton, seqF_push, List.getElem_map, hr]
        have HPLr : Hid (PlT (treT t f r)) := HPL.out f r (by omega) (by omega)
        obtain ⟨Pn, hPn⟩ : ∃ Pn, (seqF ((((kidsRt t i).map (treT t f)).take n).map (lessT bd us)) P).2 = Pn := ⟨_, rfl⟩
        rw [hPn] at HCC HPAS HPGN HSQ
        obtain ⟨Ln, hLn⟩ : ∃ Ln, lessT bd us (treT t f r) Pn = Ln := ⟨_, rfl⟩
        have HLN : Hid (lessT bd us (treT t f r) Pn = Ln) := hLn
        rw [hLn] at HCC HSQ
        have hn6 : n + 1 ≤ 60000 := by omega
        clear rX rN rZ gn hr hGr hPn hLn hnl hsr9 hgb bD
        go_upto_region 15 with fail
        refine wp_region_held_drew (S := fun w' => w'.cell? ⟨z, 0, none⟩ = some (.slice (some ⟨k.b0, k.o0, none⟩) m k.cap) ∧ w'.cell? ⟨z, 1, none⟩ = some (.slice (some ⟨k.gz, 0, none⟩) m k.cz) ∧ w'.cell? ⟨z, 2, none⟩ = some (.slice (some ⟨k.b2, 0, none⟩) 200001 k.c2) ∧ w'.cell? ⟨z, 3, none⟩ = some (.slice (some ⟨k.b3, 0, none⟩) 200001 k.c3) ∧ w'.cell? ⟨z, 4, none⟩ = some (.slice (some ⟨k.g4, 0, none⟩) 200001 k.c4) ∧ w'.cell? ⟨z, 5, none⟩ = some (.slice (some ⟨k.g5, 0, none⟩) 200001 k.c5) ∧ w'.cell? ⟨G, n, none⟩ = some (.int .i64 (r : Int))) (by kernel_rfl) (HCE.out _ hbD) (fun hS => ?_)
        refine take_in 0 96 (v := ?_) (oi := _) (ixA rfl) (by rfl) (by kernel_rfl) (by kernel_rfl) (by kernel_rfl) (by exact fun _ _ _ h => h) (Or.inl ⟨by rfl, ?_⟩) hS ?_
        rotate_left
        · intro w' hSw; (try dsimp only at hSw); (go_simp <;> with_reducible rfl)
        simp only [List.setIfInBounds_toArray, List.set_cons_zero, List.set_cons_succ]
        refine take_in 1 97 (v := ?_) (oi := _) (ixA rfl) (by rfl) (by kernel_rfl) (by kernel_rfl) (by kernel_rfl) (by exact fun _ _ _ h => h) (Or.inl ⟨by rfl, ?_⟩) hS ?_
        rotate_left
        · intro w' hSw; (try dsimp only at hSw); (go_simp <;> with_reducible rfl)
        simp only [List.setIfInBounds_toArray, List.set_cons_zero, List.set_cons_succ]
        refine take_in 2 98 (v := ?_) (oi := _) (ixA rfl) (by rfl) (by kernel_rfl) (by kernel_rfl) (by kernel_rfl) (by exact fun _ _ _ h => h) (Or.inl ⟨by rfl, ?_⟩) hS ?_
        rotate_left
        · intro w' hSw; (try dsimp only at hSw); (go_simp <;> with_reducible rfl)
        simp only [List.setIfInBounds_toArray, List.set_cons_zero, List.set_cons_succ]
        refine take_in 3 99 (v := ?_) (oi := _) (ixA rfl) (by rfl) (by kernel_rfl) (by kernel_rfl) (by kernel_rfl) (by exact fun _ _ _ h => h) (Or.inl ⟨by rfl, ?_⟩) hS ?_
        rotate_left
        · intro w' hSw; (try dsimp only at hSw); (go_simp <;> with_reducible rfl)
        simp only [List.setIfInBounds_toArray, List.set_cons_zero, List.set_cons_succ]
        refine take_in 4 100 (v := ?_) (oi := _) (ixA rfl) (by rfl) (by kernel_rfl) (by kernel_rfl) (by kernel_rfl) (by exact fun _ _ _ h => h) (Or.inl ⟨by rfl, ?_⟩) hS ?_
        rotate_left
        · intro w' hSw; (try dsimp only at hSw); (go_simp <;> with_reducible rfl)
        simp only [List.setIfInBounds_toArray, List.set_cons_zero, List.set_cons_succ]
        refine take_in 5 101 (v := ?_) (oi := _) (ixA rfl) (by rfl) (by kernel_rfl) (by kernel_rfl) (by kernel_rfl) (by exact fun _ _ _ h => h) (Or.inl ⟨by rfl, ?_⟩) hS ?_
        rotate_left
        · intro w' hSw; (try dsimp only at hSw); (go_simp <;> with_reducible rfl)
        simp only [List.setIfInBounds_toArray, List.set_cons_zero, List.set_cons_succ]
        have lG9 : G < wr.drew.heap.size := lt_of_cell hS.2.2.2.2.2.2
        refine wpAnyH_ready (rs := [6]) (by kernel_rfl) (by simp) ?_
        refine AllReadyH.cons (o := _) (ixA rfl) (fun K' hK' => ?_) AllReadyH.nil
        rw [if_pos (by rfl)]
        go_simp
        refine (HCC.out _ HBD.out).mono ?_
        rintro e w5 ⟨s5, rfl, hs5, hp5, hb5⟩
        have hb6 : But (fun q => k.W q ∨ q = gk) wr w5 := hbD.trans (hb5.mono (fun _ h => .inl h))
        refine hK'.out _ _ (HCE.out _ hb6) (fun hS => ?_)
        clear hK' K'
        try simp only [Act.put, List.setIfInBounds_toArray, List.set_cons_zero, List.set_cons_succ]
        have HS5 : Hid _ := hs5
        have HP5 : Hid _ := hp5
        have hBU : But k.W wr w5 := (But.ofBelow HBD.out).trans hb5
        have hz5 := hBU.size
        clear hs5 hp5
        refine wpAnyH_ready (rs := [7]) (by kernel_rfl) (by simp) ?_
        refine AllReadyH.cons (o := _) (ixA rfl) (fun K' hK' => ?_) AllReadyH.nil
        rw [if_pos (by rfl)]
        simp only [sv] at hK' ⊢
        go_simp
        have bA := (Below.refl w5.heap.size w5).alloc (Nat.le_refl _) (.cells #[.int .i64 Ln.1.nd.kind, .int .i64 Ln.1.nd.num, .string Ln.1.nd.text, .int .i64 Ln.1.nd.kids, .int .i64 Ln.1.nd.place, .slice s5.1 s5.2.1 s5.2.2, .bool (knT Ln.1)] 59)
        have rA := heap_alloc_new w5 (.cells #[.int .i64 Ln.1.nd.kind, .int .i64 Ln.1.nd.num, .string Ln.1.nd.text, .int .i64 Ln.1.nd.kids, .int .i64 Ln.1.nd.place, .slice s5.1 s5.2.1 s5.2.2, .bool (knT Ln.1)] 59)
        have hsA : (w5.alloc (.cells #[.int .i64 Ln.1.nd.kind, .int .i64 Ln.1.nd.num, .string Ln.1.nd.text, .int .i64 Ln.1.nd.kids, .int .i64 Ln.1.nd.place, .slice s5.1 s5.2.1 s5.2.2, .bool (knT Ln.1)] 59)).heap.size = w5.heap.size + 1 := by simp
        refine hK'.out _ _ (HCE.out _ (hb6.trans (But.ofBelow bA))) (fun hS => ?_)
        clear hK' K'
        try simp only [Act.put, List.setIfInBounds_toArray, List.set_cons_zero, List.set_cons_succ]
        generalize w5.alloc (.cells #[.int .i64 Ln.1.nd.kind, .int .i64 Ln.1.nd.num, .string Ln.1.nd.text, .int .i64 Ln.1.nd.kids, .int .i64 Ln.1.nd.place, .slice s5.1 s5.2.1 s5.2.2, .bool (knT Ln.1)] 59) = W6 at bA rA hsA hS ⊢
        have hOw6 : Own7 W6 wz gk c n xs := HOWN.out.but (S := k.W) (hBU.trans (But.ofBelow bA)) (by have := HZG.out; have := HS9.out; rintro (e | e) <;> omega)
        refine wpAnyH_ready (rs := [8]) (by kernel_rfl) (by simp) ?_
        refine AllReadyH.cons (o := _) (ixA rfl) (fun K' hK' => ?_) AllReadyH.nil
        refine step_append2 _ rfl (.tmp 96) (.tmp 103) 53 rfl wz 59 i0 _ 7 80 Tryz.underlying53 hi hy0 hy1 hy2 rfl (by decide) gk n c _ rfl hOw6.2 ⟨w5.heap.size, 0, none⟩ 1 1 (sv Ln.1 s5) rfl rfl (sv_cells (row7_of rA)) (sv_one _ _) ?_ ?_ ?_ ?_
        · unfold maxLen; omega
        · omega
        · have := HS9.out; omega
        intro g7 c7 w7 hown7 hgrow7 hwh7
        have hb7 := grown_butL hgrow7
        have hb67 : But (fun q => k.W q ∨ q = gk) wr w7 := (hb6.trans (But.ofBelow bA)).trans (hb7.mono (fun _ h => .inr h))
        refine hK'.out _ _ (HCE.out _ hb67) (fun hS => ?_)
        clear hK' K'
        try simp only [Act.put, List.setIfInBounds_toArray, List.set_cons_zero, List.set_cons_succ]
        refine take_in 9 8 (v := ?_) (oi := _) (ixA rfl) (by rfl) (by kernel_rfl) (by kernel_rfl) (by kernel_rfl) (by exact fun _ _ _ h => h) (Or.inl ⟨by rfl, ?_⟩) hS ?_
        rotate_left
        · intro w' hSw; (try dsimp only at hSw); (go_simp <;> with_reducible rfl)
        simp only [List.setIfInBounds_toArray, List.set_cons_zero, List.set_cons_succ]
        refine wpAnyH_done (by kernel_rfl) ?_ _
        have HB67 : Hid (But k.W wc w7) := (HBUT.out.trans (hBU.trans (But.ofBelow bA))).trans2 hb7 (by have := HS9.out; have := HWZ.out; omega)
        have hsub : ∀ q, q < W6.heap.size → (fun q => A q ∧ q ≠ z + 1 ∧ q ≠ gk) q → (fun q => A q ∧ q ≠ z + 1 ∧ q ≠ g7) q := by
          rintro q hq ⟨h1, h2, h3⟩
          refine ⟨h1, h2, ?_⟩
          rcases hwh7 with e | e <;> omega
        have HSR7 : Hid (∀ p ∈ xs ++ [(Ln.1, s5)], SRep w7 (fun q => A q ∧ q ≠ z + 1 ∧ q ≠ g7) p.1 p.2) := by
          intro p hp
          rcases List.mem_append.1 hp with hp | hp
          · have h1 := (HSR.out p hp).but (A' := (fun q => A q ∧ q ≠ z + 1 ∧ q ≠ gk)) hBU (fun q hq => HPA.out.out q hq.1) (fun q hq _ => hq)
            exact (h1.under bA).but (S := (· = gk)) hb7 (fun q hq => hq.2.2) (fun q hq hl => hsub q hl hq)
          · simp only [List.mem_singleton] at hp
            subst hp
            exact (HS5.out.under bA).but (S := (· = gk)) hb7 (fun q hq => hq.2.2) (fun q hq hl => hsub q hl hq)
        have HP7 : Hid (Pas k t m ys bd us w7 (fun q => A q ∧ q ≠ z + 1 ∧ q ≠ g7) Ln.2) := by
          have h1 := HP5.out.under bA (fun q hq _ => hq) HP5.out.out
          have hgk := HS9.out
          have hwz8 := HWZ.out
          have hk := h1.lt4
          refine h1.turn (S := (· = gk)) hb7 ?_ (fun q hq => hq.2.2) (fun q hq hl => hsub q hl hq) (fun q hq => HPA.out.out q hq.1)
          have hPw := HPc.out
          have hbw := HBc.out.size
          have hw9 := HPA.out
          have hzw := HZ.out
          exact pas_lt HPA.out (by have := HZC.out; omega) (by have := HM.out; omega)
        have HOW7 : Hid (Own7 w7 wz g7 c7 (n + 1) (xs ++ [(Ln.1, s5)])) := ⟨by simp [HOWN.out.1], by rw [rows7_push]; exact hown7⟩
        have HX7 : Hid ((xs ++ [(Ln.1, s5)]).map Prod.fst = (seqF ((((kidsRt t i).map (treT t f)).take (n + 1)).map (lessT bd us)) P).1) := by
          show _ = _
          rw [HSQ.out, List.map_append, HXS.out]
          rfl
        have HG7 : Hid (PGood Ln.2) := by
          show PGood _
          rw [← HLN.out]
          exact (less_kept bd us _ _ HPLr.out HPGN.out).2
        clear hsub hown7 hgrow7 hwh7 hb7 hb67 hb6 hb5 hBU hz5 bA rA hsA hOw6 hS hbD lG9 HCE HCC
        go_wp2
        go_roundw
        case rel => exact ⟨n + 1, g7, c7, xs ++ [(Ln.1, s5)], by omega, by go_num, rfl, HOW7.out, HX7.out, HSR7.out, by rw [HSQ.out]; exact HP7.out, by rw [HSQ.out]; exact HG7.out, HB67.out⟩
        case measure => simp [intOf]; omega
      obtain rfl : n = q := by omega
      have hfull : ((kidsRt t i).map (treT t f)).take n = (kidsRt t i).map (treT t f) := List.take_of_length_le (by have := HKL.out; omega)
      rw [hfull] at HXS HPAS HPGN
      rw [← HXS.out] at HRC
      obtain ⟨Pq, hPq⟩ : ∃ Pq, (seqF (((kidsRt t i).map (treT t f)).map (lessT bd us)) P).2 = Pq := ⟨_, rfl⟩
      rw [hPq] at HRC HPAS HPGN
      obtain ⟨s1, s2, s3, -, -⟩ := seq_kept (lessT bd us) ((kidsRt t i).map (treT t f)) P (fun k' hk' P' hP' => less_kept bd us k' P' (HPT.out.kid k' hk') hP') HPG.out
      rw [← HXS.out] at s1 s2 s3
      have HPM : Hid (PlT (.mk ⟨kd, nm, tx, kk, pl⟩ (xs.map Prod.fst))) := HPT.out.anew s1 s2 s3
      have hmk : mkT ⟨kd, nm, tx, kk, pl⟩ (xs.map Prod.fst) = .mk ⟨kd, nm, tx, kk, pl⟩ (xs.map Prod.fst) := mkT_same HPT.out.node.kids s1
      rw [hmk] at HRC
      obtain ⟨V, hV⟩ : ∃ V, ruleT us (.mk ⟨kd, nm, tx, kk, pl⟩ (xs.map Prod.fst)) = V := ⟨_, rfl⟩
      rw [hV] at HRC
      obtain ⟨kb, hkb⟩ : ∃ kb, knT (.mk ⟨kd, nm, tx, kk, pl⟩ (xs.map Prod.fst)) = kb := ⟨_, rfl⟩
      have hzr := HZC.out
      have hzg := HZG.out
      have hzw := HZ.out
      have hA3 : (fun q => A q ∧ q ≠ z + 1) gk := ⟨HA.out gk (by omega), by omega⟩
      have HSK := HOWN.out.skids (A := (fun q => A q ∧ q ≠ z + 1)) (by omega) hA3 (fun p hp => (HSR.out p hp).wide (fun q hq _ => ⟨hq.1, hq.2.1⟩))
      have HSM : Hid (SRep wr (fun q => A q ∧ q ≠ z + 1) (.mk ⟨kd, nm, tx, kk, pl⟩ (xs.map Prod.fst)) (some ⟨gk, 0, none⟩, n, c)) := HSK.rep _
      have HCM : Hid (∀ W, Below wr.heap.size wr W → Calls Tryz.prog 55 #[.agg #[.int .i64 kd, .int .i64 nm, .string tx, .int .i64 kk, .int .i64 pl], .slice (some ⟨gk, 0, none⟩) n c] W fun e w' => e = .returned (.agg #[.int .i64 kd, .int .i64 nm, .string tx, .int .i64 kk, .int .i64 pl, .slice (some ⟨gk, 0, none⟩) n c, .bool kb]) ∧ Below W.heap.size W w') := by
        intro W hW
        have h9 := make_any ⟨kd, nm, tx, kk, pl⟩ (xs.map Prod.fst) (some ⟨gk, 0, none⟩, n, c) (fun q => A q ∧ q ≠ z + 1) W (SRep.skids (HSM.out.under hW)) (fun h77 => by obtain ⟨a, b, e, -, -⟩ := HPM.out.node.code2 (.inl h77); exact ⟨a, b, e⟩)
        rw [hmk] at h9
        rw [← hkb]
        exact h9
      have HCR : Hid (∀ W, Below wr.heap.size wr W → Calls Tryz.prog 54 #[.agg #[.slice (some ⟨k.b0, k.o0, none⟩) m k.cap, .slice (some ⟨k.gz, 0, none⟩) m k.cz, .slice (some ⟨k.b2, 0, none⟩) 200001 k.c2, .slice (some ⟨k.b3, 0, none⟩) 200001 k.c3, .slice (some ⟨k.g4, 0, none⟩) 200001 k.c4, .slice (some ⟨k.g5, 0, none⟩) 200001 k.c5], .agg #[.int .i64 kd, .int .i64 nm, .string tx, .int .i64 kk, .int .i64 pl, .slice (some ⟨gk, 0, none⟩) n c, .bool kb]] W fun e w' => RuleRes W (fun q => A q ∧ q ≠ z + 1) V e w') := by
        intro W hW
        have hs := hW.size
        rw [← hV, ← hkb]
        exact rule_any us (some ⟨k.b0, k.o0, none⟩, m, k.cap) (some ⟨k.gz, 0, none⟩, m, k.cz) (some ⟨k.b2, 0, none⟩, 200001, k.c2) (some ⟨k.b3, 0, none⟩, 200001, k.c3) (some ⟨k.g4, 0, none⟩, 200001, k.c4) (some ⟨k.g5, 0, none⟩, 200001, k.c5) ⟨kd, nm, tx, kk, pl⟩ (xs.map Prod.fst) (some ⟨gk, 0, none⟩, n, c) (fun q => A q ∧ q ≠ z + 1) W (fun q hq => ⟨HA.out q (by omega), by omega⟩) (HSM.out.under hW) HPM.out (HPAS.out.cu.under hW)
      have HCE : Hid (∀ W, But (· = z + 1) wr W → W.cell? ⟨z, 0, none⟩ = some (.slice (some ⟨k.b0, k.o0, none⟩) m k.cap) ∧ W.cell? ⟨z, 1, none⟩ = some (.slice (some ⟨k.gz, 0, none⟩) m k.cz) ∧ W.cell? ⟨z, 2, none⟩ = some (.slice (some ⟨k.b2, 0, none⟩) 200001 k.c2) ∧ W.cell? ⟨z, 3, none⟩ = some (.slice (some ⟨k.b3, 0, none⟩) 200001 k.c3) ∧ W.cell? ⟨z, 4, none⟩ = some (.slice (some ⟨k.g4, 0, none⟩) 200001 k.c4) ∧ W.cell? ⟨z, 5, none⟩ = some (.slice (some ⟨k.g5, 0, none⟩) 200001 k.c5) ∧ W.cell? ⟨z + 2, 0, none⟩ = some (.int .i64 kd) ∧ W.cell? ⟨z + 2, 1, none⟩ = some (.int .i64 nm) ∧ W.cell? ⟨z + 2, 2, none⟩ = some (.string tx) ∧ W.cell? ⟨z + 2, 3, none⟩ = some (.int .i64 kk) ∧ W.cell? ⟨z + 2, 4, none⟩ = some (.int .i64 pl)) := by
        intro W hW
        have q0 := (hW.block z (by omega) (by omega)).trans rX
        have q2 := (hW.block (z + 2) (by omega) (by omega)).trans rN
        refine ⟨?_, ?_, ?_, ?_, ?_, ?_, ?_, ?_, ?_, ?_, ?_⟩
        all_goals first | (rw [cell_of_row _ _ _ _ _ _ q0]; rfl) | (rw [cell_of_row _ _ _ _ _ _ q2]; rfl)
      have HRZr : Hid _ := rZ
      have HBW : Hid (But k.W w wr) := (But.ofBelow HBc.out).trans HBUT.out
      have HSZr : Hid (z + 3 ≤ wr.heap.size) := by show _ ≤ _; omega
      have bD := (Below.refl wr.heap.size wr).drew
      have hbD := But.ofBelow (S := (· = z + 1)) bD
      clear s1 s2 s3 hmk hV hkb hPq hfull HSK hA3 rX rN rZ hzr hzg hzw hgb hsr9
      go_upto_region 16 with fail
      refine wp_region_held_drew (S := fun w' => w'.cell? ⟨z, 0, none⟩ = some (.slice (some ⟨k.b0, k.o0, none⟩) m k.cap) ∧ w'.cell? ⟨z, 1, none⟩ = some (.slice (some ⟨k.gz, 0, none⟩) m k.cz) ∧ w'.cell? ⟨z, 2, none⟩ = some (.slice (some ⟨k.b2, 0, none⟩) 200001 k.c2) ∧ w'.cell? ⟨z, 3, none⟩ = some (.slice (some ⟨k.b3, 0, none⟩) 200001 k.c3) ∧ w'.cell? ⟨z, 4, none⟩ = some (.slice (some ⟨k.g4, 0, none⟩) 200001 k.c4) ∧ w'.cell? ⟨z, 5, none⟩ = some (.slice (some ⟨k.g5, 0, none⟩) 200001 k.c5) ∧ w'.cell? ⟨z + 2, 0, none⟩ = some (.int .i64 kd) ∧ w'.cell? ⟨z + 2, 1, none⟩ = some (.int .i64 nm) ∧ w'.cell? ⟨z + 2, 2, none⟩ = some (.string tx) ∧ w'.cell? ⟨z + 2, 3, none⟩ = some (.int .i64 kk) ∧ w'.cell? ⟨z + 2, 4, none⟩ = some (.int .i64 pl)) (by kernel_rfl) (HCE.out _ hbD) (fun hS => ?_)
      refine take_in 0 105 (v := ?_) (oi := _) (ixA rfl) (by rfl) (by kernel_rfl) (by kernel_rfl) (by kernel_rfl) (by exact fun _ _ _ h => h) (Or.inl ⟨by rfl, ?_⟩) hS ?_
      rotate_left
      · intro w' hSw; (try dsimp only at hSw); (go_simp <;> with_reducible rfl)
      simp only [List.setIfInBounds_toArray, List.set_cons_zero, List.set_cons_succ]
      refine take_in 1 106 (v := ?_) (oi := _) (ixA rfl) (by rfl) (by kernel_rfl) (by kernel_rfl) (by kernel_rfl) (by exact fun _ _ _ h => h) (Or.inl ⟨by rfl, ?_⟩) hS ?_
      rotate_left
      · intro w' hSw; (try dsimp only at hSw); (go_simp <;> with_reducible rfl)
      simp only [List.setIfInBounds_toArray, List.set_cons_zero, List.set_cons_succ]
      refine take_in 2 107 (v := ?_) (oi := _) (ixA rfl) (by rfl) (by kernel_rfl) (by kernel_rfl) (by kernel_rfl) (by exact fun _ _ _ h => h) (Or.inl ⟨by rfl, ?_⟩) hS ?_
      rotate_left
      · intro w' hSw; (try dsimp only at hSw); (go_simp <;> with_reducible rfl)
      simp only [List.setIfInBounds_toArray, List.set_cons_zero, List.set_cons_succ]
      refine wpAnyH_ready (rs := [3]) (by kernel_rfl) (by simp) ?_
      refine AllReadyH.cons (o := _) (ixA rfl) (fun K' hK' => ?_) AllReadyH.nil
      rw [if_pos (by rfl)]
      go_simp
      refine (HCM.out _ bD).mono ?_
      rintro e w5 ⟨rfl, hb5⟩
      have b5 := Below.step bD hb5
      refine hK'.out _ _ (HCE.out _ (But.ofBelow b5)) (fun hS => ?_)
      clear hK' K'
      try simp only [Act.put, List.setIfInBounds_toArray, List.set_cons_zero, List.set_cons_succ]
      refine wpAnyH_ready (rs := [4]) (by kernel_rfl) (by simp) ?_
      refine AllReadyH.cons (o := _) (ixA rfl) (fun K' hK' => ?_) AllReadyH.nil
      rw [if_pos (by rfl)]
      go_simp
      refine (HCR.out _ b5).mono ?_
      rintro e w6 ⟨s6, rfl, hs6, hb6⟩
      have b6 := Below.step b5 hb6
      refine hK'.out _ _ (HCE.out _ (But.ofBelow b6)) (fun hS => ?_)
      clear hK' K'
      try simp only [Act.put, List.setIfInBounds_toArray, List.set_cons_zero, List.set_cons_succ]
      have rZ6 := (b6.block (z + 1) (by have := HSZr.out; omega)).trans HRZr.out
      obtain ⟨f, d0, d1, d2, d3, d4, d5, d6⟩ := zero7 rZ6
      have f0 := f 0
      have f1 := f 1
      have f2 := f 2
      have f3 := f 3
      have f4 := f 4
      have f5 := f 5
      have f6 := f 6
      have LZ : z + 1 < w6.heap.size := lt_of_cell d0
      clear f
      refine wpAnyH_ready (rs := [5]) (by kernel_rfl) (by simp) ?_
      refine AllReadyH.cons (o := _) (ixA rfl) (fun K' hK' => ?_) AllReadyH.nil
      rw [if_pos (by rfl)]
      simp only [sv] at hK' ⊢
      go_simp
      refine hK'.out _ _ (HCE.out _ (set7_but (S := (· = z + 1)) (But.ofBelow b6) (show z + 1 = z + 1 from rfl) _ _ _ _ _ _ _)) (fun hS => ?_)
      clear hK' K' hS
      try simp only [Act.put, List.setIfInBounds_toArray, List.set_cons_zero, List.set_cons_succ]
      refine wpAnyH_done (by kernel_rfl) ?_ _
      have bz := set7_but (S := (· = z + 1)) (But.refl _ w6) (show z + 1 = z + 1 from rfl) (.int .i64 V.nd.kind) (.int .i64 V.nd.num) (.string V.nd.text) (.int .i64 V.nd.kids) (.int .i64 V.nd.place) (.slice s6.1 s6.2.1 s6.2.2) (.bool (knT V))
      have HROW : Hid (Row7 (((((((w6.setCell ⟨z + 1, 0, none⟩ (.int .i64 V.nd.kind)).setCell ⟨z + 1, 1, none⟩ (.int .i64 V.nd.num)).setCell ⟨z + 1, 2, none⟩ (.string V.nd.text)).setCell ⟨z + 1, 3, none⟩ (.int .i64 V.nd.kids)).setCell ⟨z + 1, 4, none⟩ (.int .i64 V.nd.place)).setCell ⟨z + 1, 5, none⟩ (.slice s6.1 s6.2.1 s6.2.2)).setCell ⟨z + 1, 6, none⟩ (.bool (knT V))) (z + 1) 0 V s6) := row7_of (set7 rZ6 (.int .i64 V.nd.kind) (.int .i64 V.nd.num) (.string V.nd.text) (.int .i64 V.nd.kids) (.int .i64 V.nd.place) (.slice s6.1 s6.2.1 s6.2.2) (.bool (knT V)))
      have HSRF : Hid (SRep (((((((w6.setCell ⟨z + 1, 0, none⟩ (.int .i64 V.nd.kind)).setCell ⟨z + 1, 1, none⟩ (.int .i64 V.nd.num)).setCell ⟨z + 1, 2, none⟩ (.string V.nd.text)).setCell ⟨z + 1, 3, none⟩ (.int .i64 V.nd.kids)).setCell ⟨z + 1, 4, none⟩ (.int .i64 V.nd.place)).setCell ⟨z + 1, 5, none⟩ (.slice s6.1 s6.2.1 s6.2.2)).setCell ⟨z + 1, 6, none⟩ (.bool (knT V))) A V s6) := hs6.but bz (fun q hq => hq.2) (fun q hq _ => hq.1)
      have HPF : Hid (Pas k t m ys bd us (((((((w6.setCell ⟨z + 1, 0, none⟩ (.int .i64 V.nd.kind)).setCell ⟨z + 1, 1, none⟩ (.int .i64 V.nd.num)).setCell ⟨z + 1, 2, none⟩ (.string V.nd.text)).setCell ⟨z + 1, 3, none⟩ (.int .i64 V.nd.kids)).setCell ⟨z + 1, 4, none⟩ (.int .i64 V.nd.place)).setCell ⟨z + 1, 5, none⟩ (.slice s6.1 s6.2.1 s6.2.2)).setCell ⟨z + 1, 6, none⟩ (.bool (knT V))) A Pq) := by
        have h1 := HPAS.out.under (A' := (fun q => A q ∧ q ≠ z + 1)) b6 (fun q hq _ => ⟨hq.1, hq.2.1⟩) (fun q hq => HPA.out.out q hq.1)
        exact h1.turn bz (pas_lt HPA.out (by have := HZ.out; omega) (by have := HM.out; omega)) (fun q hq => hq.2) (fun q hq _ => hq.1) HPA.out.out
      have HBF : Hid (But k.W w (((((((w6.setCell ⟨z + 1, 0, none⟩ (.int .i64 V.nd.kind)).setCell ⟨z + 1, 1, none⟩ (.int .i64 V.nd.num)).setCell ⟨z + 1, 2, none⟩ (.string V.nd.text)).setCell ⟨z + 1, 3, none⟩ (.int .i64 V.nd.kids)).setCell ⟨z + 1, 4, none⟩ (.int .i64 V.nd.place)).setCell ⟨z + 1, 5, none⟩ (.slice s6.1 s6.2.1 s6.2.2)).setCell ⟨z + 1, 6, none⟩ (.bool (knT V)))) := (HBW.out.trans (But.ofBelow b6)).trans2 bz (by have := HZ.out; omega)
      clear rZ6 d0 d1 d2 d3 d4 d5 d6 f0 f1 f2 f3 f4 f5 f6 bz hs6 hb6 hb5 b5 b6 bD hbD HCE HCM HCR
      generalize (((((((w6.setCell ⟨z + 1, 0, none⟩ (.int .i64 V.nd.kind)).setCell ⟨z + 1, 1, none⟩ (.int .i64 V.nd.num)).setCell ⟨z + 1, 2, none⟩ (.string V.nd.text)).setCell ⟨z + 1, 3, none⟩ (.int .i64 V.nd.kids)).setCell ⟨z + 1, 4, none⟩ (.int .i64 V.nd.place)).setCell ⟨z + 1, 5, none⟩ (.slice s6.1 s6.2.1 s6.2.2)).setCell ⟨z + 1, 6, none⟩ (.bool (knT V))) = WF at HROW HSRF HPF HBF ⊢
      go_wp2
      refine bodyPost_ret (results_cell7 rfl _ (z + 1) rfl _ _ _ HROW.out) rfl ?_
      rw [HRC.out]
      exact ⟨s6, rfl, HSRF.out, HPF.out, HBF.out⟩
end Go.Proofs.YtedlofpgddjpgaaGreat
