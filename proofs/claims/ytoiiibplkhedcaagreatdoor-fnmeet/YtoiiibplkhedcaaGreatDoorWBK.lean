import Derived.Test.YtoiiibplkhedcaaGreatDoorWBJ
set_option maxRecDepth 100000
set_option maxHeartbeats 4000000
namespace Go.Proofs.YtoiiibplkhedcaaGreatDoor
open Go.RowKit
def OutOk (zs Di zs' : List Nd) : Prop := ((zs ++ Di).length ≤ 300 → zs' = zs ++ Di) ∧ (300 < (zs ++ Di).length → 300 < zs'.length) ∧ zs'.length ≤ 301
theorem OutOk.small {zs Di zs' : List Nd} (h : OutOk zs Di zs') (hl : zs'.length ≤ 300) : zs' = zs ++ Di := by
  by_cases h9 : (zs ++ Di).length ≤ 300
  · exact h.1 h9
  · have := h.2.1 (by omega)
    omega
theorem OutOk.large {zs Di zs' : List Nd} (h : OutOk zs Di zs') (hl : 300 < zs'.length) : 300 < (zs ++ Di).length := by
  by_cases h9 : (zs ++ Di).length ≤ 300
  · rw [h.1 h9] at hl
    omega
  · omega
theorem Qxj {D : Nat → List Nd} {kk : List Nat} {j : Nat} (hj : j < kk.length) : (kk.take (j + 1)).flatMap D = (kk.take j).flatMap D ++ D kk[j] := by
  rw [List.take_succ_eq_append_getElem hj, List.flatMap_append]
  simp
theorem Jcj {D : Nat → List Nd} (kk : List Nat) (j : Nat) : ((kk.take j).flatMap D).length ≤ (kk.flatMap D).length := by
  have h9 : kk.flatMap D = (kk.take j).flatMap D ++ (kk.drop j).flatMap D := by rw [← List.flatMap_append, List.take_append_drop]
  rw [h9, List.length_append]
  omega
theorem Sto.off {S : Nat → Prop} {w w' : World} {B g c : Nat} {st : List SK} {ka : Nat → Option Addr × Nat} {lk : Nat → Option Nat} {mk : Nat → Int} (h : Sto w B g c st ka lk mk) (hb : But S w w') (hg : ∀ q, S q → g ≠ q) (hk : ∀ q, S q → KOff st ka q) : Sto w' B g c st ka lk mk := by
  have h1 := h.toV.but hb (fun q hq e => by simp only [Value.ownBlock, Option.some.injEq] at e; exact hg q hq e) hk
  refine ⟨h1.own, fun i k hk => ?_⟩
  obtain ⟨b, o, e1, e2, e3⟩ := h1.kids i k hk
  exact ⟨b, o, e1, fun e => e2 (by rw [e]; rfl), e3⟩
theorem Qyb {w a b : World} {x y : Nat} (h : But (fun i => i = x) w a) (h2 : But (fun i => i = y) a b) (hy : y = x ∨ w.heap.size ≤ y) : But (fun i => i = x) w b := by
  refine ⟨h2.os.trans h.os, h2.tape.trans h.tape, h2.output.trans h.output, Nat.le_trans h.size h2.size, fun i hi hne => ?_⟩
  have := h.size
  exact (h2.block i (by omega) (by omega)).trans (h.block i hi hne)
theorem sbox {w : World} {y : Nat} {a b c d e f : Value} (h : w.heap[y]? = some (.cells #[a, b, c, d, e, f] 132 (0, 0))) : w.cell? ⟨y, 0, none⟩ = some a ∧ w.cell? ⟨y, 1, none⟩ = some b ∧ w.cell? ⟨y, 2, none⟩ = some c ∧ w.cell? ⟨y, 3, none⟩ = some d := by
  refine ⟨?_, ?_, ?_, ?_⟩ <;> (rw [cell_of_row _ _ _ _ _ _ h]; rfl)
theorem Qyr {w : World} {y : Nat} {a b c d e f : Value} (h : w.heap[y]? = some (.cells #[a, b, c, d, e, f] 132 (0, 0))) : w.cell? ⟨y, 0, none⟩ = some a ∧ w.cell? ⟨y, 1, none⟩ = some b ∧ w.cell? ⟨y, 2, none⟩ = some c ∧ w.cell? ⟨y, 3, none⟩ = some d ∧ w.cell? ⟨y, 4, none⟩ = some e ∧ w.cell? ⟨y, 5, none⟩ = some f ∧ w.frozen? ⟨y, 0, none⟩ = false ∧ w.frozen? ⟨y, 1, none⟩ = false ∧ w.frozen? ⟨y, 2, none⟩ = false ∧ w.frozen? ⟨y, 3, none⟩ = false ∧ w.frozen? ⟨y, 4, none⟩ = false ∧ w.frozen? ⟨y, 5, none⟩ = false := by
  refine ⟨?_, ?_, ?_, ?_, ?_, ?_, frozen_of_row w y 0 _ 132 h, frozen_of_row w y 1 _ 132 h, frozen_of_row w y 2 _ 132 h, frozen_of_row w y 3 _ 132 h, frozen_of_row w y 4 _ 132 h, frozen_of_row w y 5 _ 132 h⟩ <;> (rw [cell_of_row _ _ _ _ _ _ h]; rfl)
theorem box6 {w : World} {y : Nat} {a b c d e f a' b' c' d' e' f' : Value} (h : w.heap[y]? = some (.cells #[a, b, c, d, e, f] 132 (0, 0))) : ((((((w.setCell ⟨y, 0, none⟩ a').setCell ⟨y, 1, none⟩ b').setCell ⟨y, 2, none⟩ c').setCell ⟨y, 3, none⟩ d').setCell ⟨y, 4, none⟩ e').setCell ⟨y, 5, none⟩ f').heap[y]? = some (.cells #[a', b', c', d', e', f'] 132 (0, 0)) := by
  have h1 := heap_setCell_same w y 0 _ 132 a' h
  have h2 := heap_setCell_same _ y 1 _ 132 b' h1
  have h3 := heap_setCell_same _ y 2 _ 132 c' h2
  have h4 := heap_setCell_same _ y 3 _ 132 d' h3
  have h5 := heap_setCell_same _ y 4 _ 132 e' h4
  have h6 := heap_setCell_same _ y 5 _ 132 f' h5
  exact h6
theorem but6 (w : World) (y : Nat) (a' b' c' d' e' f' : Value) : But (fun i => i = y) w ((((((w.setCell ⟨y, 0, none⟩ a').setCell ⟨y, 1, none⟩ b').setCell ⟨y, 2, none⟩ c').setCell ⟨y, 3, none⟩ d').setCell ⟨y, 4, none⟩ e').setCell ⟨y, 5, none⟩ f') :=
  ((((((But.refl (fun i => i = y) w).setCell (p := ⟨y, 0, none⟩) rfl _).setCell (p := ⟨y, 1, none⟩) rfl _).setCell (p := ⟨y, 2, none⟩) rfl _).setCell (p := ⟨y, 3, none⟩) rfl _).setCell (p := ⟨y, 4, none⟩) rfl _).setCell (p := ⟨y, 5, none⟩) rfl _
theorem outA {w1 w5 : World} {z : Nat} {a b c d e f : Value} (h : Below w1.heap.size w1 w5) (hz : z < w5.heap.size) : ∃ y, Value.pointer (some ⟨w5.heap.size, 0, none⟩) = Value.pointer (some ⟨y, 0, none⟩) ∧ (w5.alloc (.cells #[a, b, c, d, e, f] 132)).heap[y]? = some (.cells #[a, b, c, d, e, f] 132 (0, 0)) ∧ Below w1.heap.size w1 (w5.alloc (.cells #[a, b, c, d, e, f] 132)) ∧ z < y :=
  ⟨w5.heap.size, rfl, heap_alloc_new _ _, h.alloc h.size _, hz⟩
theorem outB {w1 w5 : World} {z : Nat} {a b c d e f a' b' c' d' e' f' : Value} (h : Below w1.heap.size w1 w5) (hs : w1.heap.size = z + 1) (hz : w5.heap[z + 1]? = some (.cells #[a', b', c', d', e', f'] 132 (0, 0))) : ∃ y, Value.pointer (some ⟨z + 1, 0, none⟩) = Value.pointer (some ⟨y, 0, none⟩) ∧ ((((((w5.setCell ⟨z + 1, 0, none⟩ a).setCell ⟨z + 1, 1, none⟩ b).setCell ⟨z + 1, 2, none⟩ c).setCell ⟨z + 1, 3, none⟩ d).setCell ⟨z + 1, 4, none⟩ e).setCell ⟨z + 1, 5, none⟩ f).heap[y]? = some (.cells #[a, b, c, d, e, f] 132 (0, 0)) ∧ Below w1.heap.size w1 ((((((w5.setCell ⟨z + 1, 0, none⟩ a).setCell ⟨z + 1, 1, none⟩ b).setCell ⟨z + 1, 2, none⟩ c).setCell ⟨z + 1, 3, none⟩ d).setCell ⟨z + 1, 4, none⟩ e).setCell ⟨z + 1, 5, none⟩ f) ∧ z < y :=
  ⟨z + 1, rfl, box6 hz, h.trans ((but6 w5 (z + 1) _ _ _ _ _ _).below h.size (fun q hq => by omega)), by omega⟩
theorem Jbx (st : List SK) (n : Nat) (HL : Hid (st.length = n)) (hn : n ≤ 1048576) (ka : Nat → Option Addr × Nat) (HK : Hid (Sts st)) (lk : Nat → Option Nat) (mk : Nat → Int) (rk : Nat → Nat) (HR : Hid (Ranked st lk rk)) (HG : Hid (∀ i j, lk i = some j → i < st.length ∧ j < st.length)) (D : Nat → List Nd) (HD : Hid (IsD st lk D)) (Bs g c : Nat) (wk : Int) (B : Nat) (HOFF : Hid (∀ q, B ≤ q → g ≠ q ∧ KOff st ka q)) :
    ∀ (N : Nat) (i : Nat), rk i = N → i < n → ∀ (zs : List Nd) (go lo co : Nat) (w : World), lo ≤ 301 → Sto w Bs g c st ka lk mk → OwnN w B go co lo zs →
      Calls Tryz.prog 73 #[.agg #[.slice (some ⟨g, 0, none⟩) n c, .int .i64 wk], .int .i64 (i : Int), .slice (some ⟨go, 0, none⟩) lo co] w fun e w' => ∃ (g' l' c' : Nat) (zs' : List Nd), e = .returned (.slice (some ⟨g', 0, none⟩) l' c') ∧ OwnN w' B g' c' l' zs' ∧ OutOk zs (D i) zs' ∧ But (fun q => q = go) w w' ∧ (g' = go ∨ w.heap.size ≤ g') := by
  have _ := hn
  obtain ⟨i0, hi0, hz0, hz1, hz2⟩ := info_parts Tryz.infoN
  intro N
  induction N using Nat.strongRecOn with
  | ind N ih =>
  have IH : Hid _ := ih
  clear ih
  intro i hri hi zs go lo co w hlo hS hO
  obtain ⟨r, hr⟩ := HR.out.rt i
  have hrn : r < n := by
    have h9 : ∀ {i r}, Rt lk i r → i < n → r < n := by
      intro i r h
      induction h using Rt.elim with
      | root _ => exact fun h => h
      | step h1 _ ih => exact fun _ => ih (by have := (HG.out _ _ h1).2; have := HL.out; omega)
    exact h9 hr hi
  have hgo := Qad hO.2
  obtain ⟨z, hz⟩ : ∃ z, w.heap.size = z := ⟨_, rfl⟩
  have HS : Hid (Sto w Bs g c st ka lk mk) := hS
  have HO : Hid (OwnN w B go co lo zs) := hO
  have hgw := hS.block
  clear hS hO
  go_enter Tryz.func73, Tryz.ntmps73
  by_cases h300 : lo > 300
  · have hB1 : Below w.heap.size w (w.alloc (.cells #[.slice (some ⟨g, 0, none⟩) n c, .int .i64 wk] 78)) := (Below.refl _ w).alloc (Nat.le_refl _) _
    have HRES : Hid (OwnN (w.alloc (.cells #[.slice (some ⟨g, 0, none⟩) n c, .int .i64 wk] 78)) B go co lo zs ∧ OutOk zs (D i) zs ∧ But (fun q => q = go) w (w.alloc (.cells #[.slice (some ⟨g, 0, none⟩) n c, .int .i64 wk] 78))) := by
      have h9 := HO.out.1
      exact ⟨⟨HO.out.1, HO.out.2.alloc _⟩, ⟨fun h => by rw [List.length_append] at h; omega, fun _ => by omega, by omega⟩, But.ofBelow hB1⟩
    go_wp2
    go_ret
    exact ⟨go, lo, co, zs, rfl, HRES.out.1, HRES.out.2.1, HRES.out.2.2, .inl rfl⟩
  · have hA : Below w.heap.size w (w.alloc (.cells #[.slice (some ⟨g, 0, none⟩) n c, .int .i64 wk] 78)) := (Below.refl _ w).alloc (Nat.le_refl _) _
    have hzb : (w.alloc (.cells #[.slice (some ⟨g, 0, none⟩) n c, .int .i64 wk] 78)).heap[z]? = some (.cells #[.slice (some ⟨g, 0, none⟩) n c, .int .i64 wk] 78 (0, 0)) := by rw [← hz]; exact heap_alloc_new _ _
    obtain ⟨w1, hw1⟩ : ∃ w1, w.alloc (.cells #[.slice (some ⟨g, 0, none⟩) n c, .int .i64 wk] 78) = w1 := ⟨_, rfl⟩
    rw [hw1] at hA hzb
    have hrk : rk r ≤ rk i := by
      have h9 : ∀ {i r}, Rt lk i r → rk r ≤ rk i := by
        intro i r h
        induction h using Rt.elim with
        | root _ => exact Nat.le_refl _
        | step h1 _ ih => have := HR.out.link _ _ h1; omega
      exact h9 hr
    have hlr : lk r = none := hr.is_root
    have HDI : Hid (D i = (sk st r).kids.flatMap D ++ [(sk st r).node]) := by
      show D i = _
      rw [HD.out.rt hr, HD.out.node hlr]
    have hs1 : w1.heap.size = z + 1 := by rw [← hw1]; simp [hz]
    obtain ⟨kl, hkl⟩ : ∃ kl, (sk st r).kids.length = kl := ⟨_, rfl⟩
    have HKL : Hid ((sk st r).kids.length = kl) := hkl
    have hkl6 : kl ≤ 6000 := by have := HK.out.few r; omega
    obtain ⟨x0, x1, x2, x3, hzl⟩ := Qay hzb
    clear x2 x3
    have HCALL : Hid (∀ W, Below w1.heap.size w1 W → Calls Tryz.prog 70 #[.agg #[.slice (some ⟨g, 0, none⟩) n c, .int .i64 wk], .int .i64 (i : Int)] W fun e w' => e = .returned (.int .i64 (r : Int)) ∧ Below W.heap.size W w') := by
      intro W hW
      exact Qjd st n HL ka lk mk rk HR HG Bs g c wk W ((HS.out.below hA).below hW) i r hi hr
    have hdrew : Below w1.heap.size w1 w1.drew := ⟨rfl, rfl, rfl, Nat.le_refl _, fun _ _ => rfl⟩
    have HDE : Hid (∀ W, Below w1.heap.size w1 W → (W.cell? ⟨g, r * 6, none⟩ = some (.int .i64 (sk st r).kind) ∧ W.cell? ⟨g, r * 6 + 1, none⟩ = some (.int .i64 (sk st r).num) ∧ W.cell? ⟨g, r * 6 + 2, none⟩ = some (.string (sk st r).text) ∧ W.cell? ⟨g, r * 6 + 3, none⟩ = some (.slice (ka r).1 kl (ka r).2) ∧ W.cell? ⟨g, r * 6 + 4, none⟩ = some (.int .i64 (lkv (lk r))) ∧ W.cell? ⟨g, r * 6 + 5, none⟩ = some (.int .i64 (mk r)) ∧ g < W.heap.size ∧ W.cell? ⟨z, 0, none⟩ = some (.slice (some ⟨g, 0, none⟩) n c) ∧ W.cell? ⟨z, 1, none⟩ = some (.int .i64 wk) ∧ z < W.heap.size)) := by
      intro W hW
      have hS9 := (HS.out.below hA).below hW
      have hr9 : r < st.length := by have := HL.out; omega
      refine ⟨?_, ?_, ?_, ?_, ?_, ?_, hS9.block.2, (hW.cell (p := ⟨z, 0, none⟩) hzl).trans x0, (hW.cell (p := ⟨z, 1, none⟩) hzl).trans x1, by have := hW.size; omega⟩
      · have h9 := hS9.cell r 0 hr9 (by omega)
        rw [Nat.add_zero] at h9
        rw [h9]; rfl
      · rw [hS9.cell r 1 hr9 (by omega)]; rfl
      · rw [hS9.cell r 2 hr9 (by omega)]; rfl
      · rw [hS9.cell r 3 hr9 (by omega)]; simp [Qgn, HKL.out]
      · rw [hS9.cell r 4 hr9 (by omega)]; rfl
      · rw [hS9.cell r 5 hr9 (by omega)]; rfl
    have hd1 : Below w1.heap.size w1 (w1.alloc (.cells #[.int .i64 0, .int .i64 0, .string ⟨#[]⟩, .slice none 0 0, .int .i64 0, .int .i64 0] 132)) := (Below.refl _ w1).alloc (Nat.le_refl _) _
    have hdrew2 : Below w1.heap.size w1 (w1.alloc (.cells #[.int .i64 0, .int .i64 0, .string ⟨#[]⟩, .slice none 0 0, .int .i64 0, .int .i64 0] 132)).drew := Below.step hd1 ⟨rfl, rfl, rfl, Nat.le_refl _, fun _ _ => rfl⟩
    have HZB : Hid (∀ W, Below (w1.alloc (.cells #[.int .i64 0, .int .i64 0, .string ⟨#[]⟩, .slice none 0 0, .int .i64 0, .int .i64 0] 132)).drew.heap.size (w1.alloc (.cells #[.int .i64 0, .int .i64 0, .string ⟨#[]⟩, .slice none 0 0, .int .i64 0, .int .i64 0] 132)).drew W → W.heap[z + 1]? = some (.cells #[.int .i64 0, .int .i64 0, .string ⟨#[]⟩, .slice none 0 0, .int .i64 0, .int .i64 0] 132 (0, 0)) ∧ z + 1 < W.heap.size) := by
      intro W hW
      have h9 := (hW.block w1.heap.size (by show w1.heap.size < (w1.alloc _).heap.size; simp)).trans (heap_alloc_new w1 _)
      rw [hs1] at h9
      exact ⟨h9, (Array.getElem?_eq_some_iff.1 h9).1⟩
    clear hkl hd1
    go_wp2_with fail
    go_cut [7] from 13 to 19 (fun v wx => ∃ y, v = .pointer (some ⟨y, 0, none⟩) ∧ wx.heap[y]? = some (.cells #[.int .i64 (sk st r).kind, .int .i64 (sk st r).num, .string (sk st r).text, .slice (ka r).1 kl (ka r).2, .int .i64 (lkv (lk r)), .int .i64 (mk r)] 132 (0, 0)) ∧ Below w1.heap.size w1 wx ∧ z < y)
    case first =>
      clear HS HO IH hA HL HK HR HG HD HDI hrk hlr HOFF hr hri hgo hgw hi hlo h300 HKL hzb
      go_region_with (go_at_call 70; first | (refine (HCALL.out w1.drew hdrew).mono ?_; rintro e w5 ⟨rfl, hb5⟩; have hbb5 := Below.step hdrew hb5; obtain ⟨d0, d1, d2, d3, d4, d5, d6, d7, d8, d9⟩ := HDE.out w5 hbb5) | (refine (HCALL.out _ hdrew2).mono ?_; rintro e w5 ⟨rfl, hb5⟩; have hbb5 := Below.step hdrew2 hb5; obtain ⟨d0, d1, d2, d3, d4, d5, d6, d7, d8, d9⟩ := HDE.out w5 hbb5; obtain ⟨hzz5, hzl5⟩ := HZB.out w5 hb5; obtain ⟨q0, q1, q2, q3, q4, q5, q6, q7, q8, q9, q10, q11⟩ := Qyr hzz5))
      all_goals (try go_wp2_with fail)
      all_goals go_meet
      all_goals first
        | exact outB hbb5 hs1 hzz5
        | exact outA hbb5 d9
    case rest =>
      obtain ⟨y, rfl, hyb, hbw1, hzy⟩ := hcut
      have hSc := (HS.out.below hA).below hbw1
      have hbwc : But (fun q => q = go) w wc := But.ofBelow (Below.step hA hbw1)
      have hOc : OwnN wc B go co lo zs := ⟨HO.out.1, Qah (S := fun _ => False) HO.out.2 (But.ofBelow (Below.step hA hbw1)) (fun h => h)⟩
      have hzc := (hbw1.block z hzl).trans hzb
      have hyl : y < wc.heap.size := (Array.getElem?_eq_some_iff.1 hyb).1
      have hgoz : go < z := by omega
      clear HZB HDE HCALL hdrew hdrew2 x0 x1 hzb hA hbw1
      go_wp2
      go_loopw [2, 8] (fun vo vk wr => ∃ (k go' lo' co' : Nat) (zs' : List Nd), k ≤ kl ∧ vk = .int .i64 (k : Int) ∧ vo = .slice (some ⟨go', 0, none⟩) lo' co' ∧ lo' ≤ 300 ∧ OwnN wr B go' co' lo' zs' ∧ zs' = zs ++ ((sk st r).kids.take k).flatMap D ∧ But (fun q => q = go) w wr ∧ (go' = go ∨ y < go') ∧ Sto wr Bs g c st ka lk mk ∧ wr.heap[z]? = some (.cells #[.slice (some ⟨g, 0, none⟩) n c, .int .i64 wk] 78 (0, 0)) ∧ wr.heap[y]? = some (.cells #[.int .i64 (sk st r).kind, .int .i64 (sk st r).num, .string (sk st r).text, .slice (ka r).1 kl (ka r).2, .int .i64 (lkv (lk r)), .int .i64 (mk r)] 132 (0, 0))) (fun _ vk _ => kl - (intOf vk).toNat)
      case atStart => exact ⟨0, go, lo, co, zs, Nat.zero_le _, rfl, rfl, by omega, hOc, by simp, hbwc, .inl rfl, hSc, hzc, hyb⟩
      case round =>
        clear hSc hbwc hOc hzc hyl hyb
        obtain ⟨k, go', lo', co', zs', hk, rfl, rfl, hlo', hO, hzs', hbr, hgo', hSr, hbx, hyb⟩ := hrel
        obtain ⟨b0, b1, b2, b3, hzr⟩ := Qay hbx
        clear b2 b3
        obtain ⟨y0, y1, y2, y3⟩ := sbox hyb
        have hyl : y < wr.heap.size := (Array.getElem?_eq_some_iff.1 hyb).1
        by_cases hkk : k < kl
        · have hkx : k < (sk st r).kids.length := by have := HKL.out; omega
          obtain ⟨kb, ko, hka, hkg, hkc⟩ := hSr.kids r k hkx
          obtain ⟨x, hx⟩ : ∃ x, (sk st r).kids[k] = x := ⟨_, rfl⟩
          rw [hx] at hkc
          rw [hka] at y3
          have hkbl : kb < wr.heap.size := Qaa hkc
          have hxm : x ∈ (sk st r).kids := by rw [← hx]; exact List.getElem_mem hkx
          have hxr : x < r := HK.out.kids r x hxm
          obtain ⟨kc, hkc9⟩ : ∃ kc, (ka r).2 = kc := ⟨_, rfl⟩
          rw [hkc9] at y3
          have hzz' := hO.1
          have hgB := Qad hO.2
          have HCALL : Hid (∀ W, Below wr.heap.size wr W → Calls Tryz.prog 73 #[.agg #[.slice (some ⟨g, 0, none⟩) n c, .int .i64 wk], .int .i64 (x : Int), .slice (some ⟨go', 0, none⟩) lo' co'] W fun e w' => ∃ (g5 l5 c5 : Nat) (zs5 : List Nd), e = .returned (.slice (some ⟨g5, 0, none⟩) l5 c5) ∧ OwnN w' B g5 c5 l5 zs5 ∧ OutOk zs' (D x) zs5 ∧ But (fun q => q = go') wr w' ∧ (g5 = go' ∨ wr.heap.size ≤ g5)) := by
            intro W hW
            refine (IH.out (rk x) (by have := HR.out.kid r hlr x hxm; omega) x rfl (by omega) zs' go' lo' co' W (by omega) (hSr.below hW) (hO.below hW)).mono ?_
            rintro e w' ⟨g5, l5, c5, zs5, rfl, h1, h2, h3, h4⟩
            exact ⟨g5, l5, c5, zs5, rfl, h1, h2, (But.ofBelow hW).trans h3, h4.imp id (fun h => Nat.le_trans hW.size h)⟩
          have HT : Hid (((sk st r).kids.take (k + 1)).flatMap D = ((sk st r).kids.take k).flatMap D ++ D x) := by
            have h9 := Qxj (D := D) hkx
            rw [hx] at h9
            exact h9
          have HZS : Hid (zs' = zs ++ ((sk st r).kids.take k).flatMap D) := hzs'
          have HBR : Hid (But (fun q => q = go) w wr) := hbr
          have HSR : Hid (Sto wr Bs g c st ka lk mk) := hSr
          have HBX : Hid (wr.heap[z]? = some (.cells #[.slice (some ⟨g, 0, none⟩) n c, .int .i64 wk] 78 (0, 0))) := hbx
          have HYB : Hid (wr.heap[y]? = some (.cells #[.int .i64 (sk st r).kind, .int .i64 (sk st r).num, .string (sk st r).text, .slice (ka r).1 kl (ka r).2, .int .i64 (lkv (lk r)), .int .i64 (mk r)] 132 (0, 0))) := hyb
          have hdrew : Below wr.heap.size wr wr.drew := ⟨rfl, rfl, rfl, Nat.le_refl _, fun _ _ => rfl⟩
          clear hzs' hbr hSr hbx hyb hx hO hzz' hkc9
          go_wp2_with fail
          go_cut [2] from 27 to 34 (fun v wx => ∃ (g5 l5 c5 : Nat) (zs5 : List Nd), v = .slice (some ⟨g5, 0, none⟩) l5 c5 ∧ OwnN wx B g5 c5 l5 zs5 ∧ OutOk zs' (D x) zs5 ∧ But (fun q => q = go') wr wx ∧ (g5 = go' ∨ wr.heap.size ≤ g5))
          case first =>
            clear HT HZS HBR HSR HBX HYB HS HO IH HL HK HR HG HD HOFF
            go_region_with (go_at_call 73; refine (HCALL.out wr.drew hdrew).mono ?_; rintro e w5 ⟨g5, l5, c5, zs5, rfl, hm1, hm2, hm3, hm4⟩)
            all_goals (try go_wp2_with fail)
            all_goals go_meet
            all_goals exact ⟨g5, l5, c5, zs5, rfl, hm1, hm2, hm3, hm4⟩
          case rest =>
            obtain ⟨g5, l5, c5, zs5, rfl, hO5, hok5, hb5, hg5⟩ := hcut
            have hbw : But (fun q => q = go) w wc := Qyb HBR.out hb5 (by omega)
            have hne5 : ∀ q, q < wr.heap.size → q = z ∨ q = y → q ≠ go' := by intro q h1 h2; omega
            have hbx5 := (hb5.block z hzr (hne5 z hzr (.inl rfl))).trans HBX.out
            have hyb5 := (hb5.block y hyl (hne5 y hyl (.inr rfl))).trans HYB.out
            have hS5 := HSR.out.off hb5 (fun q hq => (HOFF.out q (by omega)).1) (fun q hq => (HOFF.out q (by omega)).2)
            have hl5 := hO5.1
            have h301 := hok5.2.2
            clear HCALL hdrew b0 b1 y0 y1 y2 y3 hkc HBX HYB hb5 HSR
            by_cases h5 : l5 > 300
            · have HRES : Hid (OutOk zs (D i) zs5) := by
                have h8 := hok5.large (by omega)
                have h7 := Jcj (D := D) (sk st r).kids (k + 1)
                have h6 : (D i).length = ((sk st r).kids.flatMap D).length + 1 := by rw [HDI.out]; simp
                rw [HT.out, List.length_append] at h7
                rw [HZS.out] at h8
                simp only [List.length_append] at h8
                refine ⟨fun h => ?_, fun _ => by omega, h301⟩
                rw [List.length_append] at h
                omega
              clear hbx5 hyb5 hS5
              go_wp2
              go_ret
              exact ⟨g5, l5, c5, zs5, rfl, hO5, HRES.out, hbw, by have := hbw.size; have := HBR.out.size; omega⟩
            · have HE : Hid (zs5 = zs ++ ((sk st r).kids.take (k + 1)).flatMap D) := by
                have h8 := hok5.small (by omega)
                show zs5 = _
                rw [h8, HZS.out, HT.out, List.append_assoc]
              go_wp2
              go_roundw
              case rel => exact ⟨k + 1, g5, l5, c5, zs5, by omega, by go_num, rfl, by omega, hO5, HE.out, hbw, by omega, hS5, hbx5, hyb5⟩
              case measure => simp [intOf]; omega
        · have hke : k = kl := by omega
          subst hke
          have HFIN : Hid (zs' ++ [(sk st r).node] = zs ++ D i) := by
            show zs' ++ _ = _
            rw [hzs', HDI.out, List.take_of_length_le (by have := HKL.out; omega), List.append_assoc]
          have hln := hO.1
          have hgB := Qad hO.2
          have hBw : B ≤ wr.heap.size := by omega
          have HBR : Hid (But (fun q => q = go) w wr) := hbr
          have HE : Hid (OutOk zs (D i) (zs' ++ [(sk st r).node])) := by
            have h9 := congrArg List.length HFIN.out
            refine ⟨fun _ => HFIN.out, fun h => by rw [h9]; exact h, ?_⟩
            rw [List.length_append]
            simp
            omega
          have HN : Hid ((sk st r).node.row = [.int .i64 (sk st r).kind, .int .i64 (sk st r).num, .string (sk st r).text, .int .i64 (k : Int), .int .i64 0]) := by
            show Nd.row _ = _
            simp [Nd.row, SK.node, HKL.out]
          have hcells := Qbj wr (⟨(sk st r).kind, (sk st r).num, (sk st r).text, (k : Int), 0⟩ : Nd)
          simp only [Nd.row] at hcells
          clear hzs' hbr hSr hbx
          go_wp2_with (at_builtin; refine Qac _ rfl (.tmp 39) (.tmp 50) 23 rfl B 43 i0 _ 5 48 Tryz.underlying23 hi0 hz0 hz1 hz2 rfl (by decide) go' lo' co' _ rfl (hO.alloc _).2 ⟨_, 0, none⟩ 1 1 [.int .i64 (sk st r).kind, .int .i64 (sk st r).num, .string (sk st r).text, .int .i64 (k : Int), .int .i64 0] rfl rfl hcells (by rw [← HN.out]; exact Qbp _) ?a3 ?a4 ?a5 ?_)
          case a3 => unfold maxLen; omega
          case a4 => omega
          case a5 => simp only [World.size_alloc]; omega
          intro g5 c5 w5 hown5 hgrow5 hwh5
          rw [← HN.out] at hown5
          have hO5 := OwnN.push hown5 hln rfl
          have hb5 : But (fun q => q = go') wr w5 := (But.ofBelow ((Below.refl _ wr).alloc (Nat.le_refl _) _)).trans ((Qhn hgrow5).mono (fun i e => by simp only [Option.some.injEq] at e; exact e.symm))
          have hbw : But (fun q => q = go) w w5 := Qyb HBR.out hb5 (by omega)
          have hw5 : g5 = go ∨ w.heap.size ≤ g5 := by
            have := HBR.out.size
            rcases hwh5 with h | h <;> (try simp only [World.size_alloc] at h) <;> omega
          clear hown5 hgrow5 hwh5 hcells hb5
          go_wp2
          go_ret
          exact ⟨g5, lo' + 1, c5, _, rfl, hO5, HE.out, hbw, hw5⟩
def Qbv (D : Nat → List Nd) (srt : List (Int × Int)) (j : Nat) : List (Int × List Nd) := (srt.take j).map fun p => (p.1, D p.2.toNat)
theorem Qrs {D : Nat → List Nd} {srt : List (Int × Int)} {j : Nat} (hj : j < srt.length) : Qbv D srt (j + 1) = Qbv D srt j ++ [(srt[j].1, D srt[j].2.toNat)] := by
  unfold Qbv
  rw [List.take_succ_eq_append_getElem hj, List.map_append]
  simp
def Qef (D : Nat → List Nd) (srt : List (Int × Int)) (bs : List (Int × List Nd)) (ok : Bool) : Prop :=
  (ok = true → bs = Qbv D srt srt.length ∧ ∀ p ∈ srt, (D p.2.toNat).length ≤ 300) ∧ (ok = false → bs = [] ∧ ∃ p ∈ srt, 300 < (D p.2.toNat).length)
theorem Qye (st : List SK) (n : Nat) (HL : Hid (st.length = n)) (hn : n ≤ 1048576) (ka : Nat → Option Addr × Nat) (HK : Hid (Sts st)) (lk : Nat → Option Nat) (mk : Nat → Int) (rk : Nat → Nat) (HR : Hid (Ranked st lk rk)) (HG : Hid (∀ i j, lk i = some j → i < st.length ∧ j < st.length)) (D : Nat → List Nd) (HD : Hid (IsD st lk D)) (Bs g c : Nat) (wk : Int) (ms : List (Int × Nat)) (l : Nat) (HML : Hid (ms.length = l)) (hl : l ≤ 1048576) (HMA : Hid (∀ p ∈ ms, p.2 < n)) (gm cm : Nat) (w : World) (hS : Sto w Bs g c st ka lk mk) (hM : MRow w gm (msI ms)) :
    Calls Tryz.prog 39 #[.agg #[.slice (some ⟨g, 0, none⟩) n c, .int .i64 wk], .slice (some ⟨gm, 0, none⟩) l cm] w fun e w' => ∃ (ao : Option Addr) (l' c' : Nat) (bs : List (Int × List Nd)) (ok : Bool), e = .returned (.tuple #[.slice ao l' c', .bool ok]) ∧ bs.length = l' ∧ BAns w' w.heap.size ao bs ∧ Below w.heap.size w w' ∧ Qef D (Qax (msI ms)) bs ok := by
  obtain ⟨i1, hj1, hy0, hy1, hy2⟩ := info_parts Tryz.infoB
  obtain ⟨z, hz⟩ : ∃ z, w.heap.size = z := ⟨_, rfl⟩
  have HOFF : Hid (∀ q, z ≤ q → g ≠ q ∧ KOff st ka q) := by
    intro q hq
    exact ⟨by have := hS.block.2; omega, hS.toV.klt (by omega)⟩
  have hgw := hS.block
  have HS : Hid (Sto w Bs g c st ka lk mk) := hS
  have HM : Hid (MRow w gm (msI ms)) := hM
  clear hS hM
  go_enter Tryz.func39, Tryz.ntmps39
  have hA1 : Below w.heap.size w (w.alloc (.cells #[.slice (some ⟨g, 0, none⟩) n c, .int .i64 wk] 78)) := (Below.refl _ w).alloc (Nat.le_refl _) _
  have hA2 := hA1.alloc hA1.size (.cells #[] 54)
  have hO0 := OwnBs.empty (w := w.alloc (.cells #[.slice (some ⟨g, 0, none⟩) n c, .int .i64 wk] 78)) (B := z) (by simp; omega)
  have hsz1 : (w.alloc (.cells #[.slice (some ⟨g, 0, none⟩) n c, .int .i64 wk] 78)).heap.size = z + 1 := by simp [hz]
  rw [hsz1] at hO0
  have hzb : ((w.alloc (.cells #[.slice (some ⟨g, 0, none⟩) n c, .int .i64 wk] 78)).alloc (.cells #[] 54)).heap[z]? = some (.cells #[.slice (some ⟨g, 0, none⟩) n c, .int .i64 wk] 78 (0, 0)) := by
    rw [heap_alloc_old _ _ (by omega), ← hz]
    exact heap_alloc_new _ _
  have hsz2 : ((w.alloc (.cells #[.slice (some ⟨g, 0, none⟩) n c, .int .i64 wk] 78)).alloc (.cells #[] 54)).heap.size = z + 2 := by simp [hz]
  go_wp2_with fail
  refine (Qlj (msI ms) l (by show (msI ms).length = l; rw [Qcw]; exact HML.out) hl gm cm _ (HM.out.below hA2)).mono ?_
  rintro e w2 ⟨gs, cs, rfl, hgs, hrs, hb2⟩
  rw [hsz2] at hgs
  have hbb := Below.step hA2 hb2
  have hO2 := hO0.below hb2
  have hzb2 := (hb2.block z (by omega)).trans hzb
  have hsl : (Qax (msI ms)).length = l := by rw [Qkr, Qcw]; exact HML.out
  have HSM : Hid (∀ p ∈ Qax (msI ms), ∃ a : Nat, a < n ∧ p.2 = (a : Int)) := by
    intro p hp
    obtain ⟨q, hq, rfl⟩ := List.mem_map.1 (Qqh _ _ hp)
    exact ⟨q.2, HMA.out q hq, rfl⟩
  clear hA1 hA2 hO0 hsz1 hsz2 hzb hb2 HM HMA
  obtain ⟨srt, hsrt⟩ : ∃ srt, Qax (msI ms) = srt := ⟨_, rfl⟩
  have HSRT : Hid (Qax (msI ms) = srt) := hsrt
  rw [hsrt] at hrs hsl HSM
  clear hsrt
  rw [hz] at hbb
  go_wp2
  go_loopw [6, 8] (fun v p wq => ∃ (j go co : Nat) (rs : List (Nat × Nat)), j ≤ l ∧ p = .int .i64 j ∧ v = .slice (some ⟨go, 0, none⟩) j co ∧ OwnBs wq z go co j (Qcr rs (Qbv D srt j)) ∧ TwoR wq go rs (Qbv D srt j) ∧ (∀ r ∈ rs, z ≤ r.1) ∧ MRow wq gs srt ∧ go ≠ gs ∧ z < go ∧ (∀ p ∈ srt.take j, (D p.2.toNat).length ≤ 300) ∧ Below z w wq ∧ wq.heap[z]? = some (.cells #[.slice (some ⟨g, 0, none⟩) n c, .int .i64 wk] 78 (0, 0))) (fun _ p _ => l - (intOf p).toNat)
  case atStart => exact ⟨0, z + 1, 0, [], Nat.zero_le _, rfl, rfl, by simpa [Qcr, Qbv] using hO2, ⟨by simp [Qbv], by simpa [Qcr, Qbv] using hO2.row.2, by simp [Qbv], by simp⟩, by simp, hrs, by omega, by omega, by simp, hbb, hzb2⟩
  case round =>
    clear hO2 hrs hbb hzb2
    obtain ⟨j, go, co, rs, hj, rfl, rfl, hown, htw, hrb, hms, hgn, hzg, hall, hb, hbx⟩ := hrel
    obtain ⟨b0, b1, b2, b3, hzr⟩ := Qay hbx
    clear b2 b3
    by_cases hjl : j < l
    · have hjs : j < srt.length := by omega
      obtain ⟨e0, e1⟩ := hms.at j hjs
      obtain ⟨a, han, ha⟩ := HSM.out srt[j] (List.getElem_mem hjs)
      obtain ⟨x, hx⟩ : ∃ x, srt[j].1 = x := ⟨_, rfl⟩
      rw [hx] at e0
      rw [ha] at e1
      have hgl := hms.lt
      have HBT : Hid (Qbv D srt (j + 1) = Qbv D srt j ++ [(x, D a)]) := by
        show Qbv D srt (j + 1) = _
        rw [Qrs hjs, hx, ha]
        rfl
      have HAJ : Hid (srt[j].2.toNat = a) := by
        show srt[j].2.toNat = a
        rw [ha]
        rfl
      have HMEM : Hid (srt[j] ∈ srt) := List.getElem_mem hjs
      obtain ⟨wqs, hwqs⟩ : ∃ q, wr.heap.size = q := ⟨_, rfl⟩
      have hgl2 : gs < wqs := by omega
      have hzr2 : z < wqs := by omega
      have hal : Below wr.heap.size wr (wr.alloc (.cells #[] 43)) := (Below.refl _ wr).alloc (Nat.le_refl _) _
      have hald : Below wr.heap.size wr (wr.alloc (.cells #[] 43)).drew := Below.step hal ⟨rfl, rfl, rfl, Nat.le_refl _, fun _ _ => rfl⟩
      have HCALL : Hid (Calls Tryz.prog 73 #[.agg #[.slice (some ⟨g, 0, none⟩) n c, .int .i64 wk], .int .i64 (a : Int), .slice (some ⟨wqs, 0, none⟩) 0 0] (wr.alloc (.cells #[] 43)).drew fun e w' => ∃ (g5 l5 c5 : Nat) (zs5 : List Nd), e = .returned (.slice (some ⟨g5, 0, none⟩) l5 c5) ∧ OwnN w' wqs g5 c5 l5 zs5 ∧ OutOk [] (D a) zs5 ∧ Below wqs wr w') := by
        have hO9 := (OwnN.empty (w := wr) (B := wqs) (by omega)).below (w' := (wr.alloc (.cells #[] 43)).drew) ⟨rfl, rfl, rfl, Nat.le_refl _, fun _ _ => rfl⟩
        rw [hwqs] at hO9
        have hbq := hb.size
        have hSr : Sto (wr.alloc (.cells #[] 43)).drew Bs g c st ka lk mk := (HS.out.below (by rw [hz]; exact hb)).below hald
        refine (Jbx st n HL hn ka HK lk mk rk HR HG D HD Bs g c wk wqs (fun q hq => HOFF.out q (by omega)) (rk a) a rfl han [] wqs 0 0 _ (by omega) hSr hO9).mono ?_
        rintro e w' ⟨g5, l5, c5, zs5, rfl, h1, h2, h3, h4⟩
        refine ⟨g5, l5, c5, zs5, rfl, h1, h2, ?_⟩
        rw [hwqs] at hald
        have hs9 := hald.size
        exact hald.trans (h3.below (by omega) (fun q hq => by omega))
      clear hx ha hal
      go_wp2_with fail
      go_cut [9] from 19 to 26 (fun v wx => ∃ (g5 l5 c5 : Nat) (zs5 : List Nd), v = .slice (some ⟨g5, 0, none⟩) l5 c5 ∧ OwnN wx wqs g5 c5 l5 zs5 ∧ OutOk [] (D a) zs5 ∧ Below wqs wr wx)
      case first =>
        clear HBT HAJ HMEM HSM HL HK HR HG HD HOFF HS hown htw hrb hms hall hb hbx hald
        go_region_with (go_at_call 73; refine HCALL.out.mono ?_; rintro e w5 ⟨g5, l5, c5, zs5, rfl, hm1, hm2, hm3⟩)
        all_goals (try go_wp2_with fail)
        all_goals go_meet
        all_goals exact ⟨g5, l5, c5, zs5, rfl, hm1, hm2, hm3⟩
      case rest =>
        obtain ⟨g5, l5, c5, zs5, rfl, hO5, hok5, hb5⟩ := hcut
        have hb5' : Below wr.heap.size wr wc := by rw [hwqs]; exact hb5
        have hl5 := hO5.1
        have h301 := hok5.2.2
        have hbc : Below z w wc := hb.trans (hb5.mono (by have := hb.size; omega))
        obtain ⟨hg5, hrow5⟩ := hO5.row
        clear HCALL hald b0 b1
        by_cases h5 : l5 > 300
        · have HRES : Hid (Qef D srt [] false) := by
            refine ⟨(fun h => by cases h), fun _ => ⟨rfl, srt[j], HMEM.out, ?_⟩⟩
            rw [HAJ.out]
            have h8 := hok5.large (by omega)
            simpa using h8
          have hfin := hbc.alloc (by have := hbc.size; omega) (.cells #[] 54)
          clear hown htw hrb hms hall hb hbx hO5 hrow5 hok5 e0 e1
          go_wp2
          go_ret2
          exact ⟨_, 0, 0, [], false, rfl, rfl, .inl rfl, by rw [hz]; exact hfin, by rw [HSRT.out]; exact HRES.out⟩
        · have HE : Hid (zs5 = D a) := by
            have h8 := hok5.small (by omega)
            show zs5 = D a
            simpa using h8
          have hown5 := hown.below hb5'
          have htw5 := htw.below hb5'
          have hms5 := hms.below hb5'
          have e0' := (hb5'.cell (p := ⟨gs, j * 2, none⟩) hgl).trans e0
          have hgl5 := hms5.lt
          have hob5 := Qad hown5.2
          have hmm := htw.mem_lt
          have HRB : Hid (∀ r ∈ rs, z ≤ r.1) := hrb
          have HMM : Hid (∀ r ∈ rs, r.1 < wr.heap.size ∧ r.1 ≠ go) := hmm
          have hgo : go < wr.heap.size := (Qad hown.2).2
          have hrl := hrow5.lt
          have hbx5 := (hb5'.block z hzr).trans hbx
          have HALL : Hid (∀ p ∈ srt.take (j + 1), (D p.2.toNat).length ≤ 300) := by
            intro p hp
            rw [List.take_succ_eq_append_getElem hjs] at hp
            rcases List.mem_append.1 hp with h9 | h9
            · exact hall p h9
            · simp only [List.mem_singleton] at h9
              subst h9
              rw [HAJ.out, ← HE.out]
              omega
          clear hown htw hrb hms hall hb hbx hO5 hok5 e0 e1 hmm
          go_wp2_with (at_builtin; refine Qac _ rfl (.tmp 31) (.tmp 39) 30 rfl z 54 i1 _ 2 32 Tryz.underlying30 hj1 hy0 hy1 hy2 rfl (by decide) go j co _ rfl (hown5.alloc _).2 ⟨_, 0, none⟩ 1 1 [.int .i64 x, .slice (some ⟨g5, 0, none⟩) l5 c5] rfl rfl (Qer _ x _) (Qho _ _ _ _) ?a3 ?a4 ?a5 ?_)
          case a3 => unfold maxLen; omega
          case a4 => omega
          case a5 => simp; omega
          intro go2 co2 w7 hown7 hgrow7 hwh7
          have hO := OwnBs.push (x := (.int .i64 x, .slice (some ⟨g5, 0, none⟩) l5 c5)) hown7 hown5.1 rfl
          have hb7 : Below z w w7 := (hbc.alloc (by have := hbc.size; omega) _).grown hgrow7 (by simp; omega) (fun q hq => by cases hq; exact hob5.1)
          have hal : Below wc.heap.size wc (wc.alloc (.cells #[.int .i64 x, .slice (some ⟨g5, 0, none⟩) l5 c5] 54)) := (Below.refl _ wc).alloc (Nat.le_refl _) _
          have hms7 := (hms5.below hal).kept hgrow7 (Ne.symm hgn)
          have hgo2 : go2 ≠ gs ∧ z < go2 := by rcases hwh7 with h | h <;> (try simp at h) <;> omega
          have hrow7 := (hrow5.below hal).kept hgrow7 (show g5 ≠ go by omega)
          have hbx7 := (hgrow7.block z (by simp; omega) (by simp; omega)).trans ((hal.block z (by omega)).trans hbx5)
          have htw7 : TwoR w7 go2 (rs ++ [(g5, c5)]) (Qbv D srt (j + 1)) := by
            rw [HBT.out, ← HE.out]
            refine TwoR.snoc htw5 (by rw [hl5]; exact hO.row.2) (fun i h1 h2 => ?_) hrow7 (fun r hr => ?_)
            · have h9 := (htw5.below hal).rows i h1 h2
              exact h9.kept hgrow7 (HMM.out _ (List.getElem_mem h1)).2
            · have := (HMM.out r hr).1
              omega
          have hO7 : OwnBs w7 z go2 co2 (j + 1) (Qcr (rs ++ [(g5, c5)]) (Qbv D srt (j + 1))) := by
            rw [HBT.out, ← HE.out]
            have e9 : Qcr (rs ++ [(g5, c5)]) (Qbv D srt j ++ [(x, zs5)]) = Qcr rs (Qbv D srt j) ++ [(.int .i64 x, .slice (some ⟨g5, 0, none⟩) l5 c5)] := by
              unfold Qcr
              rw [List.zipWith_append htw5.len, ← hl5]
              rfl
            rw [e9]
            exact hO
          have HRB2 : Hid (∀ r ∈ rs ++ [(g5, c5)], z ≤ r.1) := by
            intro r hr
            rcases List.mem_append.1 hr with h9 | h9
            · exact HRB.out r h9
            · simp only [List.mem_singleton] at h9
              subst h9
              have := hbc.size
              simp only
              omega
          clear hown7 hgrow7 hwh7 hO htw5 hown5 hms5 hrow5 hrow7 hbx5 e0' hal
          go_wp2
          go_roundw
          case rel => exact ⟨j + 1, go2, co2, rs ++ [(g5, c5)], by omega, by go_num, rfl, hO7, htw7, HRB2.out, hms7, hgo2.1, hgo2.2, HALL.out, hb7, hbx7⟩
          case measure => simp [intOf]; omega
    · have hje : j = l := by omega
      subst hje
      rw [List.take_of_length_le (by omega)] at hall
      have HRES : Hid (Qef D srt (Qbv D srt j) true) := ⟨fun _ => ⟨by rw [hsl], hall⟩, fun h => by cases h⟩
      have HANS : Hid (BAns wr z (some ⟨go, 0, none⟩) (Qbv D srt j)) := .inr ⟨go, rs, rfl, by omega, hrb, htw⟩
      have HLEN : Hid ((Qbv D srt j).length = j) := by
        show (Qbv D srt j).length = j
        simp [Qbv, hsl]
      clear hown htw hrb hms hall hbx
      go_wp2
      go_ret2
      exact ⟨_, j, _, Qbv D srt j, true, rfl, HLEN.out, by rw [hz]; exact HANS.out, by rw [hz]; exact hb, by rw [HSRT.out]; exact HRES.out⟩
end Go.Proofs.YtoiiibplkhedcaaGreatDoor
