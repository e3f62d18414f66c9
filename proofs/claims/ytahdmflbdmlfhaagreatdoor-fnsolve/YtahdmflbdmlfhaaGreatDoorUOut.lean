import Derived.Test.YtahdmflbdmlfhaaGreatDoorWBL
import Derived.Test.YtahdmflbdmlfhaaGreatDoorWAF
namespace Go.Proofs.YtahdmflbdmlfhaaGreatDoor

open Go.RowKit

/-- A type written behind others, up to one node more than 300. -/
def OutOk (zs Di zs' : List Nd) : Prop := ((zs ++ Di).length ≤ 300 → zs' = zs ++ Di) ∧ (300 < (zs ++ Di).length → 300 < zs'.length) ∧ zs'.length ≤ 301

theorem OutOk.small {zs Di zs' : List Nd} (h : OutOk zs Di zs') (hl : zs'.length ≤ 300) : zs' = zs ++ Di := by
  by_cases h9 : (zs ++ Di).length ≤ 300
  · exact h.1 h9
  · have := h.2.1 (by omega)
    omega

theorem OutOk.large {zs Di zs' : List Nd} (h : OutOk zs Di zs') (hl : 300 < zs'.length) : 300 < (zs ++ Di).length := by
  by_cases h9 : (zs ++ Di).length ≤ 300
  · rw [h.1 h9] at hl
    omega
  · omega

theorem flat_take {D : Nat → List Nd} {kk : List Nat} {j : Nat} (hj : j < kk.length) : (kk.take (j + 1)).flatMap D = (kk.take j).flatMap D ++ D kk[j] := by
  rw [List.take_succ_eq_append_getElem hj, List.flatMap_append]
  simp

theorem flat_le {D : Nat → List Nd} (kk : List Nat) (j : Nat) : ((kk.take j).flatMap D).length ≤ (kk.flatMap D).length := by
  have h9 : kk.flatMap D = (kk.take j).flatMap D ++ (kk.drop j).flatMap D := by rw [← List.flatMap_append, List.take_append_drop]
  rw [h9, List.length_append]
  omega

theorem Sto.off {S : Nat → Prop} {w w' : World} {B g c : Nat} {st : List SK} {ka : Nat → Option Addr × Nat} {lk : Nat → Option Nat} {mk : Nat → Int} (h : Sto w B g c st ka lk mk) (hb : But S w w') (hg : ∀ q, S q → g ≠ q) (hk : ∀ q, S q → KOff st ka q) : Sto w' B g c st ka lk mk := by
  have h1 := h.toV.but hb (fun q hq e => by simp only [Value.ownBlock, Option.some.injEq] at e; exact hg q hq e) hk
  refine ⟨h1.own, fun i k hk => ?_⟩
  obtain ⟨b, o, e1, e2, e3⟩ := h1.kids i k hk
  exact ⟨b, o, e1, fun e => e2 (by rw [e]; rfl), e3⟩

theorem but_far {w a b : World} {x y : Nat} (h : But (fun i => i = x) w a) (h2 : But (fun i => i = y) a b) (hy : y = x ∨ w.heap.size ≤ y) : But (fun i => i = x) w b := by
  refine ⟨h2.os.trans h.os, h2.tape.trans h.tape, h2.output.trans h.output, Nat.le_trans h.size h2.size, fun i hi hne => ?_⟩
  have := h.size
  exact (h2.block i (by omega) (by omega)).trans (h.block i hi hne)

theorem sbox {w : World} {y : Nat} {a b c d e f : Value} (h : w.heap[y]? = some (.cells #[a, b, c, d, e, f] 83 (0, 0))) : w.cell? ⟨y, 0, none⟩ = some a ∧ w.cell? ⟨y, 1, none⟩ = some b ∧ w.cell? ⟨y, 2, none⟩ = some c ∧ w.cell? ⟨y, 3, none⟩ = some d := by
  refine ⟨?_, ?_, ?_, ?_⟩ <;> (rw [cell_of_row _ _ _ _ _ _ h]; rfl)

theorem zero_box {w : World} {y : Nat} {a b c d e f : Value} (h : w.heap[y]? = some (.cells #[a, b, c, d, e, f] 83 (0, 0))) : w.cell? ⟨y, 0, none⟩ = some a ∧ w.cell? ⟨y, 1, none⟩ = some b ∧ w.cell? ⟨y, 2, none⟩ = some c ∧ w.cell? ⟨y, 3, none⟩ = some d ∧ w.cell? ⟨y, 4, none⟩ = some e ∧ w.cell? ⟨y, 5, none⟩ = some f ∧ w.frozen? ⟨y, 0, none⟩ = false ∧ w.frozen? ⟨y, 1, none⟩ = false ∧ w.frozen? ⟨y, 2, none⟩ = false ∧ w.frozen? ⟨y, 3, none⟩ = false ∧ w.frozen? ⟨y, 4, none⟩ = false ∧ w.frozen? ⟨y, 5, none⟩ = false := by
  refine ⟨?_, ?_, ?_, ?_, ?_, ?_, frozen_of_row w y 0 _ 83 h, frozen_of_row w y 1 _ 83 h, frozen_of_row w y 2 _ 83 h, frozen_of_row w y 3 _ 83 h, frozen_of_row w y 4 _ 83 h, frozen_of_row w y 5 _ 83 h⟩ <;> (rw [cell_of_row _ _ _ _ _ _ h]; rfl)

theorem box6 {w : World} {y : Nat} {a b c d e f a' b' c' d' e' f' : Value} (h : w.heap[y]? = some (.cells #[a, b, c, d, e, f] 83 (0, 0))) : ((((((w.setCell ⟨y, 0, none⟩ a').setCell ⟨y, 1, none⟩ b').setCell ⟨y, 2, none⟩ c').setCell ⟨y, 3, none⟩ d').setCell ⟨y, 4, none⟩ e').setCell ⟨y, 5, none⟩ f').heap[y]? = some (.cells #[a', b', c', d', e', f'] 83 (0, 0)) := by
  have h1 := heap_setCell_same w y 0 _ 83 a' h
  have h2 := heap_setCell_same _ y 1 _ 83 b' h1
  have h3 := heap_setCell_same _ y 2 _ 83 c' h2
  have h4 := heap_setCell_same _ y 3 _ 83 d' h3
  have h5 := heap_setCell_same _ y 4 _ 83 e' h4
  have h6 := heap_setCell_same _ y 5 _ 83 f' h5
  exact h6

theorem but6 (w : World) (y : Nat) (a' b' c' d' e' f' : Value) : But (fun i => i = y) w ((((((w.setCell ⟨y, 0, none⟩ a').setCell ⟨y, 1, none⟩ b').setCell ⟨y, 2, none⟩ c').setCell ⟨y, 3, none⟩ d').setCell ⟨y, 4, none⟩ e').setCell ⟨y, 5, none⟩ f') :=
  ((((((But.refl (fun i => i = y) w).setCell (p := ⟨y, 0, none⟩) rfl _).setCell (p := ⟨y, 1, none⟩) rfl _).setCell (p := ⟨y, 2, none⟩) rfl _).setCell (p := ⟨y, 3, none⟩) rfl _).setCell (p := ⟨y, 4, none⟩) rfl _).setCell (p := ⟨y, 5, none⟩) rfl _

theorem outA {w1 w5 : World} {z : Nat} {a b c d e f : Value} (h : Below w1.heap.size w1 w5) (hz : z < w5.heap.size) : ∃ y, Value.pointer (some ⟨w5.heap.size, 0, none⟩) = Value.pointer (some ⟨y, 0, none⟩) ∧ (w5.alloc (.cells #[a, b, c, d, e, f] 83)).heap[y]? = some (.cells #[a, b, c, d, e, f] 83 (0, 0)) ∧ Below w1.heap.size w1 (w5.alloc (.cells #[a, b, c, d, e, f] 83)) ∧ z < y :=
  ⟨w5.heap.size, rfl, heap_alloc_new _ _, h.alloc h.size _, hz⟩

theorem outB {w1 w5 : World} {z : Nat} {a b c d e f a' b' c' d' e' f' : Value} (h : Below w1.heap.size w1 w5) (hs : w1.heap.size = z + 1) (hz : w5.heap[z + 1]? = some (.cells #[a', b', c', d', e', f'] 83 (0, 0))) : ∃ y, Value.pointer (some ⟨z + 1, 0, none⟩) = Value.pointer (some ⟨y, 0, none⟩) ∧ ((((((w5.setCell ⟨z + 1, 0, none⟩ a).setCell ⟨z + 1, 1, none⟩ b).setCell ⟨z + 1, 2, none⟩ c).setCell ⟨z + 1, 3, none⟩ d).setCell ⟨z + 1, 4, none⟩ e).setCell ⟨z + 1, 5, none⟩ f).heap[y]? = some (.cells #[a, b, c, d, e, f] 83 (0, 0)) ∧ Below w1.heap.size w1 ((((((w5.setCell ⟨z + 1, 0, none⟩ a).setCell ⟨z + 1, 1, none⟩ b).setCell ⟨z + 1, 2, none⟩ c).setCell ⟨z + 1, 3, none⟩ d).setCell ⟨z + 1, 4, none⟩ e).setCell ⟨z + 1, 5, none⟩ f) ∧ z < y :=
  ⟨z + 1, rfl, box6 hz, h.trans ((but6 w5 (z + 1) _ _ _ _ _ _).below h.size (fun q hq => by omega)), by omega⟩

set_option maxRecDepth 100000 in
set_option maxHeartbeats 4000000 in
theorem out_any (st : List SK) (n : Nat) (HL : Hid (st.length = n)) (hn : n ≤ 1048576) (ka : Nat → Option Addr × Nat) (HK : Hid (Sts st)) (lk : Nat → Option Nat) (mk : Nat → Int) (rk : Nat → Nat) (HR : Hid (Ranked st lk rk)) (HG : Hid (∀ i j, lk i = some j → i < st.length ∧ j < st.length)) (D : Nat → List Nd) (HD : Hid (IsD st lk D)) (Bs g c : Nat) (wk : Int) (B : Nat) (HOFF : Hid (∀ q, B ≤ q → g ≠ q ∧ KOff st ka q)) :
    ∀ (N : Nat) (i : Nat), rk i = N → i < n → ∀ (zs : List Nd) (go lo co : Nat) (w : World), lo ≤ 301 → Sto w Bs g c st ka lk mk → OwnN w B go co lo zs →
      Calls Tryz.prog 38 #[.agg #[.slice (some ⟨g, 0, none⟩) n c, .int .i64 wk], .int .i64 (i : Int), .slice (some ⟨go, 0, none⟩) lo co] w fun e w' => ∃ (g' l' c' : Nat) (zs' : List Nd), e = .returned (.slice (some ⟨g', 0, none⟩) l' c') ∧ OwnN w' B g' c' l' zs' ∧ OutOk zs (D i) zs' ∧ But (fun q => q = go) w w' ∧ (g' = go ∨ w.heap.size ≤ g') := by
  have _ := hn
  obtain ⟨i0, hi0, hz0, hz1, hz2⟩ := info_parts Tryz.infoN
  intro N
  induction N using Nat.strongRecOn with
  | ind N ih =>
  have IH : Hid _ := ih
  clear ih
  intro i hri hi zs go lo co w hlo hS hO
  obtain ⟨r, hr⟩ := HR.out.rt i
  have hrn : r < n := by
    have h9 : ∀ {i r}, Rt lk i r → i < n → r < n := by
      intro i r h
      induction h using Rt.elim with
      | root _ => exact fun h => h
      | step h1 _ ih => exact fun _ => ih (by have := (HG.out _ _ h1).2; have := HL.out; omega)
    exact h9 hr hi
  have hgo := owns_block hO.2
  obtain ⟨z, hz⟩ : ∃ z, w.heap.size = z := ⟨_, rfl⟩
  have HS : Hid (Sto w Bs g c st ka lk mk) := hS
  have HO : Hid (OwnN w B go co lo zs) := hO
  have hgw := hS.block
  clear hS hO
  go_enter Tryz.func38, Tryz.ntmps38
  by_cases h300 : lo > 300
  · have hB1 : Below w.heap.size w (w.alloc (.cells #[.slice (some ⟨g, 0, none⟩) n c, .int .i64 wk] 50)) := (Below.refl _ w).alloc (Nat.le_refl _) _
    have HRES : Hid (OwnN (w.alloc (.cells #[.slice (some ⟨g, 0, none⟩) n c, .int .i64 wk] 50)) B go co lo zs ∧ OutOk zs (D i) zs ∧ But (fun q => q = go) w (w.alloc (.cells #[.slice (some ⟨g, 0, none⟩) n c, .int .i64 wk] 50))) := by
      have h9 := HO.out.1
      exact ⟨⟨HO.out.1, HO.out.2.alloc _⟩, ⟨fun h => by rw [List.length_append] at h; omega, fun _ => by omega, by omega⟩, But.ofBelow hB1⟩
    go_wp2
    go_ret
    exact ⟨go, lo, co, zs, rfl, HRES.out.1, HRES.out.2.1, HRES.out.2.2, .inl rfl⟩
  · have hA : Below w.heap.size w (w.alloc (.cells #[.slice (some ⟨g, 0, none⟩) n c, .int .i64 wk] 50)) := (Below.refl _ w).alloc (Nat.le_refl _) _
    have hzb : (w.alloc (.cells #[.slice (some ⟨g, 0, none⟩) n c, .int .i64 wk] 50)).heap[z]? = some (.cells #[.slice (some ⟨g, 0, none⟩) n c, .int .i64 wk] 50 (0, 0)) := by rw [← hz]; exact heap_alloc_new _ _
    obtain ⟨w1, hw1⟩ : ∃ w1, w.alloc (.cells #[.slice (some ⟨g, 0, none⟩) n c, .int .i64 wk] 50) = w1 := ⟨_, rfl⟩
    rw [hw1] at hA hzb
    have hrk : rk r ≤ rk i := by
      have h9 : ∀ {i r}, Rt lk i r → rk r ≤ rk i := by
        intro i r h
        induction h using Rt.elim with
        | root _ => exact Nat.le_refl _
        | step h1 _ ih => have := HR.out.link _ _ h1; omega
      exact h9 hr
    have hlr : lk r = none := hr.is_root
    have HDI : Hid (D i = (sk st r).kids.flatMap D ++ [(sk st r).node]) := by
      show D i = _
      rw [HD.out.rt hr, HD.out.node hlr]
    have hs1 : w1.heap.size = z + 1 := by rw [← hw1]; simp [hz]
    obtain ⟨kl, hkl⟩ : ∃ kl, (sk st r).kids.length = kl := ⟨_, rfl⟩
    have HKL : Hid ((sk st r).kids.length = kl) := hkl
    have hkl6 : kl ≤ 6000 := by have := HK.out.few r; omega
    obtain ⟨x0, x1, x2, x3, hzl⟩ := box_cells hzb
    clear x2 x3
    have HCALL : Hid (∀ W, Below w1.heap.size w1 W → Calls Tryz.prog 35 #[.agg #[.slice (some ⟨g, 0, none⟩) n c, .int .i64 wk], .int .i64 (i : Int)] W fun e w' => e = .returned (.int .i64 (r : Int)) ∧ Below W.heap.size W w') := by
      intro W hW
      exact find_any st n HL ka lk mk rk HR HG Bs g c wk W ((HS.out.below hA).below hW) i r hi hr
    have hdrew : Below w1.heap.size w1 w1.drew := ⟨rfl, rfl, rfl, Nat.le_refl _, fun _ _ => rfl⟩
    have HDE : Hid (∀ W, Below w1.heap.size w1 W → (W.cell? ⟨g, r * 6, none⟩ = some (.int .i64 (sk st r).kind) ∧ W.cell? ⟨g, r * 6 + 1, none⟩ = some (.int .i64 (sk st r).num) ∧ W.cell? ⟨g, r * 6 + 2, none⟩ = some (.string (sk st r).text) ∧ W.cell? ⟨g, r * 6 + 3, none⟩ = some (.slice (ka r).1 kl (ka r).2) ∧ W.cell? ⟨g, r * 6 + 4, none⟩ = some (.int .i64 (lkv (lk r))) ∧ W.cell? ⟨g, r * 6 + 5, none⟩ = some (.int .i64 (mk r)) ∧ g < W.heap.size ∧ W.cell? ⟨z, 0, none⟩ = some (.slice (some ⟨g, 0, none⟩) n c) ∧ W.cell? ⟨z, 1, none⟩ = some (.int .i64 wk) ∧ z < W.heap.size)) := by
      intro W hW
      have hS9 := (HS.out.below hA).below hW
      have hr9 : r < st.length := by have := HL.out; omega
      refine ⟨?_, ?_, ?_, ?_, ?_, ?_, hS9.block.2, (hW.cell (p := ⟨z, 0, none⟩) hzl).trans x0, (hW.cell (p := ⟨z, 1, none⟩) hzl).trans x1, by have := hW.size; omega⟩
      · have h9 := hS9.cell r 0 hr9 (by omega)
        rw [Nat.add_zero] at h9
        rw [h9]; rfl
      · rw [hS9.cell r 1 hr9 (by omega)]; rfl
      · rw [hS9.cell r 2 hr9 (by omega)]; rfl
      · rw [hS9.cell r 3 hr9 (by omega)]; simp [snode, HKL.out]
      · rw [hS9.cell r 4 hr9 (by omega)]; rfl
      · rw [hS9.cell r 5 hr9 (by omega)]; rfl
    have hd1 : Below w1.heap.size w1 (w1.alloc (.cells #[.int .i64 0, .int .i64 0, .string ⟨#[]⟩, .slice none 0 0, .int .i64 0, .int .i64 0] 83)) := (Below.refl _ w1).alloc (Nat.le_refl _) _
    have hdrew2 : Below w1.heap.size w1 (w1.alloc (.cells #[.int .i64 0, .int .i64 0, .string ⟨#[]⟩, .slice none 0 0, .int .i64 0, .int .i64 0] 83)).drew := Below.step hd1 ⟨rfl, rfl, rfl, Nat.le_refl _, fun _ _ => rfl⟩
    have HZB : Hid (∀ W, Below (w1.alloc (.cells #[.int .i64 0, .int .i64 0, .string ⟨#[]⟩, .slice none 0 0, .int .i64 0, .int .i64 0] 83)).drew.heap.size (w1.alloc (.cells #[.int .i64 0, .int .i64 0, .string ⟨#[]⟩, .slice none 0 0, .int .i64 0, .int .i64 0] 83)).drew W → W.heap[z + 1]? = some (.cells #[.int .i64 0, .int .i64 0, .string ⟨#[]⟩, .slice none 0 0, .int .i64 0, .int .i64 0] 83 (0, 0)) ∧ z + 1 < W.heap.size) := by
      intro W hW
      have h9 := (hW.block w1.heap.size (by show w1.heap.size < (w1.alloc _).heap.size; simp)).trans (heap_alloc_new w1 _)
      rw [hs1] at h9
      exact ⟨h9, (Array.getElem?_eq_some_iff.1 h9).1⟩
    clear hkl hd1
    go_wp2_with fail
    go_cut [7] from 13 to 19 (fun v wx => ∃ y, v = .pointer (some ⟨y, 0, none⟩) ∧ wx.heap[y]? = some (.cells #[.int .i64 (sk st r).kind, .int .i64 (sk st r).num, .string (sk st r).text, .slice (ka r).1 kl (ka r).2, .int .i64 (lkv (lk r)), .int .i64 (mk r)] 83 (0, 0)) ∧ Below w1.heap.size w1 wx ∧ z < y)
    case first =>
      clear HS HO IH hA HL HK HR HG HD HDI hrk hlr HOFF hr hri hgo hgw hi hlo h300 HKL hzb
      go_region_with (go_at_call 35; first | (refine (HCALL.out w1.drew hdrew).mono ?_; rintro e w5 ⟨rfl, hb5⟩; have hbb5 := Below.step hdrew hb5; obtain ⟨d0, d1, d2, d3, d4, d5, d6, d7, d8, d9⟩ := HDE.out w5 hbb5) | (refine (HCALL.out _ hdrew2).mono ?_; rintro e w5 ⟨rfl, hb5⟩; have hbb5 := Below.step hdrew2 hb5; obtain ⟨d0, d1, d2, d3, d4, d5, d6, d7, d8, d9⟩ := HDE.out w5 hbb5; obtain ⟨hzz5, hzl5⟩ := HZB.out w5 hb5; obtain ⟨q0, q1, q2, q3, q4, q5, q6, q7, q8, q9, q10, q11⟩ := zero_box hzz5))
      all_goals (try go_wp2_with fail)
      all_goals go_meet
      all_goals first
        | exact outB hbb5 hs1 hzz5
        | exact outA hbb5 d9
    case rest =>
      obtain ⟨y, rfl, hyb, hbw1, hzy⟩ := hcut
      have hSc := (HS.out.below hA).below hbw1
      have hbwc : But (fun q => q = go) w wc := But.ofBelow (Below.step hA hbw1)
      have hOc : OwnN wc B go co lo zs := ⟨HO.out.1, owns_but (S := fun _ => False) HO.out.2 (But.ofBelow (Below.step hA hbw1)) (fun h => h)⟩
      have hzc := (hbw1.block z hzl).trans hzb
      have hyl : y < wc.heap.size := (Array.getElem?_eq_some_iff.1 hyb).1
      have hgoz : go < z := by omega
      clear HZB HDE HCALL hdrew hdrew2 x0 x1 hzb hA hbw1
      go_wp2
      go_loopw [2, 8] (fun vo vk wr => ∃ (k go' lo' co' : Nat) (zs' : List Nd), k ≤ kl ∧ vk = .int .i64 (k : Int) ∧ vo = .slice (some ⟨go', 0, none⟩) lo' co' ∧ lo' ≤ 300 ∧ OwnN wr B go' co' lo' zs' ∧ zs' = zs ++ ((sk st r).kids.take k).flatMap D ∧ But (fun q => q = go) w wr ∧ (go' = go ∨ y < go') ∧ Sto wr Bs g c st ka lk mk ∧ wr.heap[z]? = some (.cells #[.slice (some ⟨g, 0, none⟩) n c, .int .i64 wk] 50 (0, 0)) ∧ wr.heap[y]? = some (.cells #[.int .i64 (sk st r).kind, .int .i64 (sk st r).num, .string (sk st r).text, .slice (ka r).1 kl (ka r).2, .int .i64 (lkv (lk r)), .int .i64 (mk r)] 83 (0, 0))) (fun _ vk _ => kl - (intOf vk).toNat)
      case atStart => exact ⟨0, go, lo, co, zs, Nat.zero_le _, rfl, rfl, by omega, hOc, by simp, hbwc, .inl rfl, hSc, hzc, hyb⟩
      case round =>
        clear hSc hbwc hOc hzc hyl hyb
        obtain ⟨k, go', lo', co', zs', hk, rfl, rfl, hlo', hO, hzs', hbr, hgo', hSr, hbx, hyb⟩ := hrel
        obtain ⟨b0, b1, b2, b3, hzr⟩ := box_cells hbx
        clear b2 b3
        obtain ⟨y0, y1, y2, y3⟩ := sbox hyb
        have hyl : y < wr.heap.size := (Array.getElem?_eq_some_iff.1 hyb).1
        by_cases hkk : k < kl
        · have hkx : k < (sk st r).kids.length := by have := HKL.out; omega
          obtain ⟨kb, ko, hka, hkg, hkc⟩ := hSr.kids r k hkx
          obtain ⟨x, hx⟩ : ∃ x, (sk st r).kids[k] = x := ⟨_, rfl⟩
          rw [hx] at hkc
          rw [hka] at y3
          have hkbl : kb < wr.heap.size := lt_of_cell hkc
          have hxm : x ∈ (sk st r).kids := by rw [← hx]; exact List.getElem_mem hkx
          have hxr : x < r := HK.out.kids r x hxm
          obtain ⟨kc, hkc9⟩ : ∃ kc, (ka r).2 = kc := ⟨_, rfl⟩
          rw [hkc9] at y3
          have hzz' := hO.1
          have hgB := owns_block hO.2
          have HCALL : Hid (∀ W, Below wr.heap.size wr W → Calls Tryz.prog 38 #[.agg #[.slice (some ⟨g, 0, none⟩) n c, .int .i64 wk], .int .i64 (x : Int), .slice (some ⟨go', 0, none⟩) lo' co'] W fun e w' => ∃ (g5 l5 c5 : Nat) (zs5 : List Nd), e = .returned (.slice (some ⟨g5, 0, none⟩) l5 c5) ∧ OwnN w' B g5 c5 l5 zs5 ∧ OutOk zs' (D x) zs5 ∧ But (fun q => q = go') wr w' ∧ (g5 = go' ∨ wr.heap.size ≤ g5)) := by
            intro W hW
            refine (IH.out (rk x) (by have := HR.out.kid r hlr x hxm; omega) x rfl (by omega) zs' go' lo' co' W (by omega) (hSr.below hW) (hO.below hW)).mono ?_
            rintro e w' ⟨g5, l5, c5, zs5, rfl, h1, h2, h3, h4⟩
            exact ⟨g5, l5, c5, zs5, rfl, h1, h2, (But.ofBelow hW).trans h3, h4.imp id (fun h => Nat.le_trans hW.size h)⟩
          have HT : Hid (((sk st r).kids.take (k + 1)).flatMap D = ((sk st r).kids.take k).flatMap D ++ D x) := by
            have h9 := flat_take (D := D) hkx
            rw [hx] at h9
            exact h9
          have HZS : Hid (zs' = zs ++ ((sk st r).kids.take k).flatMap D) := hzs'
          have HBR : Hid (But (fun q => q = go) w wr) := hbr
          have HSR : Hid (Sto wr Bs g c st ka lk mk) := hSr
          have HBX : Hid (wr.heap[z]? = some (.cells #[.slice (some ⟨g, 0, none⟩) n c, .int .i64 wk] 50 (0, 0))) := hbx
          have HYB : Hid (wr.heap[y]? = some (.cells #[.int .i64 (sk st r).kind, .int .i64 (sk st r).num, .string (sk st r).text, .slice (ka r).1 kl (ka r).2, .int .i64 (lkv (lk r)), .int .i64 (mk r)] 83 (0, 0))) := hyb
          have hdrew : Below wr.heap.size wr wr.drew := ⟨rfl, rfl, rfl, Nat.le_refl _, fun _ _ => rfl⟩
          clear hzs' hbr hSr hbx hyb hx hO hzz' hkc9
          go_wp2_with fail
          go_cut [2] from 27 to 34 (fun v wx => ∃ (g5 l5 c5 : Nat) (zs5 : List Nd), v = .slice (some ⟨g5, 0, none⟩) l5 c5 ∧ OwnN wx B g5 c5 l5 zs5 ∧ OutOk zs' (D x) zs5 ∧ But (fun q => q = go') wr wx ∧ (g5 = go' ∨ wr.heap.size ≤ g5))
          case first =>
            clear HT HZS HBR HSR HBX HYB HS HO IH HL HK HR HG HD HOFF
            go_region_with (go_at_call 38; refine (HCALL.out wr.drew hdrew).mono ?_; rintro e w5 ⟨g5, l5, c5, zs5, rfl, hm1, hm2, hm3, hm4⟩)
            all_goals (try go_wp2_with fail)
            all_goals go_meet
            all_goals exact ⟨g5, l5, c5, zs5, rfl, hm1, hm2, hm3, hm4⟩
          case rest =>
            obtain ⟨g5, l5, c5, zs5, rfl, hO5, hok5, hb5, hg5⟩ := hcut
            have hbw : But (fun q => q = go) w wc := but_far HBR.out hb5 (by omega)
            have hne5 : ∀ q, q < wr.heap.size → q = z ∨ q = y → q ≠ go' := by intro q h1 h2; omega
            have hbx5 := (hb5.block z hzr (hne5 z hzr (.inl rfl))).trans HBX.out
            have hyb5 := (hb5.block y hyl (hne5 y hyl (.inr rfl))).trans HYB.out
            have hS5 := HSR.out.off hb5 (fun q hq => (HOFF.out q (by omega)).1) (fun q hq => (HOFF.out q (by omega)).2)
            have hl5 := hO5.1
            have h301 := hok5.2.2
            clear HCALL hdrew b0 b1 y0 y1 y2 y3 hkc HBX HYB hb5 HSR
            by_cases h5 : l5 > 300
            · have HRES : Hid (OutOk zs (D i) zs5) := by
                have h8 := hok5.large (by omega)
                have h7 := flat_le (D := D) (sk st r).kids (k + 1)
                have h6 : (D i).length = ((sk st r).kids.flatMap D).length + 1 := by rw [HDI.out]; simp
                rw [HT.out, List.length_append] at h7
                rw [HZS.out] at h8
                simp only [List.length_append] at h8
                refine ⟨fun h => ?_, fun _ => by omega, h301⟩
                rw [List.length_append] at h
                omega
              clear hbx5 hyb5 hS5
              go_wp2
              go_ret
              exact ⟨g5, l5, c5, zs5, rfl, hO5, HRES.out, hbw, by have := hbw.size; have := HBR.out.size; omega⟩
            · have HE : Hid (zs5 = zs ++ ((sk st r).kids.take (k + 1)).flatMap D) := by
                have h8 := hok5.small (by omega)
                show zs5 = _
                rw [h8, HZS.out, HT.out, List.append_assoc]
              go_wp2
              go_roundw
              case rel => exact ⟨k + 1, g5, l5, c5, zs5, by omega, by go_num, rfl, by omega, hO5, HE.out, hbw, by omega, hS5, hbx5, hyb5⟩
              case measure => simp [intOf]; omega
        · have hke : k = kl := by omega
          subst hke
          have HFIN : Hid (zs' ++ [(sk st r).node] = zs ++ D i) := by
            show zs' ++ _ = _
            rw [hzs', HDI.out, List.take_of_length_le (by have := HKL.out; omega), List.append_assoc]
          have hln := hO.1
          have hgB := owns_block hO.2
          have hBw : B ≤ wr.heap.size := by omega
          have HBR : Hid (But (fun q => q = go) w wr) := hbr
          have HE : Hid (OutOk zs (D i) (zs' ++ [(sk st r).node])) := by
            have h9 := congrArg List.length HFIN.out
            refine ⟨fun _ => HFIN.out, fun h => by rw [h9]; exact h, ?_⟩
            rw [List.length_append]
            simp
            omega
          have HN : Hid ((sk st r).node.row = [.int .i64 (sk st r).kind, .int .i64 (sk st r).num, .string (sk st r).text, .int .i64 (k : Int), .int .i64 0]) := by
            show Nd.row _ = _
            simp [Nd.row, SK.node, HKL.out]
          have hcells := nd_new_cells wr (⟨(sk st r).kind, (sk st r).num, (sk st r).text, (k : Int), 0⟩ : Nd)
          simp only [Nd.row] at hcells
          clear hzs' hbr hSr hbx
          go_wp2_with (at_builtin; refine wpList_append2 _ rfl (.tmp 39) (.tmp 50) 29 rfl B 40 i0 _ 5 48 Tryz.underlying29 hi0 hz0 hz1 hz2 rfl (by decide) go' lo' co' _ rfl (hO.alloc _).2 ⟨_, 0, none⟩ 1 1 [.int .i64 (sk st r).kind, .int .i64 (sk st r).num, .string (sk st r).text, .int .i64 (k : Int), .int .i64 0] rfl rfl hcells (by rw [← HN.out]; exact nd_row_one _) ?a3 ?a4 ?a5 ?_)
          case a3 => unfold maxLen; omega
          case a4 => omega
          case a5 => simp only [World.size_alloc]; omega
          intro g5 c5 w5 hown5 hgrow5 hwh5
          rw [← HN.out] at hown5
          have hO5 := OwnN.push hown5 hln rfl
          have hb5 : But (fun q => q = go') wr w5 := (But.ofBelow ((Below.refl _ wr).alloc (Nat.le_refl _) _)).trans ((but_grown hgrow5).mono (fun i e => by simp only [Option.some.injEq] at e; exact e.symm))
          have hbw : But (fun q => q = go) w w5 := but_far HBR.out hb5 (by omega)
          have hw5 : g5 = go ∨ w.heap.size ≤ g5 := by
            have := HBR.out.size
            rcases hwh5 with h | h <;> (try simp only [World.size_alloc] at h) <;> omega
          clear hown5 hgrow5 hwh5 hcells hb5
          go_wp2
          go_ret
          exact ⟨g5, lo' + 1, c5, _, rfl, hO5, HE.out, hbw, hw5⟩

end Go.Proofs.YtahdmflbdmlfhaaGreatDoor
