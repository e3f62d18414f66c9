import Derived.Test.YtoiiibplkhedcaaGreatDoorUInside
set_option maxRecDepth 100000
set_option maxHeartbeats 4000000
namespace Go.Proofs.YtoiiibplkhedcaaGreatDoor
open Go.RowKit
def URes (st : List SK) (ka : Nat → Option Addr × Nat) (lk : Nat → Option Nat) (B g c : Nat) (wk : Int) (a b : Nat) (w : World) (wk' : Int) (ok : Bool) (w' : World) : Prop :=
  But (· = g) w w' ∧ (ok = true → ∃ lk' mk', Sto w' B g c st ka lk' mk' ∧ UOk st lk a b lk' ∧ (∀ m, mk' m ≤ wk') ∧ wk ≤ wk' ∧ wk' + unl st lk' ≤ wk + unl st lk) ∧ (ok = false → UNo st lk a b)
theorem URes.back {st : List SK} {ka : Nat → Option Addr × Nat} {lk : Nat → Option Nat} {B g c : Nat} {wk : Int} {a b : Nat} {w W : World} {wk' : Int} {ok : Bool} {w' : World} (h : URes st ka lk B g c wk a b W wk' ok w') (hb : Below w.heap.size w W) : URes st ka lk B g c wk a b w wk' ok w' :=
  ⟨(But.ofBelow hb).trans h.1, h.2⟩
theorem Rt.lt {lk : Nat → Option Nat} {n i q : Nat} (h : Rt lk i q) (hg : ∀ i j, lk i = some j → i < n ∧ j < n) (hi : i < n) : q < n := by
  induction h using Rt.elim with
  | root _ => exact hi
  | step h1 _ ih => exact ih (hg _ _ h1).2
theorem Qqc (w : World) (z : Nat) (u v u' v' : Value) (t : TypeId) (h : w.heap[z]? = some (.cells #[u, v] t (0, 0))) : ((w.setCell ⟨z, 0, none⟩ u').setCell ⟨z, 1, none⟩ v').heap[z]? = some (.cells #[u', v'] t (0, 0)) := by
  have h1 := heap_setCell_same w z 0 _ t u' h
  have h2 := heap_setCell_same _ z 1 _ t v' h1
  exact h2
theorem Qbn {w : World} {z : Nat} {u v : Value} {t : TypeId} (h : w.heap[z]? = some (.cells #[u, v] t (0, 0))) : w.cell? ⟨z, 0, none⟩ = some u ∧ w.cell? ⟨z, 1, none⟩ = some v := by
  constructor
  · rw [cell_of_row _ _ _ _ _ _ h]; rfl
  · rw [cell_of_row _ _ _ _ _ _ h]; rfl
theorem But.setNew {S : Nat → Prop} {a w : World} (h : But S a w) {p : Addr} (hp : a.heap.size ≤ p.block) (u : Value) : But S a (w.setCell p u) :=
  ⟨h.os, h.tape, h.output, by simp [World.setCell]; exact h.size, fun i hi hs => (Below.heap_setCell w p u i (fun e => by omega)).trans (h.block i hi hs)⟩
theorem Sto.new {S : Nat → Prop} {w0 w w' : World} {B0 g0 c0 B g c : Nat} {st : List SK} {ka : Nat → Option Addr × Nat} {lk0 lk : Nat → Option Nat} {mk0 mk : Nat → Int} (h0 : Sto w0 B0 g0 c0 st ka lk0 mk0) (h : Sto w B g c st ka lk mk) (hb : But S w w') (hg : ¬ S g) (hS : ∀ q, S q → q = g ∨ w0.heap.size ≤ q) : Sto w' B g c st ka lk mk := by
  refine ⟨Qah h.own hb hg, ?_⟩
  intro i k hk1
  obtain ⟨b, o, e1, e2, e3⟩ := h.kids i k hk1
  obtain ⟨b0, o0, f1, _, f3⟩ := h0.kids i k hk1
  refine ⟨b, o, e1, e2, ?_⟩
  have hlt : b < w.heap.size := Qaa e3
  have hlt0 : b0 < w0.heap.size := Qaa f3
  have eb : b = b0 := by
    rw [e1] at f1
    simp only [Option.some.injEq, Addr.mk.injEq] at f1
    exact f1.1
  have h9 := hb.block b hlt (fun hs => by
    rcases hS b hs with h | h
    · exact e2 h
    · omega)
  unfold World.cell? at e3 ⊢
  rw [h9]
  exact e3
theorem Qfo {w W : World} {z r : Nat} {u v : Value} (hr : W.heap[r]? = some (.cells #[u, v] 78 (0, 0))) (hz : w.heap.size = z) (hzr : z ≤ r) {S : Nat → Prop} (hb : But S w W) (s0 s1 : Value) :
    ((W.setCell ⟨r, 0, none⟩ s0).setCell ⟨r, 1, none⟩ s1).cell? ⟨r, 0, none⟩ = some s0 ∧ ((W.setCell ⟨r, 0, none⟩ s0).setCell ⟨r, 1, none⟩ s1).cell? ⟨r, 1, none⟩ = some s1 ∧
      W.cell? ⟨r, 0, none⟩ = some u ∧ W.cell? ⟨r, 1, none⟩ = some v ∧ W.frozen? ⟨r, 0, none⟩ = false ∧ W.frozen? ⟨r, 1, none⟩ = false ∧ r < W.heap.size ∧
      But (fun q => q = r) W ((W.setCell ⟨r, 0, none⟩ s0).setCell ⟨r, 1, none⟩ s1) ∧ But S w ((W.setCell ⟨r, 0, none⟩ s0).setCell ⟨r, 1, none⟩ s1) := by
  obtain ⟨r0, r1⟩ := Qbn (Qqc W r _ _ s0 s1 78 hr)
  obtain ⟨q0, q1⟩ := Qbn hr
  exact ⟨r0, r1, q0, q1, frozen_of_row W r 0 _ 78 hr, frozen_of_row W r 1 _ 78 hr, (Array.getElem?_eq_some_iff.1 hr).1, ((But.refl (fun q => q = r) W).setCell (p := ⟨r, 0, none⟩) rfl _).setCell (p := ⟨r, 1, none⟩) rfl _,
    (hb.setNew (p := ⟨r, 0, none⟩) (by simp only; omega) _).setNew (p := ⟨r, 1, none⟩) (by simp only; omega) _⟩
theorem set1 {w : World} {z : Nat} {u v v' : Value} {t : TypeId} (h : w.heap[z]? = some (.cells #[u, v] t (0, 0))) : (w.setCell ⟨z, 1, none⟩ v').heap[z]? = some (.cells #[u, v'] t (0, 0)) := heap_setCell_same w z 1 _ t v' h
theorem Qus (st : List SK) (n : Nat) (HL : Hid (st.length = n)) (_hn : n ≤ 1048576) (ka : Nat → Option Addr × Nat) (HK : Hid (Sts st)) (B g c : Nat) :
    ∀ (U N : Nat) (lk : Nat → Option Nat) (mk : Nat → Int) (wk : Int) (a b : Nat) (w : World) (D : Nat → List Nd), unl st lk = U → Hid (IsD st lk D) → (D a).length = N → a < n → b < n → Hid (Inv st lk) → Sto w B g c st ka lk mk → Hid (∀ m, mk m ≤ wk) → 0 ≤ wk → wk + U ≤ 100000000 →
      Calls Tryz.prog 38 #[.agg #[.slice (some ⟨g, 0, none⟩) n c, .int .i64 wk], .int .i64 (a : Int), .int .i64 (b : Int)] w fun e w' => ∃ wk' ok, e = .returned (.tuple #[.agg #[.slice (some ⟨g, 0, none⟩) n c, .int .i64 wk'], .bool ok]) ∧ URes st ka lk B g c wk a b w wk' ok w' := by
  intro U
  induction U using Nat.strongRecOn with
  | ind U ihU =>
  intro N
  induction N using Nat.strongRecOn with
  | ind N ihN =>
  intro lk mk wk a b w D hU HD hN ha hb HI hS HMK hwk hwU
  obtain ⟨rk, hrk⟩ := HI.out.rank
  have HR : Hid (Ranked st lk rk) := hrk
  have HG : Hid (∀ i j, lk i = some j → i < st.length ∧ j < st.length) := HI.out.rng
  have HGn : Hid (∀ i j, lk i = some j → i < n ∧ j < n) := by have h9 := HI.out.rng; rw [HL.out] at h9; exact h9
  obtain ⟨ra, hra⟩ := hrk.rt a
  obtain ⟨rb, hrb⟩ := hrk.rt b
  have HRA : Hid (Rt lk a ra) := hra
  have HRB : Hid (Rt lk b rb) := hrb
  have hran : ra < n := hra.lt HGn.out ha
  have hrbn : rb < n := hrb.lt HGn.out hb
  have hgw := hS.block
  have hA : Below w.heap.size w ((w.alloc (.cells #[.slice (some ⟨g, 0, none⟩) n c, .int .i64 wk] 78)).alloc (.cells #[.slice none 0 0, .int .i64 0] 78)) := ((Below.refl _ w).alloc (Nat.le_refl _) _).alloc (by simp) _
  go_enter Tryz.func38, Tryz.ntmps38
  go_wp2_with fail
  refine (Qjd st n HL ka lk mk rk HR HG B g c wk _ (hS.below hA) a ra ha hra).mono ?_
  rintro e w1 ⟨rfl, hb1⟩
  have hbb1 := Below.step hA hb1
  have hS1 := hS.below hbb1
  have hz : w.heap.size + 1 < w1.heap.size := by have := hb1.size; simp at this; omega
  have hblk : w1.heap[w.heap.size]? = some (.cells #[.slice (some ⟨g, 0, none⟩) n c, .int .i64 wk] 78 (0, 0)) := by
    refine (hb1.block _ (by simp; omega)).trans ?_
    refine (Below.heap_alloc _ _ _ (by simp)).trans ?_
    exact heap_alloc_new _ _
  have hblr : w1.heap[w.heap.size + 1]? = some (.cells #[.slice none 0 0, .int .i64 0] 78 (0, 0)) := by
    refine (hb1.block _ (by simp)).trans ?_
    have h9 := heap_alloc_new (w.alloc (.cells #[.slice (some ⟨g, 0, none⟩) n c, .int .i64 wk] 78)) (.cells #[.slice none 0 0, .int .i64 0] 78)
    rw [World.size_alloc] at h9
    exact h9
  obtain ⟨z, hze⟩ : ∃ z, w.heap.size = z := ⟨_, rfl⟩
  have HZ : Hid (w.heap.size = z) := hze
  rw [hze] at hz hblk hblr ⊢
  have hgz : g < z := by omega
  have x0 : w1.cell? ⟨z, 0, none⟩ = some (.slice (some ⟨g, 0, none⟩) n c) := by rw [cell_of_row _ _ _ _ _ _ hblk]; rfl
  have x1 : w1.cell? ⟨z, 1, none⟩ = some (.int .i64 wk) := by rw [cell_of_row _ _ _ _ _ _ hblk]; rfl
  have HS0 : Hid (Sto w B g c st ka lk mk) := hS
  clear hA hb1 hS hra
  go_wp2_with fail
  refine (Qjd st n HL ka lk mk rk HR HG B g c wk _ hS1 b rb hb hrb).mono ?_
  rintro e w2 ⟨rfl, hb2⟩
  have hbb2 := Below.step hbb1 hb2
  have hS2 := hS1.below hb2
  have hzl2 : z + 1 < w2.heap.size := by have := hb2.size; omega
  have hblk2 := (hb2.block z (by omega)).trans hblk
  have hblr2 := (hb2.block (z + 1) hz).trans hblr
  have y0 : w2.cell? ⟨z, 0, none⟩ = some (.slice (some ⟨g, 0, none⟩) n c) := by rw [cell_of_row _ _ _ _ _ _ hblk2]; rfl
  have y1 : w2.cell? ⟨z, 1, none⟩ = some (.int .i64 wk) := by rw [cell_of_row _ _ _ _ _ _ hblk2]; rfl
  have z0 : w2.cell? ⟨z + 1, 0, none⟩ = some (.slice none 0 0) := by rw [cell_of_row _ _ _ _ _ _ hblr2]; rfl
  have z1 : w2.cell? ⟨z + 1, 1, none⟩ = some (.int .i64 0) := by rw [cell_of_row _ _ _ _ _ _ hblr2]; rfl
  have fr := fun j => frozen_of_row w2 (z + 1) j _ 78 hblr2
  have fr0 := fr 0
  have fr1 := fr 1
  clear hb2 hblk hblr x0 x1 hbb1 hS1 hz hrb fr
  by_cases hab : ra = rb
  · have HOK : Hid (UOk st lk a b lk) := Jcs HI.out HRA.out (by rw [hab]; exact HRB.out)
    have tab : ((ra : Int) == (rb : Int)) = true := by simp; omega
    have hR := Qqc w2 (z + 1) _ _ (.slice (some ⟨g, 0, none⟩) n c) (.int .i64 wk) 78 hblr2
    obtain ⟨r0, r1⟩ := Qbn hR
    have hBut : But (fun q => q = z + 1) w2 ((w2.setCell ⟨z + 1, 0, none⟩ (.slice (some ⟨g, 0, none⟩) n c)).setCell ⟨z + 1, 1, none⟩ (.int .i64 wk)) := ((But.refl (fun q => q = z + 1) w2).setCell (p := ⟨z + 1, 0, none⟩) rfl _).setCell (p := ⟨z + 1, 1, none⟩) rfl _
    have hSR := HS0.out.new hS2 hBut (by omega) (fun q hq => Or.inr (by have := HZ.out; omega))
    have hBR : But (· = g) w ((w2.setCell ⟨z + 1, 0, none⟩ (.slice (some ⟨g, 0, none⟩) n c)).setCell ⟨z + 1, 1, none⟩ (.int .i64 wk)) := ((But.ofBelow hbb2).setNew (p := ⟨z + 1, 0, none⟩) (by have := HZ.out; simp only; omega) _).setNew (p := ⟨z + 1, 1, none⟩) (by have := HZ.out; simp only; omega) _
    clear hblk2 hblr2 hBut hR hS2 hbb2
    go_wp2
    refine bodyPost_ret (v := .tuple #[.agg #[.slice (some ⟨g, 0, none⟩) n c, .int .i64 wk], .bool true]) (by simp [results, Tryz.results38, go_sem, r0, r1]) rfl ?_
    exact ⟨_, _, rfl, hBR, (fun _ => ⟨lk, mk, hSR, HOK.out, HMK.out, by omega, by omega⟩), fun h => by cases h⟩
  · have tab : ((ra : Int) == (rb : Int)) = false := by simp; omega
    have hk0b : w2.cell? ⟨g, rb * 6, none⟩ = some (.int .i64 (sk st rb).kind) := hS2.cell rb 0 (by have := HL.out; omega) (by omega)
    have hk0a : w2.cell? ⟨g, ra * 6, none⟩ = some (.int .i64 (sk st ra).kind) := hS2.cell ra 0 (by have := HL.out; omega) (by omega)
    have hk1b : w2.cell? ⟨g, rb * 6 + 1, none⟩ = some (.int .i64 (sk st rb).num) := hS2.cell rb 1 (by have := HL.out; omega) (by omega)
    have hk1a : w2.cell? ⟨g, ra * 6 + 1, none⟩ = some (.int .i64 (sk st ra).num) := hS2.cell ra 1 (by have := HL.out; omega) (by omega)
    have hg2 : g < w2.heap.size := hS2.block.2
    have hla : lk ra = none := HRA.out.is_root
    have hlb : lk rb = none := HRB.out.is_root
    have HSW : Hid (∀ x y : Nat, (x = ra ∧ y = rb ∨ x = rb ∧ y = ra) → ∀ lk', UOk st lk x y lk' → UOk st lk a b lk') := by
      intro x y hxy lk' h
      rcases hxy with ⟨rfl, rfl⟩ | ⟨rfl, rfl⟩
      · exact h.up HRA.out HRB.out
      · exact h.swap.up HRA.out HRB.out
    have HSN : Hid (∀ x y : Nat, (x = ra ∧ y = rb ∨ x = rb ∧ y = ra) → UNo st lk x y → UNo st lk a b) := by
      intro x y hxy h
      rcases hxy with ⟨rfl, rfl⟩ | ⟨rfl, rfl⟩
      · exact h.up HRA.out HRB.out
      · exact h.swap.up HRA.out HRB.out
    have HDIF : Hid ((sk st ra).kind = 61 → (sk st rb).kind = 61 → (sk st ra).num ≠ (sk st rb).num) := fun h1 h2 h3 => hab (HK.out.one ra rb (by have := HL.out; omega) (by have := HL.out; omega) h1 h2 h3)
    go_wp2_with fail
    obtain ⟨sw, hsw⟩ : ∃ sw, ((sk st rb).kind == 61 && ((sk st ra).kind != 61 || decide ((sk st ra).num < (sk st rb).num))) = sw := ⟨_, rfl⟩
    go_cut [53] from 13 to 52 (fun v wx => v = .bool sw ∧ Below w2.heap.size w2 wx)
    case first =>
      by_cases kb : (sk st rb).kind = 61
      · have tb : ((sk st rb).kind == 61) = true := by simpa using kb
        rw [tb] at hsw
        by_cases ka9 : (sk st ra).kind = 61
        · have ta : ((sk st ra).kind != 61) = false := by simp [ka9]
          rw [ta] at hsw
          by_cases hlt : (sk st ra).num < (sk st rb).num
          · have tl : decide ((sk st ra).num < (sk st rb).num) = true := decide_eq_true hlt
            rw [tl] at hsw
            have hsw2 : sw = true := hsw.symm
            subst hsw2
            clear hsw
            go_quiet (fail)
            (try go_wp2_with fail)
            go_meet
            exact ⟨rfl, Qan _ _⟩
          · have tl : decide ((sk st ra).num < (sk st rb).num) = false := decide_eq_false hlt
            rw [tl] at hsw
            have hsw2 : sw = false := hsw.symm
            subst hsw2
            clear hsw
            go_quiet (fail)
            (try go_wp2_with fail)
            go_meet
            exact ⟨rfl, Qan _ _⟩
        · have ta : ((sk st ra).kind != 61) = true := by simpa using ka9
          rw [ta] at hsw
          have hsw2 : sw = true := by simpa using hsw.symm
          subst hsw2
          clear hsw
          go_quiet (fail)
          (try go_wp2_with fail)
          go_meet
          exact ⟨rfl, Qan _ _⟩
      · have tb : ((sk st rb).kind == 61) = false := by simpa using kb
        rw [tb] at hsw
        have hsw2 : sw = false := hsw.symm
        subst hsw2
        clear hsw
        go_quiet (fail)
        (try go_wp2_with fail)
        go_meet
        exact ⟨rfl, Qan _ _⟩
    case rest =>
    obtain ⟨rfl, hb3⟩ := hcut
    obtain ⟨w3, hw3⟩ : ∃ w3, wc = w3 := ⟨_, rfl⟩
    rw [hw3] at hb3 ⊢
    clear hw3 wc
    go_upto_if 53 with fail
    go_cut [1, 2, 8] from 13 to 56 (fun v1 v2 _ wx => ∃ x y : Nat, v1 = .int .i64 (x : Int) ∧ v2 = .int .i64 (y : Int) ∧ (x = ra ∧ y = rb ∨ x = rb ∧ y = ra) ∧ ((sk st x).kind = 61 ∧ ((sk st y).kind = 61 → (sk st y).num < (sk st x).num) ∨ (sk st x).kind ≠ 61 ∧ (sk st y).kind ≠ 61 ∧ x = ra) ∧ wx = w3)
    case first =>
      cases sw
      · go_wp2_with fail
        go_meet
        refine ⟨ra, rb, rfl, rfl, Or.inl ⟨rfl, rfl⟩, ?_, rfl⟩
        by_cases ka9 : (sk st ra).kind = 61
        · refine Or.inl ⟨ka9, ?_⟩
          intro kb
          have hd := HDIF.out ka9 kb
          simp only [ka9, kb, beq_self_eq_true, Bool.true_and, bne_self_eq_false, Bool.false_or, decide_eq_false_iff_not] at hsw
          omega
        · refine Or.inr ⟨ka9, ?_, rfl⟩
          intro kb
          have ta : ((sk st ra).kind != 61) = true := by simpa using ka9
          rw [ta] at hsw
          simp [kb] at hsw
      · go_wp2_with fail
        go_meet
        refine ⟨rb, ra, rfl, rfl, Or.inr ⟨rfl, rfl⟩, ?_, rfl⟩
        simp only [Bool.and_eq_true, Bool.or_eq_true, beq_iff_eq, decide_eq_true_eq] at hsw
        obtain ⟨kb, h9⟩ := hsw
        refine Or.inl ⟨kb, ?_⟩
        intro ka9
        rcases h9 with h9 | h9
        · simp [ka9] at h9
        · exact h9
    case rest =>
      obtain ⟨x, y, rfl, rfl, hxy, hkd, rfl⟩ := hcut
      have hxn : x < n := by omega
      have hyn : y < n := by omega
      have hne : x ≠ y := by omega
      have hlx : lk x = none := by rcases hxy with ⟨h, _⟩ | ⟨h, _⟩ <;> rw [h] <;> assumption
      have hly : lk y = none := by rcases hxy with ⟨_, h⟩ | ⟨_, h⟩ <;> rw [h] <;> assumption
      have HOK : Hid (∀ lk', UOk st lk x y lk' → UOk st lk a b lk') := HSW.out x y hxy
      have HNO : Hid (UNo st lk x y → UNo st lk a b) := HSN.out x y hxy
      have hS3 := hS2.below hb3
      have hbb3 := Below.step hbb2 hb3
      have hzl3 : z + 1 < wc.heap.size := by have := hb3.size; omega
      have hz3 : z < wc.heap.size := by omega
      have hblk3 := (hb3.block z (by omega)).trans hblk2
      have hblr3 := (hb3.block (z + 1) hzl2).trans hblr2
      have hg3 : g < wc.heap.size := hS3.block.2
      have hxl : x < st.length := by have := HL.out; omega
      have hyl : y < st.length := by have := HL.out; omega
      obtain ⟨x0, x1⟩ := Qbn hblk3
      have fz0 := frozen_of_row wc z 0 _ 78 hblk3
      have fz1 := frozen_of_row wc z 1 _ 78 hblk3
      have d0 : wc.cell? ⟨g, x * 6, none⟩ = some (.int .i64 (sk st x).kind) := hS3.cell x 0 hxl (by omega)
      have d1 : wc.cell? ⟨g, x * 6 + 1, none⟩ = some (.int .i64 (sk st x).num) := hS3.cell x 1 hxl (by omega)
      have d2 : wc.cell? ⟨g, x * 6 + 2, none⟩ = some (.string (sk st x).text) := hS3.cell x 2 hxl (by omega)
      have d3 : wc.cell? ⟨g, x * 6 + 3, none⟩ = some (.slice (ka x).1 (sk st x).kids.length (ka x).2) := hS3.cell x 3 hxl (by omega)
      have d4 : wc.cell? ⟨g, x * 6 + 4, none⟩ = some (.int .i64 (-1)) := by have := hS3.cell x 4 hxl (by omega); rw [hlx] at this; exact this
      have d5 : wc.cell? ⟨g, x * 6 + 5, none⟩ = some (.int .i64 (mk x)) := hS3.cell x 5 hxl (by omega)
      have e0 : wc.cell? ⟨g, y * 6, none⟩ = some (.int .i64 (sk st y).kind) := hS3.cell y 0 hyl (by omega)
      have e1 : wc.cell? ⟨g, y * 6 + 1, none⟩ = some (.int .i64 (sk st y).num) := hS3.cell y 1 hyl (by omega)
      have e2 : wc.cell? ⟨g, y * 6 + 2, none⟩ = some (.string (sk st y).text) := hS3.cell y 2 hyl (by omega)
      have e3 : wc.cell? ⟨g, y * 6 + 3, none⟩ = some (.slice (ka y).1 (sk st y).kids.length (ka y).2) := hS3.cell y 3 hyl (by omega)
      have e4 : wc.cell? ⟨g, y * 6 + 4, none⟩ = some (.int .i64 (-1)) := by have := hS3.cell y 4 hyl (by omega); rw [hly] at this; exact this
      have e5 : wc.cell? ⟨g, y * 6 + 5, none⟩ = some (.int .i64 (mk y)) := hS3.cell y 5 hyl (by omega)
      obtain ⟨kxl, hkxl⟩ : ∃ l, (sk st x).kids.length = l := ⟨_, rfl⟩
      obtain ⟨kyl, hkyl⟩ : ∃ l, (sk st y).kids.length = l := ⟨_, rfl⟩
      obtain ⟨⟨ax, cx⟩, hax⟩ : ∃ p, ka x = p := ⟨_, rfl⟩
      obtain ⟨⟨ay, cy⟩, hay⟩ : ∃ p, ka y = p := ⟨_, rfl⟩
      have HKX : Hid ((sk st x).kids.length = kxl) := hkxl
      have HKY : Hid ((sk st y).kids.length = kyl) := hkyl
      have HAX : Hid (ka x = (ax, cx)) := hax
      have HAY : Hid (ka y = (ay, cy)) := hay
      rw [hkxl, hax] at d3
      rw [hkyl, hay] at e3
      simp only at d3 e3
      have hkx6 : kxl ≤ 6000 := by have := HK.out.few x; omega
      have hky6 : kyl ≤ 6000 := by have := HK.out.few y; omega
      clear hkxl hkyl hax hay
      clear HSW HSN HDIF hb3 hS2 hbb2 hblk2 hblr2 y0 y1 z0 z1 fr0 fr1 hsw hk0a hk0b hk1a hk1b hg2 hzl2 tab
      by_cases hkx : (sk st x).kind = 61
      · have tkx : ((sk st x).kind == 61) = true := by simpa using hkx
        have hbs : But (fun q => q = z) wc (wc.setCell ⟨z, 1, none⟩ (.int .i64 (wk + 1))) := (But.refl (fun q => q = z) wc).setCell (p := ⟨z, 1, none⟩) rfl _
        have hS4 := HS0.out.new hS3 hbs (by omega) (fun q hq => Or.inr (by have := HZ.out; omega))
        have hbk4 := set1 (v' := .int .i64 (wk + 1)) hblk3
        have hbr4 := (hbs.block (z + 1) hzl3 (by omega)).trans hblr3
        have hbw4 : But (· = g) w (wc.setCell ⟨z, 1, none⟩ (.int .i64 (wk + 1))) := (But.ofBelow hbb3).setNew (p := ⟨z, 1, none⟩) (by have := HZ.out; simp only; omega) _
        have hsz4 : (wc.setCell ⟨z, 1, none⟩ (.int .i64 (wk + 1))).heap.size = wc.heap.size := Qak _ _ _
        go_wp2_with fail
        generalize wc.setCell ⟨z, 1, none⟩ (.int .i64 (wk + 1)) = W3 at *
        have hal := ((Below.refl W3.heap.size W3).alloc (Nat.le_refl _) (.cells #[.int .i64 61, .int .i64 (sk st x).num, .string (sk st x).text, .slice ax kxl cx, .int .i64 (-1), .int .i64 (mk x)] 132)).alloc (by simp) (.cells #[.int .i64 (sk st y).kind, .int .i64 (sk st y).num, .string (sk st y).text, .slice ay kyl cy, .int .i64 (-1), .int .i64 (mk y)] 132)
        refine (Qtu st n HL ka lk rk HR HG HK B g c (wk + 1) x hxn (rk y) y rfl hyn mk (fun _ => False) _ (hS4.below hal) (fun m hm => by have := HMK.out m; have hm2 : mk m = wk + 1 := hm; omega) (by show mk x ≠ wk + 1; have := HMK.out x; omega)).mono ?_
        rintro e w5 ⟨b5, rfl, mk5, hS5, hbu5, h51, h52, h53, h54⟩
        have hbw5 : But (· = g) w w5 := (hbw4.trans (But.ofBelow hal)).trans hbu5
        have hk5 : w5.heap[z]? = some (.cells #[.slice (some ⟨g, 0, none⟩) n c, .int .i64 (wk + 1)] 78 (0, 0)) := (hbu5.block z (by have := hal.size; omega) (by omega)).trans ((hal.block z (by omega)).trans hbk4)
        have hr5 : w5.heap[z + 1]? = some (.cells #[.slice none 0 0, .int .i64 0] 78 (0, 0)) := (hbu5.block (z + 1) (by have := hal.size; omega) (by omega)).trans ((hal.block (z + 1) (by omega)).trans hbr4)
        have HM5 : Hid (∀ m, mk5 m ≤ wk + 1) := by
          intro m
          have := HMK.out m
          rcases h52 m with h | h <;> omega
        have hz5 : z < w5.heap.size := (Array.getElem?_eq_some_iff.1 hk5).1
        obtain ⟨u0, u1⟩ := Qbn hk5
        clear hal hS4 hbk4 hbr4 hbw4 hbs hbu5 hsz4
        cases b5
        · obtain ⟨h61, h62, h63⟩ := h54 rfl
          have hnr : ¬ Rch st lk y x := by
            intro hR
            exact h61 (Que h62 hR y (.root hly) (h63 y (.root hly)) x (.root hlx))
          have HOK2 : Hid (UOk st lk a b (upd lk x y)) := HOK.out _ (Jct HI.out hlx hly hne hyl hkx hnr (by
            rcases hkd with h | h
            · exact h.2
            · exact absurd hkx h.1))
          have f4 := hS5.frozen (x * 6 + 4)
          have hg5 : g < w5.heap.size := hS5.block.2
          obtain ⟨v4, hv4⟩ : ∃ v, w5.cell? ⟨g, x * 6 + 4, none⟩ = some v := ⟨_, hS5.cell x 4 hxl (by omega)⟩
          have hS6 := hS5.setLink x y hxl
          have hb6 : But (· = g) w5 (w5.setCell ⟨g, x * 6 + 4, none⟩ (.int .i64 (y : Int))) := (But.refl (· = g) w5).setCell (p := ⟨g, x * 6 + 4, none⟩) rfl _
          have hk6 := (hb6.block z hz5 (by omega)).trans hk5
          have hr6 := (hb6.block (z + 1) (Array.getElem?_eq_some_iff.1 hr5).1 (by omega)).trans hr5
          have hlt := Jbb (b := y) hlx hkx
          have hbw6 : But (· = g) w (w5.setCell ⟨g, x * 6 + 4, none⟩ (.int .i64 (y : Int))) := hbw5.trans hb6
          obtain ⟨r0, r1, q0, q1, f0, f1, hrl, hB1, hB2⟩ := Qfo hr6 HZ.out (by omega) hbw6 (.slice (some ⟨g, 0, none⟩) n c) (.int .i64 (wk + 1))
          have hS7 := HS0.out.new hS6 hB1 (by omega) (fun q hq => Or.inr (by have := HZ.out; omega))
          obtain ⟨u0', u1'⟩ := Qbn hk6
          have HFIN : Hid (URes st ka lk B g c wk a b w (wk + 1) true (((w5.setCell ⟨g, x * 6 + 4, none⟩ (.int .i64 (y : Int))).setCell ⟨z + 1, 0, none⟩ (.slice (some ⟨g, 0, none⟩) n c)).setCell ⟨z + 1, 1, none⟩ (.int .i64 (wk + 1)))) :=
            ⟨hB2, (fun _ => ⟨upd lk x y, mk5, hS7, HOK2.out, HM5.out, by omega, by omega⟩), fun h => by cases h⟩
          obtain ⟨t0, t1⟩ := Qbn hr5
          have ft0 := frozen_of_row w5 (z + 1) 0 _ 78 hr5
          have ft1 := frozen_of_row w5 (z + 1) 1 _ 78 hr5
          have hzr5 : z + 1 < w5.heap.size := (Array.getElem?_eq_some_iff.1 hr5).1
          clear hS5 h51 h52 h53 h54 hbw5 hS6 hb6 hk5 hr5 h61 h62 h63 hnr hbw6 hB1 hB2 hS7 u0' u1' q0 q1 f0 f1 hrl
          go_wp2
          refine bodyPost_ret (v := .tuple #[.agg #[.slice (some ⟨g, 0, none⟩) n c, .int .i64 (wk + 1)], .bool true]) (by simp [results, Tryz.results38, go_sem, r0, r1]) rfl ?_
          exact ⟨_, _, rfl, HFIN.out⟩
        · have HU : Hid (UNo st lk a b) := HNO.out (Qyw HK.out hly hne (h53 rfl))
          obtain ⟨r0, r1, q0, q1, f0, f1, hrl, hB1, hB2⟩ := Qfo hr5 HZ.out (by omega) hbw5 (.slice (some ⟨g, 0, none⟩) n c) (.int .i64 (wk + 1))
          clear hS5 h51 h52 h53 h54 hbw5 hk5 hr5
          go_wp2
          refine bodyPost_ret (v := .tuple #[.agg #[.slice (some ⟨g, 0, none⟩) n c, .int .i64 (wk + 1)], .bool false]) (by simp [results, Tryz.results38, go_sem, r0, r1]) rfl ?_
          exact ⟨_, _, rfl, hB2, (fun h => by cases h), fun _ => HU.out⟩
      · have tkx : ((sk st x).kind == 61) = false := by simpa using hkx
        have hky : (sk st y).kind ≠ 61 := by
          rcases hkd with h | h
          · exact absurd h.1 hkx
          · exact h.2.1
        obtain ⟨r0, r1, q0, q1, f0, f1, hrl, hB1, hB2⟩ := Qfo hblr3 HZ.out (by omega) (But.ofBelow (S := (· = g)) hbb3) (.slice (some ⟨g, 0, none⟩) n c) (.int .i64 wk)
        have rr0 : ∀ o1 o2, ((((wc.setCell ⟨z + 1, 0, none⟩ (.slice (some ⟨g, 0, none⟩) n c)).setCell ⟨z + 1, 1, none⟩ (.int .i64 wk)).alloc o1).alloc o2).cell? ⟨z + 1, 0, none⟩ = some (.slice (some ⟨g, 0, none⟩) n c) := by
          intro o1 o2
          exact ((((Below.refl _ ((wc.setCell ⟨z + 1, 0, none⟩ (.slice (some ⟨g, 0, none⟩) n c)).setCell ⟨z + 1, 1, none⟩ (.int .i64 wk))).alloc (Nat.le_refl _) o1).alloc (by simp) o2).cell (p := ⟨z + 1, 0, none⟩) (by simp only [Qak]; exact hrl)).trans r0
        have rr1 : ∀ o1 o2, ((((wc.setCell ⟨z + 1, 0, none⟩ (.slice (some ⟨g, 0, none⟩) n c)).setCell ⟨z + 1, 1, none⟩ (.int .i64 wk)).alloc o1).alloc o2).cell? ⟨z + 1, 1, none⟩ = some (.int .i64 wk) := by
          intro o1 o2
          exact ((((Below.refl _ ((wc.setCell ⟨z + 1, 0, none⟩ (.slice (some ⟨g, 0, none⟩) n c)).setCell ⟨z + 1, 1, none⟩ (.int .i64 wk))).alloc (Nat.le_refl _) o1).alloc (by simp) o2).cell (p := ⟨z + 1, 1, none⟩) (by simp only [Qak]; exact hrl)).trans r1
        have HUC : Hid ((sk st x).node ≠ (sk st y).node → UNo st lk a b) := fun h => HNO.out (Jbp HK.out hkx hky h)
        by_cases hk1 : (sk st x).kind = (sk st y).kind
        case neg =>
          have tk1 : ((sk st x).kind != (sk st y).kind) = true := by simpa using hk1
          have HU : Hid (UNo st lk a b) := HUC.out (fun h => hk1 (congrArg Nd.kind h))
          go_wp2
          refine bodyPost_ret (v := .tuple #[.agg #[.slice (some ⟨g, 0, none⟩) n c, .int .i64 wk], .bool false]) (by simp [results, Tryz.results38, go_sem, rr0, rr1]) rfl ?_
          exact ⟨_, _, rfl, (hB2.alloc _).alloc _, (fun h => by cases h), fun _ => HU.out⟩
        have tk1 : ((sk st x).kind != (sk st y).kind) = false := by simpa using hk1
        by_cases hk2 : (sk st x).num = (sk st y).num
        case neg =>
          have tk2 : ((sk st x).num != (sk st y).num) = true := by simpa using hk2
          have HU : Hid (UNo st lk a b) := HUC.out (fun h => hk2 (congrArg Nd.num h))
          go_wp2
          refine bodyPost_ret (v := .tuple #[.agg #[.slice (some ⟨g, 0, none⟩) n c, .int .i64 wk], .bool false]) (by simp [results, Tryz.results38, go_sem, rr0, rr1]) rfl ?_
          exact ⟨_, _, rfl, (hB2.alloc _).alloc _, (fun h => by cases h), fun _ => HU.out⟩
        have tk2 : ((sk st x).num != (sk st y).num) = false := by simpa using hk2
        by_cases hk3 : (sk st x).text.toList = (sk st y).text.toList
        case neg =>
          have tk3 : ((sk st x).text.toList != (sk st y).text.toList) = true := by simpa using hk3
          have tk3' : ((sk st x).text.toList == (sk st y).text.toList) = false := by simpa using hk3
          have HU : Hid (UNo st lk a b) := HUC.out (fun h => hk3 (congrArg (fun q => ByteArray.toList (Nd.text q)) h))
          go_wp2
          refine bodyPost_ret (v := .tuple #[.agg #[.slice (some ⟨g, 0, none⟩) n c, .int .i64 wk], .bool false]) (by simp [results, Tryz.results38, go_sem, rr0, rr1]) rfl ?_
          exact ⟨_, _, rfl, (hB2.alloc _).alloc _, (fun h => by cases h), fun _ => HU.out⟩
        have tk3 : ((sk st x).text.toList != (sk st y).text.toList) = false := by simpa using hk3
        have tk3' : ((sk st x).text.toList == (sk st y).text.toList) = true := by simpa using hk3
        by_cases hk4 : kxl = kyl
        case neg =>
          have tk4 : ((kxl : Int) != (kyl : Int)) = true := by simp; omega
          have HU : Hid (UNo st lk a b) := HUC.out (fun h => hk4 (by have := congrArg Nd.kids h; simp only [SK.node] at this; have := HKX.out; have := HKY.out; omega))
          go_wp2
          refine bodyPost_ret (v := .tuple #[.agg #[.slice (some ⟨g, 0, none⟩) n c, .int .i64 wk], .bool false]) (by simp [results, Tryz.results38, go_sem, rr0, rr1]) rfl ?_
          exact ⟨_, _, rfl, (hB2.alloc _).alloc _, (fun h => by cases h), fun _ => HU.out⟩
        have tk4 : ((kxl : Int) != (kyl : Int)) = false := by simp; omega
        have HXRA : Hid (x = ra) := by
          rcases hkd with h | h
          · exact absurd h.1 hkx
          · exact h.2.2
        have HND : Hid ((sk st x).node = (sk st y).node) := by
          have h5 : (sk st x).text = (sk st y).text := by
            have h9 := hk3
            rw [ByteArray.toList_eq, ByteArray.toList_eq] at h9
            generalize (sk st x).text = p at *
            generalize (sk st y).text = q at *
            cases p; cases q
            simp only [ByteArray.mk.injEq]
            exact Array.toList_inj.1 h9
          show SK.node _ = SK.node _
          simp only [SK.node, Nd.mk.injEq]
          exact ⟨hk1, hk2, h5, by have := HKX.out; have := HKY.out; omega, trivial⟩
        have HKL : Hid (kxl = kyl) := hk4
        clear hk1 hk2 hk3 hk4 hkd
        obtain ⟨zx, hzx⟩ : ∃ zx, wc.heap.size = zx := ⟨_, rfl⟩
        have HZX : Hid (wc.heap.size = zx) := hzx
        have hbx : ((wc.alloc (.cells #[.int .i64 (sk st x).kind, .int .i64 (sk st x).num, .string (sk st x).text, .slice ax kxl cx, .int .i64 (-1), .int .i64 (mk x)] 132)).alloc (.cells #[.int .i64 (sk st y).kind, .int .i64 (sk st y).num, .string (sk st y).text, .slice ay kyl cy, .int .i64 (-1), .int .i64 (mk y)] 132)).heap[zx]? = some (.cells #[.int .i64 (sk st x).kind, .int .i64 (sk st x).num, .string (sk st x).text, .slice ax kxl cx, .int .i64 (-1), .int .i64 (mk x)] 132 (0, 0)) := by
          rw [← hzx]
          exact (Below.heap_alloc _ _ _ (by simp)).trans (heap_alloc_new _ _)
        have hby : ((wc.alloc (.cells #[.int .i64 (sk st x).kind, .int .i64 (sk st x).num, .string (sk st x).text, .slice ax kxl cx, .int .i64 (-1), .int .i64 (mk x)] 132)).alloc (.cells #[.int .i64 (sk st y).kind, .int .i64 (sk st y).num, .string (sk st y).text, .slice ay kyl cy, .int .i64 (-1), .int .i64 (mk y)] 132)).heap[zx + 1]? = some (.cells #[.int .i64 (sk st y).kind, .int .i64 (sk st y).num, .string (sk st y).text, .slice ay kyl cy, .int .i64 (-1), .int .i64 (mk y)] 132 (0, 0)) := by
          have h9 := heap_alloc_new (wc.alloc (.cells #[.int .i64 (sk st x).kind, .int .i64 (sk st x).num, .string (sk st x).text, .slice ax kxl cx, .int .i64 (-1), .int .i64 (mk x)] 132)) (.cells #[.int .i64 (sk st y).kind, .int .i64 (sk st y).num, .string (sk st y).text, .slice ay kyl cy, .int .i64 (-1), .int .i64 (mk y)] 132)
          rw [World.size_alloc, hzx] at h9
          exact h9
        have hal : Below wc.heap.size wc ((wc.alloc (.cells #[.int .i64 (sk st x).kind, .int .i64 (sk st x).num, .string (sk st x).text, .slice ax kxl cx, .int .i64 (-1), .int .i64 (mk x)] 132)).alloc (.cells #[.int .i64 (sk st y).kind, .int .i64 (sk st y).num, .string (sk st y).text, .slice ay kyl cy, .int .i64 (-1), .int .i64 (mk y)] 132)) := ((Below.refl _ wc).alloc (Nat.le_refl _) _).alloc (by simp) _
        have hSl := hS3.below hal
        have hbwl := Below.step hbb3 hal
        have hkl := (hal.block z hz3).trans hblk3
        have hrl2 := (hal.block (z + 1) hzl3).trans hblr3
        clear rr0 rr1 r0 r1 q0 q1 f0 f1 hrl hB1 hB2 HUC hblk3 hblr3 hal hS3 hbb3 hzx
        go_wp2_with fail
        rw [HZX.out]
        generalize (wc.alloc (.cells #[.int .i64 (sk st x).kind, .int .i64 (sk st x).num, .string (sk st x).text, .slice ax kxl cx, .int .i64 (-1), .int .i64 (mk x)] 132)).alloc (.cells #[.int .i64 (sk st y).kind, .int .i64 (sk st y).num, .string (sk st y).text, .slice ay kyl cy, .int .i64 (-1), .int .i64 (mk y)] 132) = W0 at *
        have hbw0 : But (· = g) w W0 := But.ofBelow hbwl
        have hzx1 : z + 1 < zx := by have := HZX.out; omega
        clear hbwl d0 d1 d2 d3 d4 d5 e0 e1 e2 e3 e4 e5 x0 x1 fz0 fz1 hg3 hz3 hzl3 tk1 tk2 tk3 tk3' tk4
        go_loopw [11] (fun v wr => ∃ (k : Nat) (lkk : Nat → Option Nat) (mkk : Nat → Int) (wkk : Int), k ≤ kxl ∧ v = .int .i64 (k : Int) ∧ UKs st lk x y k lkk ∧ Sto wr B g c st ka lkk mkk ∧ But (· = g) w wr ∧ (∀ m, mkk m ≤ wkk) ∧ wk ≤ wkk ∧ wkk + unl st lkk ≤ wk + unl st lk ∧
            wr.heap[z]? = some (.cells #[.slice (some ⟨g, 0, none⟩) n c, .int .i64 wkk] 78 (0, 0)) ∧ wr.heap[z + 1]? = some (.cells #[.slice none 0 0, .int .i64 0] 78 (0, 0)) ∧ wr.heap[zx]? = some (.cells #[.int .i64 (sk st x).kind, .int .i64 (sk st x).num, .string (sk st x).text, .slice ax kxl cx, .int .i64 (-1), .int .i64 (mk x)] 132 (0, 0)) ∧ wr.heap[zx + 1]? = some (.cells #[.int .i64 (sk st y).kind, .int .i64 (sk st y).num, .string (sk st y).text, .slice ay kyl cy, .int .i64 (-1), .int .i64 (mk y)] 132 (0, 0))) (fun v _ => kxl - (intOf v).toNat)
        case atStart => exact ⟨0, lk, mk, wk, Nat.zero_le _, rfl, Jbo HI.out x y, hSl, hbw0, HMK.out, by omega, by omega, hkl, hrl2, hbx, hby⟩
        case round =>
          clear hSl hbw0 hkl hrl2 hbx hby
          obtain ⟨k, lkk, mkk, wkk, hk, rfl, hUK, hSr, hbr, hmr, hw1, hw2, b1, b2, b3, b4⟩ := hrel
          have l1 : z < wr.heap.size := (Array.getElem?_eq_some_iff.1 b1).1
          have l2 : z + 1 < wr.heap.size := (Array.getElem?_eq_some_iff.1 b2).1
          have l3 : zx < wr.heap.size := (Array.getElem?_eq_some_iff.1 b3).1
          have l4 : zx + 1 < wr.heap.size := (Array.getElem?_eq_some_iff.1 b4).1
          have lg : g < wr.heap.size := hSr.block.2
          obtain ⟨s0, s1⟩ := Qbn b1
          have cx3 : wr.cell? ⟨zx, 3, none⟩ = some (.slice ax kxl cx) := by rw [cell_of_row _ _ _ _ _ _ b3]; rfl
          have cy3 : wr.cell? ⟨zx + 1, 3, none⟩ = some (.slice ay kyl cy) := by rw [cell_of_row _ _ _ _ _ _ b4]; rfl
          by_cases hkk : k < kxl
          · have hkx9 : k < (sk st x).kids.length := by have := HKX.out; omega
            have hky9 : k < (sk st y).kids.length := by have := HKY.out; have := HKL.out; omega
            have hkky : k < kyl := by have := HKL.out; omega
            obtain ⟨xb, xo, hxa, hxg, hxc⟩ := hSr.kids x k hkx9
            obtain ⟨yb, yo, hya, hyg, hyc⟩ := hSr.kids y k hky9
            rw [HAX.out] at hxa
            rw [HAY.out] at hya
            simp only at hxa hya
            subst hxa hya
            obtain ⟨kx, hkxe⟩ : ∃ q, (sk st x).kids[k] = q := ⟨_, rfl⟩
            obtain ⟨ky, hkye⟩ : ∃ q, (sk st y).kids[k] = q := ⟨_, rfl⟩
            rw [hkxe] at hxc
            rw [hkye] at hyc
            have hkxm : kx ∈ (sk st x).kids := by rw [← hkxe]; exact List.getElem_mem hkx9
            have hkym : ky ∈ (sk st y).kids := by rw [← hkye]; exact List.getElem_mem hky9
            have hkxl : kx < n := by have := HK.out.kids x kx hkxm; omega
            have hkyl : ky < n := by have := HK.out.kids y ky hkym; omega
            have lxb : xb < wr.heap.size := Qaa hxc
            have lyb : yb < wr.heap.size := Qaa hyc
            have HCALL : Hid (∀ W, Below wr.heap.size wr W → Calls Tryz.prog 38 #[.agg #[.slice (some ⟨g, 0, none⟩) n c, .int .i64 wkk], .int .i64 (kx : Int), .int .i64 (ky : Int)] W fun e w' => ∃ wk' ok, e = .returned (.tuple #[.agg #[.slice (some ⟨g, 0, none⟩) n c, .int .i64 wk'], .bool ok]) ∧ URes st ka lkk B g c wkk kx ky wr wk' ok w') := by
              intro W hW
              have hul := Qlf (st := st) hUK.ext
              have key : Calls Tryz.prog 38 #[.agg #[.slice (some ⟨g, 0, none⟩) n c, .int .i64 wkk], .int .i64 (kx : Int), .int .i64 (ky : Int)] W fun e w' => ∃ wk' ok, e = .returned (.tuple #[.agg #[.slice (some ⟨g, 0, none⟩) n c, .int .i64 wk'], .bool ok]) ∧ URes st ka lkk B g c wkk kx ky W wk' ok w' := by
                by_cases hu : unl st lkk < U
                · obtain ⟨rk2, hrk2⟩ := hUK.inv.rank
                  obtain ⟨D2, hD2⟩ := hrk2.exists_D
                  exact ihU (unl st lkk) hu (D2 kx).length lkk mkk wkk kx ky W D2 rfl hD2 rfl hkxl hkyl hUK.inv (hSr.below hW) hmr (by omega) (by omega)
                · have hue : unl st lkk = unl st lk := by omega
                  have hD2 := hUK.same hue D HD.out
                  have hDa : D a = D x := by rw [HXRA.out]; exact HD.out.rt HRA.out
                  have hlt : (D kx).length < N := by
                    rw [← hN, hDa, HD.out.node hlx]
                    have := Qgs (v := D) hkxm
                    simp only [List.length_append, List.length_cons, List.length_nil]
                    omega
                  exact ihN (D kx).length hlt lkk mkk wkk kx ky W D (by omega) hD2 rfl hkxl hkyl hUK.inv (hSr.below hW) hmr (by omega) (by omega)
              refine key.mono ?_
              rintro e w' ⟨wk', ok, rfl, h⟩
              exact ⟨wk', ok, rfl, h.back hW⟩
            have HUK : Hid (UKs st lk x y k lkk) := hUK
            have HBR : Hid (But (· = g) w wr) := hbr
            have HX9 : Hid ((sk st x).kids[k] = kx) := hkxe
            have HY9 : Hid ((sk st y).kids[k] = ky) := hkye
            have HB2 : Hid (wr.heap[z + 1]? = some (.cells #[.slice none 0 0, .int .i64 0] 78 (0, 0))) := b2
            have HB3 : Hid (wr.heap[zx]? = some (.cells #[.int .i64 (sk st x).kind, .int .i64 (sk st x).num, .string (sk st x).text, .slice (some ⟨xb, xo, none⟩) kxl cx, .int .i64 (-1), .int .i64 (mk x)] 132 (0, 0))) := b3
            have HB4 : Hid (wr.heap[zx + 1]? = some (.cells #[.int .i64 (sk st y).kind, .int .i64 (sk st y).num, .string (sk st y).text, .slice (some ⟨yb, yo, none⟩) kyl cy, .int .i64 (-1), .int .i64 (mk y)] 132 (0, 0))) := b4
            have F5 : Hid (∀ w5, But (· = g) wr w5 → w5.heap[z]? = some (.cells #[.slice (some ⟨g, 0, none⟩) n c, .int .i64 wkk] 78 (0, 0)) ∧ w5.frozen? ⟨z, 0, none⟩ = false ∧ w5.frozen? ⟨z, 1, none⟩ = false ∧ w5.cell? ⟨z, 0, none⟩ = some (.slice (some ⟨g, 0, none⟩) n c) ∧ w5.cell? ⟨z, 1, none⟩ = some (.int .i64 wkk) ∧ z < w5.heap.size) := by
              intro w5 h5
              have k5 := (h5.block z l1 (by omega)).trans b1
              obtain ⟨p0, p1⟩ := Qbn k5
              exact ⟨k5, frozen_of_row w5 z 0 _ 78 k5, frozen_of_row w5 z 1 _ 78 k5, p0, p1, (Array.getElem?_eq_some_iff.1 k5).1⟩
            have hdrew : Below wr.heap.size wr wr.drew := ⟨rfl, rfl, rfl, Nat.le_refl _, fun _ _ => rfl⟩
            clear hUK hbr hSr hkxe hkye b1 b2 b3 b4 ihU ihN hmr
            go_wp2_with fail
            go_cut [12] from 115 to 139 (fun o wx => ∃ (wk' : Int) (ok : Bool) (w5 : World), o = .bool ok ∧ URes st ka lkk B g c wkk kx ky wr wk' ok w5 ∧ wx = (w5.setCell ⟨z, 0, none⟩ (.slice (some ⟨g, 0, none⟩) n c)).setCell ⟨z, 1, none⟩ (.int .i64 wk'))
            case first =>
              clear HUK HBR HX9 HY9 HB2 HB3 HB4 HS0 HOK HNO HND HKX HKY HAX HAY HKL HXRA HRA HRB HI HD HMK HR HG HGn hrk hU hN ha hb hwk hwU hran hrbn hgw hze HZ hab hla hlb hxy hxn hyn hne hlx hly hxl hyl hkx6 hky6 hkx tkx hky HZX hkxm hkym hkxl hkyl hkx9 hky9 hk hw1 hw2
              go_region_with (go_at_call 38; refine (HCALL.out wr.drew hdrew).mono ?_; rintro e w5 ⟨wk5, ok5, rfl, hm5⟩; obtain ⟨k5, f50, f51, c50, c51, l5⟩ := F5.out w5 hm5.1)
              all_goals (try go_wp2_with fail)
              all_goals go_meet
              all_goals exact ⟨wk5, ok5, w5, rfl, hm5, rfl⟩
            case rest =>
              obtain ⟨wk5, ok5, w5, rfl, hm5, hwc⟩ := hcut
              obtain ⟨k5, _, _, _, _, l5⟩ := F5.out w5 hm5.1
              have hbz : But (fun q => q = z) w5 ((w5.setCell ⟨z, 0, none⟩ (.slice (some ⟨g, 0, none⟩) n c)).setCell ⟨z, 1, none⟩ (.int .i64 wk5)) := ((But.refl (fun q => q = z) w5).setCell (p := ⟨z, 0, none⟩) rfl _).setCell (p := ⟨z, 1, none⟩) rfl _
              have k6 := Qqc w5 z _ _ (.slice (some ⟨g, 0, none⟩) n c) (.int .i64 wk5) 78 k5
              have l25 : z + 1 < w5.heap.size := by have := hm5.1.size; omega
              have l35 : zx < w5.heap.size := by have := hm5.1.size; omega
              have l45 : zx + 1 < w5.heap.size := by have := hm5.1.size; omega
              have r6 := (hbz.block (z + 1) l25 (by omega)).trans ((hm5.1.block (z + 1) l2 (by omega)).trans HB2.out)
              have x6 := (hbz.block zx l35 (by omega)).trans ((hm5.1.block zx l3 (by omega)).trans HB3.out)
              have y6 := (hbz.block (zx + 1) l45 (by omega)).trans ((hm5.1.block (zx + 1) l4 (by omega)).trans HB4.out)
              have hbw6 : But (· = g) w ((w5.setCell ⟨z, 0, none⟩ (.slice (some ⟨g, 0, none⟩) n c)).setCell ⟨z, 1, none⟩ (.int .i64 wk5)) := ((HBR.out.trans hm5.1).setNew (p := ⟨z, 0, none⟩) (by have := HZ.out; simp only; omega) _).setNew (p := ⟨z, 1, none⟩) (by have := HZ.out; simp only; omega) _
              rw [← hwc] at hbz k6 r6 x6 y6 hbw6
              obtain ⟨v0, v1⟩ := Qbn k6
              have m1 : z < wc.heap.size := (Array.getElem?_eq_some_iff.1 k6).1
              clear s0 s1 cx3 cy3 hxc hyc hwc
              cases ok5
              · have HU : Hid (UNo st lk a b) := by
                  have h9 := hm5.2.2 rfl
                  rw [← HX9.out, ← HY9.out] at h9
                  exact HNO.out (UNo.kid HK.out hkx hky HND.out HUK.out hkx9 hky9 h9)
                obtain ⟨r0, r1, q0, q1, f0, f1, hrl, hB1, hB2⟩ := Qfo r6 HZ.out (by omega) hbw6 (.slice (some ⟨g, 0, none⟩) n c) (.int .i64 wk5)
                clear hm5 hbz k6 r6 x6 y6 hbw6 k5
                go_wp2
                refine bodyPost_ret (v := .tuple #[.agg #[.slice (some ⟨g, 0, none⟩) n c, .int .i64 wk5], .bool false]) (by simp [results, Tryz.results38, go_sem, r0, r1]) rfl ?_
                exact ⟨_, _, rfl, hB2, (fun h => by cases h), fun _ => HU.out⟩
              · obtain ⟨lk5, mk5, hS5, hU5, hm9, hw5, hw6⟩ := hm5.2.1 rfl
                have hS6 := HS0.out.new hS5 hbz (by omega) (fun q hq => Or.inr (by have := HZ.out; omega))
                have HUK2 : Hid (UKs st lk x y (k + 1) lk5) := by
                  rw [← HX9.out, ← HY9.out] at hU5
                  exact HUK.out.step hkx9 hky9 hU5
                clear hm5 hbz k5 hS5 hU5
                go_wp2
                go_roundw
                case rel => exact ⟨k + 1, lk5, mk5, wk5, by omega, by go_num, HUK2.out, hS6, hbw6, hm9, by omega, by omega, k6, r6, x6, y6⟩
                case measure => simp [intOf]; omega
          · have HUF : Hid (UOk st lk a b (upd lkk x y)) := HOK.out _ (Qyx HK.out hne hlx hly hxl hyl hkx hky HND.out (by have := HKX.out; omega) hUK)
            have hS7 := hSr.setLink x y hxl
            have hb7 : But (· = g) wr (wr.setCell ⟨g, x * 6 + 4, none⟩ (.int .i64 (y : Int))) := (But.refl (· = g) wr).setCell (p := ⟨g, x * 6 + 4, none⟩) rfl _
            have hr7 := (hb7.block (z + 1) l2 (by omega)).trans b2
            have hbw7 : But (· = g) w (wr.setCell ⟨g, x * 6 + 4, none⟩ (.int .i64 (y : Int))) := hbr.trans hb7
            obtain ⟨r0, r1, q0, q1, f0, f1, hrl, hB1, hB2⟩ := Qfo hr7 HZ.out (by omega) hbw7 (.slice (some ⟨g, 0, none⟩) n c) (.int .i64 wkk)
            have hS8 := HS0.out.new hS7 hB1 (by omega) (fun q hq => Or.inr (by have := HZ.out; omega))
            have hul : unl st (upd lkk x y) ≤ unl st lkk := by
              have hla9 : lkk x = none := by
                obtain ⟨rk2, hrk2⟩ := hUK.inv.rank
                cases h9 : lkk x with
                | none => rfl
                | some q9 =>
                  exfalso
                  obtain ⟨D2, hD2⟩ := hrk2.exists_D
                  obtain ⟨m9, hm9, hle⟩ := hUK.chg x (by rw [h9, hlx]; simp) _ (Jaz HK.out hUK.inv hD2)
                  have := Qyj (θ := Qeq Classical.propDecidable Classical.epsilon st D2) HK.out (List.getElem_mem hm9)
                  omega
              exact Qlf (Ext2.upd hla9)
            have HFIN : Hid (URes st ka lk B g c wk a b w wkk true (((wr.setCell ⟨g, x * 6 + 4, none⟩ (.int .i64 (y : Int))).setCell ⟨z + 1, 0, none⟩ (.slice (some ⟨g, 0, none⟩) n c)).setCell ⟨z + 1, 1, none⟩ (.int .i64 wkk))) :=
              ⟨hB2, (fun _ => ⟨upd lkk x y, mkk, hS8, HUF.out, hmr, hw1, by omega⟩), fun h => by cases h⟩
            have f4 := hSr.frozen (x * 6 + 4)
            obtain ⟨v4, hv4⟩ : ∃ v, wr.cell? ⟨g, x * 6 + 4, none⟩ = some v := ⟨_, hSr.cell x 4 hxl (by omega)⟩
            obtain ⟨t0, t1⟩ := Qbn b2
            have ft0 := frozen_of_row wr (z + 1) 0 _ 78 b2
            have ft1 := frozen_of_row wr (z + 1) 1 _ 78 b2
            clear hSr hbr hUK hmr b1 b2 b3 b4 hS7 hb7 hr7 hbw7 hB1 hB2 hS8 q0 q1 f0 f1 hrl ihU ihN
            go_wp2
            refine bodyPost_ret (v := .tuple #[.agg #[.slice (some ⟨g, 0, none⟩) n c, .int .i64 wkk], .bool true]) (by simp [results, Tryz.results38, go_sem, r0, r1]) rfl ?_
            exact ⟨_, _, rfl, HFIN.out⟩
end Go.Proofs.YtoiiibplkhedcaaGreatDoor
