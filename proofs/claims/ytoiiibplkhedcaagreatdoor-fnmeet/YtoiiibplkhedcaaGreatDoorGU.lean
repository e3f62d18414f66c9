import Derived.Test.YtoiiibplkhedcaaGreatDoorGR
import Derived.Test.YtoiiibplkhedcaaGreatDoorGT
import Derived.Test.YtoiiibplkhedcaaGreatDoorGM
import Derived.Test.YtoiiibplkhedcaaGreatDoorGL
import Derived.Test.YtoiiibplkhedcaaGreatDoorGS
namespace Go.Proofs.YtoiiibplkhedcaaGreatDoor
open Go.RowKit Go.Maps
theorem RwsAt.store {W0 W : World} {B b n g c : Nat} {E : Int → Option (List Nd)} {t : List Nd} {D : DataW Value} {F : Int → Nat × Nat} (h : RwsAt W0 B b n E D F) (hb : Below W0.heap.size W0 W) (hn : n < maxLen) {x : Int} (hx : (Lit.int .i64 x).wf = true) (hr : Row W g t) (hg : W0.heap.size ≤ g) (hB : B ≤ W0.heap.size) :
    ∃ W2, (Instr.mapUpdate 67 (.map (some b)) (.int .i64 x) (.slice (some ⟨g, 0, none⟩) t.length c)).run Tryz.prog W = .ok () W2 ∧ (∃ D2, RwsAt W2 B b (n + 1) (upE E x t) D2 (fun y => if y = x then (g, c) else F y)) ∧ W.grownBy W2 (some b) := by
  have hW := h.but (S := fun _ => False) (But.ofBelow hb) (fun _ h => h.elim)
  have hkl : ∀ z : Int, WideAt.IsKeyLit (.int .i64 z) := fun _ => trivial
  obtain ⟨W2, hrun, hown2, hg2⟩ := hW.own.update Tryz.law2 Tryz.underlying67 hn (keyOf_int_mk Tryz.underlying2 hx) (val := .slice (some ⟨g, 0, none⟩) t.length c) (d := .held (.slice (some ⟨g, 0, none⟩) t.length c)) (ps := []) rfl
  have hblt := h.own.lt
  have hti : IsMap D := hW.own.isMap
  refine ⟨W2, hrun, ⟨_, hown2, ?_, ?_, ?_⟩, hg2⟩
  · intro y
    by_cases hy : y = x
    · subst hy
      rw [has_put_same hti (hkl y), Qda]
      rfl
    · rw [has_put_other (fun e => hy (by simpa using e)), Qap _ _ _ _ hy]
      exact h.has y
  · intro y t' hy'
    by_cases hy : y = x
    · subst hy
      rw [Qda] at hy'
      simp only [Option.some.injEq] at hy'
      subst hy'
      refine ⟨fun z => ?_, ?_, ?_⟩
      · rw [atKey_put_same hti (hkl y)]
        simp
      · simp only [if_true]
        omega
      · simp only [if_true]
        exact Row.kept hr hg2 (by omega)
    · rw [Qap _ _ _ _ hy] at hy'
      obtain ⟨h1, h2, h3⟩ := hW.at' y t' hy'
      rw [if_neg hy]
      refine ⟨fun z => ?_, h2, ?_⟩
      · rw [atKey_put_other (fun e => hy (by simpa using e))]
        exact h1 z
      · refine Row.kept h3 hg2 ?_
        intro e9
        obtain ⟨es, clock, hb9, _⟩ := hW.own
        obtain ⟨cur, rest, hc, _⟩ := h3
        rw [e9, hb9] at hc
        cases hc
  · intro y z hy hz hne
    by_cases h1 : y = x
    · subst h1
      rw [if_pos rfl, if_neg (fun e => hne e.symm)]
      rw [Qap _ _ _ _ (fun e => hne e.symm)] at hz
      obtain ⟨tz, htz⟩ := Option.isSome_iff_exists.1 hz
      have := (h.at' z tz htz).2.2.lt
      show g ≠ (F z).1
      omega
    · rw [Qap _ _ _ _ h1] at hy
      obtain ⟨ty, hty⟩ := Option.isSome_iff_exists.1 hy
      have := (h.at' y ty hty).2.2.lt
      rw [if_neg h1]
      by_cases h2 : z = x
      · rw [if_pos h2]
        show (F y).1 ≠ g
        omega
      · rw [if_neg h2]
        rw [Qap _ _ _ _ h2] at hz
        exact h.apart y z hy hz hne
def RwsG (W : World) (B b n : Nat) (E : Int → Option (List Nd)) (gw : Nat) : Prop := ∃ D F, RwsAt W B b n E D F ∧ ∀ x t, E x = some t → (F x).1 ≠ gw
theorem RwsG.rws {W : World} {B b n gw : Nat} {E : Int → Option (List Nd)} (h : RwsG W B b n E gw) : Rws W B b n E := by
  obtain ⟨D, F, h, _⟩ := h
  exact ⟨D, F, h⟩
theorem RwsG.but {S : Nat → Prop} {W W' : World} {B b n gw : Nat} {E : Int → Option (List Nd)} (h : RwsG W B b n E gw) (hb : But (fun i => S i ∨ i = gw) W W') (hS : ∀ k, S k → k ≠ b ∧ ∀ cur, W.heap[k]? ≠ some (.cells cur 43 (0, 0))) (hgb : gw ≠ b) {gw' : Nat} (hg' : gw' = gw ∨ W.heap.size ≤ gw') : RwsG W' B b n E gw' := by
  obtain ⟨D, F, h, hne⟩ := h
  refine ⟨D, F, ⟨Qav h.own (hb.block b h.own.lt ?_), h.has, fun x t hx => ?_, h.apart⟩, fun x t hx => ?_⟩
  · rintro (h9 | h9)
    · exact (hS b h9).1 rfl
    · exact hgb h9.symm
  · obtain ⟨h1, h2, h3⟩ := h.at' x t hx
    refine ⟨h1, h2, hb.row h3 ?_⟩
    obtain ⟨cur, rest, hc, _⟩ := h3
    rintro (h9 | h9)
    · exact (hS _ h9).2 _ hc
    · exact hne x t hx h9
  · have h1 := (h.at' x t hx).2.2.lt
    rcases hg' with rfl | h9
    · exact hne x t hx
    · omega
theorem RwsG.store {W0 W : World} {B b n g c gw : Nat} {E : Int → Option (List Nd)} {t : List Nd} (h : RwsG W0 B b n E gw) (hb : Below W0.heap.size W0 W) (hn : n < maxLen) {x : Int} (hx : (Lit.int .i64 x).wf = true) (hr : Row W g t) (hg : W0.heap.size ≤ g) (hB : B ≤ W0.heap.size) (hgw : gw < W0.heap.size) :
    ∃ W2, (Instr.mapUpdate 67 (.map (some b)) (.int .i64 x) (.slice (some ⟨g, 0, none⟩) t.length c)).run Tryz.prog W = .ok () W2 ∧ RwsG W2 B b (n + 1) (upE E x t) gw ∧ W.grownBy W2 (some b) := by
  obtain ⟨D, F, h, hne⟩ := h
  obtain ⟨W2, h1, ⟨D2, h2⟩, h3⟩ := h.store (c := c) hb hn hx hr hg hB
  refine ⟨W2, h1, ⟨D2, _, h2, fun y t' hy => ?_⟩, h3⟩
  by_cases e : y = x
  · simp only [e, if_true]
    omega
  · simp only [e, if_false]
    rw [Qap _ _ _ _ e] at hy
    exact hne y t' hy
end Go.Proofs.YtoiiibplkhedcaaGreatDoor

namespace Go.Proofs.YtoiiibplkhedcaaGreatDoor
open Go.RowKit Go.Maps
def Qai (U : Int → Int → Option Nat) (ρ : Int → List Nd) (left : Lit → Bool) : Int → Option (List Nd) := fun x => if (Lit.int .i64 x).wf = true then (if left (kU 1 x) = true then none else (U 1 x).map (fun _ => ρ x)) else none
theorem Qfg {U : Int → Int → Option Nat} {ρ : Int → List Nd} {left : Lit → Bool} {lv nu : Int} (w1 : (Lit.int .i64 lv).wf = true) (w2 : (Lit.int .i64 nu).wf = true) (h : lv ≠ 1) : Qai U ρ (fun z => left z && !z.sameKey (kU lv nu)) = Qai U ρ left := by
  funext x
  unfold Qai
  by_cases hx : (Lit.int .i64 x).wf = true
  · have h9 := kU_same (lv := 1) (by decide) hx w1 w2
    have : ¬ ((1 : Int) = lv ∧ x = nu) := fun e => h e.1.symm
    rw [decide_eq_false this] at h9
    simp [hx, h9]
  · rw [if_neg hx, if_neg hx]
theorem Qfz {U : Int → Int → Option Nat} {ρ : Int → List Nd} {left : Lit → Bool} {nu : Int} {b : Nat} (w2 : (Lit.int .i64 nu).wf = true) (hU : U 1 nu = some b) : Qai U ρ (fun z => left z && !z.sameKey (kU 1 nu)) = upE (Qai U ρ left) nu (ρ nu) := by
  funext x
  by_cases hn : x = nu
  · subst hn
    rw [Qda]
    unfold Qai
    have h9 := kU_same (lv := 1) (lv' := 1) (by decide) w2 (by decide) w2
    rw [decide_eq_true ⟨rfl, rfl⟩] at h9
    simp [w2, h9, hU]
  · rw [Qap _ _ _ _ hn]
    unfold Qai
    by_cases hx : (Lit.int .i64 x).wf = true
    · have h9 := kU_same (lv := 1) (lv' := 1) (by decide) hx (by decide) w2
      rw [decide_eq_false (fun e => hn e.2)] at h9
      simp [hx, h9]
    · rw [if_neg hx, if_neg hx]
set_option maxRecDepth 20000 in
set_option maxHeartbeats 8000000 in
theorem Qem (X : Nat → Prop) (f : Nat → CC) (lk : Nat → Option Nat) (d : Nat → Nat) (K : (Option Addr × Nat × Nat) → List Nat) (θ : Nat → DT) (w : World) (sb mb n : Nat) (hn : n ≤ 50000) (U : Int → Int → Option Nat) (D : DataW Value) (hS : CSto w X f lk d K) (hs : SatC X (gcv K f) lk θ) (s0 : w.cell? ⟨sb, 0, none⟩ = some (.map (some mb))) (hown : w.ownsMap Tryz.prog 127 heldP mb n D) (hud : UD U D) (hUX : ∀ l x b, U l x = some b → X b)
    (ρ : Int → List Nd) (HR : Hid (∀ x b, U 1 x = some b → Ev selfT (ρ x) (θ b) ∧ (ρ x).length ≤ 300)) :
    Calls Tryz.prog 32 #[.pointer (some ⟨sb, 0, none⟩)] w fun e w' => ∃ tb k, k ≤ n ∧ e = .returned (.map (some tb)) ∧ Rws w' w.heap.size tb k (fun x => if (Lit.int .i64 x).wf = true then (U 1 x).map (fun _ => ρ x) else none) ∧ But X w w' := by
  have hmm := @run_makeMap Tryz.prog
  have hsl := lt_of_cell s0
  have hml := hown.lt
  go_enter Tryz.func32, Tryz.ntmps32
  go_wp2_with (first
    | (at_range; refine wpList_range_own _ rfl _ 102 rfl 127 64 lawU Tryz.underlying102 heldP mb n D rfl ((hown.alloc _).alloc _) ?_; intro w5 hrg0 hg0 hs0)
    | go_in)
  (try go_frame)
  have hzz : ((w.alloc (Obj.map #[] 0)).alloc (Obj.cells #[] 43)).heap.size = w.heap.size + 2 := by simp
  have hlX : ∀ i, X i → i < w.heap.size := fun i hi => (hS.cells.at' i hi).lt
  have hb2 : Below w.heap.size w ((w.alloc (Obj.map #[] 0)).alloc (Obj.cells #[] 43)) := ((Below.refl _ w).alloc (Nat.le_refl _) _).alloc (by simp) _
  have hb5 : Below w.heap.size w w5 := hb2.trans ⟨hg0.os, hg0.tape, hg0.output, hg0.size, fun k hk => hg0.block k (by omega) (by simp)⟩
  have hO0 : OwnN ((w.alloc (Obj.map #[] 0)).alloc (Obj.cells #[] 43)) w.heap.size (w.heap.size + 1) 0 0 [] := by
    have h9 := OwnN.empty (w := w.alloc (Obj.map #[] 0)) (B := w.heap.size) (by simp)
    simpa using h9
  have hO5 : OwnN w5 w.heap.size (w.heap.size + 1) 0 0 [] := ⟨hO0.1, owns_but hO0.2 ((But.refl (fun _ => False) _).trans ⟨hg0.os, hg0.tape, hg0.output, hg0.size, fun k hk _ => hg0.block k hk (by simp)⟩) (fun h => h)⟩
  have hR2 : RwsG ((w.alloc (Obj.map #[] 0)).alloc (Obj.cells #[] 43)) w.heap.size w.heap.size 0 (fun _ => none) (w.heap.size + 1) := by
    obtain ⟨D9, F9, h9⟩ := (Rws.made w w.heap.size).alloc (Obj.cells #[] 43)
    exact ⟨D9, F9, h9, fun x t h => by cases h⟩
  have hR5 : RwsG w5 w.heap.size w.heap.size 0 (fun _ => none) (w.heap.size + 1) := hR2.but (S := fun _ => False) ⟨hg0.os, hg0.tape, hg0.output, hg0.size, fun k hk _ => hg0.block k hk (by simp)⟩ (fun _ h => h.elim) (by omega) (.inl rfl)
  have hS5 : CSto w5 X f lk d K := hS.short (hS.cells.but (But.ofBelow (S := fun _ => False) hb5) (fun _ _ h => h)) hS.acyc (But.ofBelow hb5)
  have HA : Hid (Acyc lk d) := hS.acyc
  have HSAT : Hid (SatC X (gcv K f) lk θ) := hs
  have HLX : Hid (∀ i, X i → i < w.heap.size) := hlX
  have HUX : Hid (∀ l x b, U l x = some b → X b) := hUX
  have HUD : Hid (UD U D) := hud
  rw [hzz] at hrg0
  (try rw [hzz])
  have hB5 : But X w w5 := But.ofBelow hb5
  have hmb : mb < w.heap.size := hml
  clear hO0 hR2 hb2 hg0 hs0 hzz hS hs hown hud hUX hlX hb5 s0
  go_loopw [4] (fun v wr => ∃ (left : Lit → Bool) (cnt k g c l : Nat) (zs : List Nd) (lk2 : Nat → Option Nat), v = .slice (some ⟨g, 0, none⟩) l c ∧ OwnN wr w.heap.size g c l zs ∧ wr.ranges Tryz.prog 127 heldP mb (w.heap.size + 2) n D left cnt ∧ k + cnt ≤ n ∧ RwsG wr w.heap.size w.heap.size k (Qai U ρ left) g ∧ CSto wr X f lk2 d K ∧ SameHd lk lk2 ∧ But X w wr) (fun _ wr => wr.rangeLeft mb (w.heap.size + 2))
  case atStart =>
    refine ⟨_, _, 0, _, 0, 0, [], lk, rfl, hO5, hrg0, by have := hrg0.owns.size_le; omega, ?_, hS5, SameHd.refl _, hB5⟩
    have e9 : Qai U ρ (Maps.has D) = fun _ => none := by
      funext x
      unfold Qai
      by_cases hx : (Lit.int .i64 x).wf = true
      · rw [if_pos hx, (HUD.out.2 1 x (by decide) hx).1]
        cases U 1 x <;> rfl
      · rw [if_neg hx]
    rw [e9]
    exact hR5
  case round =>
    clear hrg0 hO5 hR5 hS5 hB5
    obtain ⟨left, cnt, k, g, c, l, zs, lk2, rfl, hO, hrg, hkc, hR, hS2, hSH, hB⟩ := hrel
    have hinvK : ∀ key kl, keyOf Tryz.prog 127 key = some kl → ∃ x : Int × Int, key = (fun x : Int × Int => Value.agg #[.int .i64 x.1, .int .i64 x.2]) x := fun key kl hk => by obtain ⟨x, hx, _⟩ := keyU_inv hk; exact ⟨x, hx⟩
    have hinvV : ∀ v y, heldP v = some y → ∃ q : Option Addr, v = Value.pointer q := fun v y hv => by
      cases v <;> first | exact ⟨_, rfl⟩ | (simp [heldP] at hv)
    go_wp2_with (first
      | (at_next; refine wpList_next_ranges _ rfl _ rfl 127 lawU heldP (fun x : Int × Int => Value.agg #[.int .i64 x.1, .int .i64 x.2]) Value.pointer hinvK hinvV mb (w.heap.size + 2) n D left cnt rfl hrg ?_ ?_)
      | go_in)
    · intro hc0 hl0
      have HFR : Hid (Rws wr w.heap.size w.heap.size k (fun x => if (Lit.int .i64 x).wf = true then (U 1 x).map (fun _ => ρ x) else none)) := by
        have h9 := hR.rws
        have e9 : Qai U ρ left = fun x => if (Lit.int .i64 x).wf = true then (U 1 x).map (fun _ => ρ x) else none := by
          funext x
          unfold Qai
          rw [hl0]
          simp
        rw [e9] at h9
        exact h9
      clear hinvK hinvV hrg hO hR hS2 hSH hl0
      go_wp2
      go_ret
      exact ⟨w.heap.size, k, by omega, rfl, HFR.out, hB⟩
    · intro lv nu q kl yd yp w6 cnt6 hkey hleft hv hat hrg6 hlt6 hg6 hs6 hen
      obtain ⟨⟨lv', nu'⟩, ex, wl, wn, rfl⟩ := keyU_inv hkey
      obtain ⟨rfl, rfl⟩ : lv = lv' ∧ nu = nu' := by
        simp only [Value.agg.injEq] at ex
        have e9 := congrArg Array.toList ex
        simpa using e9
      simp only at wl wn hrg6 hleft hat
      have hyd := heldP_inv hv
      simp only [Prod.mk.injEq] at hyd
      obtain ⟨rfl, rfl⟩ := hyd
      have hhas : Maps.has D (kU lv nu) = true := Maps.has_true_of_atKey hat
      obtain ⟨hu1, hu2⟩ := HUD.out.2 lv nu wl wn
      rw [hhas] at hu1
      obtain ⟨b, hUb⟩ := Option.isSome_iff_exists.1 hu1.symm
      have hq : q = some ⟨b, 0, none⟩ := by
        have h9 := (hat (.held (.pointer none))).symm.trans hu2
        rw [hUb] at h9
        simpa [ptr] using h9
      subst hq
      have hXb : X b := HUX.out lv nu b hUb
      have hrk := ranges_kind hrg
      have hbut6 : But (· = w.heap.size + 2) wr w6 := but_grownP hg6
      have hnX2 : ¬ X (w.heap.size + 2) := fun h => by have := HLX.out _ h; omega
      obtain ⟨cur0, hcur0⟩ := OwnN.tag hO
      have hg2 : g ≠ w.heap.size + 2 := by
        rintro rfl
        exact hrk.1 _ _ _ hcur0
      have hgm : g ≠ w.heap.size := by
        rintro rfl
        obtain ⟨D9, F9, h9, _⟩ := hR
        obtain ⟨es, clock, h8, _⟩ := h9.own
        rw [h8] at hcur0
        cases hcur0
      have hwz : w.heap.size ≤ wr.heap.size := hB.size
      have hS6 : CSto w6 X f lk2 d K := hS2.aside hbut6 hnX2 (fun cur => hrk.1 cur _ _)
      have hO6 : OwnN w6 w.heap.size g c l zs := ⟨hO.1, owns_but hO.2 hbut6 hg2⟩
      have hR6 : RwsG w6 w.heap.size w.heap.size k (Qai U ρ left) g := hR.but (S := (· = w.heap.size + 2)) (hbut6.mono (fun _ h => .inl h)) (fun j hj => ⟨by omega, fun cur => by subst hj; exact hrk.1 _ _ _⟩) hgm (.inl rfl)
      have hB6 : But X w w6 := ⟨hbut6.os.trans hB.os, hbut6.tape.trans hB.tape, hbut6.output.trans hB.output, Nat.le_trans hB.size hbut6.size, fun i hi hn => (hbut6.block i (by omega) (by omega)).trans (hB.block i hi hn)⟩
      have hw6 : wr.heap.size = w6.heap.size := hs6.symm
      have hbA : Below w6.heap.size w6 (w6.alloc (.cells #[.int .i64 lv, .int .i64 nu] 127)) := (Below.refl _ w6).alloc (Nat.le_refl _) _
      have hS7 : CSto (w6.alloc (.cells #[.int .i64 lv, .int .i64 nu] 127)) X f lk2 d K := hS6.short (hS6.cells.but (But.ofBelow (S := fun _ => False) hbA) (fun _ _ h => h)) hS6.acyc (But.ofBelow hbA)
      have hO7 : OwnN (w6.alloc (.cells #[.int .i64 lv, .int .i64 nu] 127)) w.heap.size g c l zs := ⟨hO6.1, owns_but hO6.2 (But.ofBelow (S := fun _ => False) hbA) (fun h => h)⟩
      have hR7 : RwsG (w6.alloc (.cells #[.int .i64 lv, .int .i64 nu] 127)) w.heap.size w.heap.size k (Qai U ρ left) g := hR6.but (S := fun _ => False) (But.ofBelow hbA) (fun _ h => h.elim) hgm (.inl rfl)
      have hB7 : But X w (w6.alloc (.cells #[.int .i64 lv, .int .i64 nu] 127)) := hB6.trans (But.ofBelow hbA)
      have hrg7 := hrg6.alloc (.cells #[.int .i64 lv, .int .i64 nu] 127)
      have hm7 : wr.rangeLeft mb (w.heap.size + 2) = cnt := hrg.left_eq
      have hgl : g < wr.heap.size := (owns_block hO.2).2
      have hgw : w.heap.size ≤ g := (owns_block hO.2).1
      clear hw6 ex hinvK hinvV hkey hv hat hu1 hu2 hhas hrk hbut6 hcur0 hO6 hR6 hB6 hS6 hrg6 hg6 hO hR hB hS2 hrg
      by_cases h1 : lv = 1
      · subst h1
        go_wp2_with fail
        obtain ⟨xs, hxs⟩ : ∃ t, ρ nu = t := ⟨_, rfl⟩
        obtain ⟨hEv, hlen⟩ := HR.out nu b hUb
        rw [hxs] at hEv hlen
        have hO8 : OwnN (w6.alloc (.cells #[.int .i64 1, .int .i64 nu] 127)) w.heap.size g c 0 [] := ⟨rfl, by have h9 := owns_take hO7.2 0 (Nat.zero_le _); simpa [flat] using h9⟩
        have hsat7 : SatC X (gcv K f) lk2 θ := (hSH.sat HA.out hS7.acyc θ).2 HSAT.out
        have HFP : Hid (Qai U ρ (fun z => left z && !z.sameKey (kU 1 nu)) = upE (Qai U ρ left) nu xs) := by
          rw [Hid, ← hxs]
          exact Qfz wn hUb
        have k7 : (w6.alloc (.cells #[.int .i64 1, .int .i64 nu] 127)).heap[wr.heap.size]? = some (.cells #[.int .i64 1, .int .i64 nu] 127 (0, 0)) := by
          rw [← hs6]
          exact heap_alloc_new _ _
        have hz7 : (w6.alloc (.cells #[.int .i64 1, .int .i64 nu] 127)).heap.size = wr.heap.size + 1 := by rw [← hs6]; exact World.size_alloc _ _
        refine (write_any X f d K θ w.heap.size HLX 300 xs lk2 _ b g c 0 [] hlen hS7 hsat7 hXb hEv hO8 (by omega)).mono ?_
        rintro e w8 ⟨g8, c8, lk8, he, hO9, hS9, hSH9, hB9, hg9⟩
        rw [Nat.zero_add] at he hO9
        rw [List.nil_append] at hO9
        subst he
        have hkX : ¬ X wr.heap.size := fun h => by have := HLX.out _ h; omega
        have k8 : w8.heap[wr.heap.size]? = some (.cells #[.int .i64 1, .int .i64 nu] 127 (0, 0)) := (hB9.block wr.heap.size (by omega) (by rintro (h | h); exact hkX h; omega)).trans k7
        have q8 : w8.cell? ⟨wr.heap.size, 1, none⟩ = some (.int .i64 nu) := by rw [cell_of_row _ _ _ _ 127 (0, 0) k8]; rfl
        have HRES : Hid (Calls Tryz.prog 44 #[.slice (some ⟨g8, 0, none⟩) xs.length c8] w8.drew fun e w9 => ∃ g9 c9 w10, e = .returned (.slice (some ⟨g9, 0, none⟩) xs.length c9) ∧ w9.cell? ⟨wr.heap.size, 1, none⟩ = some (.int .i64 nu) ∧ (Instr.mapUpdate 67 (.map (some w.heap.size)) (.int .i64 nu) (.slice (some ⟨g9, 0, none⟩) xs.length c9)).run Tryz.prog w9 = .ok () w10 ∧ OwnN w10 w.heap.size g8 c8 xs.length xs ∧ w10.ranges Tryz.prog 127 heldP mb (w.heap.size + 2) n D (fun z => left z && !z.sameKey (kU 1 nu)) cnt6 ∧ RwsG w10 w.heap.size w.heap.size (k + 1) (upE (Qai U ρ left) nu xs) g8 ∧ CSto w10 X f lk8 d K ∧ But X w w10) := by
          have hcx : ∀ i, X i → ∀ cur, (w6.alloc (.cells #[.int .i64 1, .int .i64 nu] 127)).heap[i]? ≠ some (.cells cur 43 (0, 0)) := fun i hi cur e9 => by
            have h8 := hS7.cells.at' i hi
            rw [CellAt, e9] at h8
            simp at h8
          have hmX : ¬ X mb := fun hi => (ranges_kind hrg7).2 _ _ _ (hS7.cells.at' mb hi)
          have hR8 : RwsG w8 w.heap.size w.heap.size k (Qai U ρ left) g8 := hR7.but (S := X) hB9 (fun i hi => ⟨by have := HLX.out i hi; omega, hcx i hi⟩) hgm hg9
          have hrg8 := ranges_but hrg7 hB9 (by rintro (h | h); exact hmX h; omega) (by rintro (h | h); exact hnX2 h; exact hg2 h.symm)
          have hB8 : But X w w8 := ⟨hB9.os.trans hB7.os, hB9.tape.trans hB7.tape, hB9.output.trans hB7.output, Nat.le_trans hB7.size hB9.size, fun i hi hn => (hB9.block i (by omega) (by rintro (h | h); exact hn h; omega)).trans (hB7.block i hi hn)⟩
          have hg8w : g8 < w8.heap.size := (owns_block hO9.2).2
          obtain ⟨cur8, hcur8⟩ := OwnN.tag hO9
          have hkz : wr.heap.size < w8.heap.size := (Array.getElem?_eq_some_iff.1 k8).1
          have hx8 : Nodes w8.drew (some ⟨g8, 0, none⟩) xs := hO9.row.2.nodes
          refine (Qep xs xs.length rfl (by omega) ⟨g8, 0, none⟩ c8 w8.drew hx8).mono ?_
          rintro e w9 ⟨g9, c9, rfl, hg9', hr9, hb9⟩
          have hR8' : RwsG w8.drew w.heap.size w.heap.size k (Qai U ρ left) g8 := hR8.but (S := fun _ => False) (But.refl _ w8).drew (fun _ h => h.elim) (by have := (owns_block hO9.2).1; intro h9; subst h9; obtain ⟨D9, F9, h9, _⟩ := hR8; obtain ⟨es, clock, h8, _⟩ := h9.own; rw [h8] at hcur8; cases hcur8) (.inl rfl)
          obtain ⟨w10, hrun, hR10, hg10⟩ := hR8'.store (c := c9) hb9 (by unfold maxLen; omega) wn hr9 hg9' hB8.size hg8w
          have hbut9 : But (fun _ => False) w8 w9 := (But.refl _ w8).drew.trans (But.ofBelow hb9)
          have hbut10 := but_grownP hg10
          have hw9 : w8.heap.size ≤ w9.heap.size := hb9.size
          have hgm8 : g8 ≠ w.heap.size := by
            intro h9
            subst h9
            obtain ⟨D9, F9, h9, _⟩ := hR8
            obtain ⟨es, clock, h8, _⟩ := h9.own
            rw [h8] at hcur8
            cases hcur8
          refine ⟨g9, c9, w10, rfl, ?_, hrun, ⟨hO9.1, owns_but (owns_but hO9.2 hbut9 (fun h => h)) hbut10 hgm8⟩, ranges_but (ranges_but hrg8 hbut9 (fun h => h) (fun h => h)) hbut10 (by omega) (by omega), hR10, ?_, ?_⟩
          · rw [cell_of_row _ _ _ _ 127 (0, 0) ((hbut9.block wr.heap.size hkz (fun h => h)).trans k8)]
            rfl
          · have h1 : CSto w9 X f lk8 d K := hS9.short (hS9.cells.but hbut9 (fun _ _ h => h)) hS9.acyc (hbut9.mono (fun _ h => h.elim))
            refine h1.aside hbut10 (fun h => by have := HLX.out _ h; omega) (fun cur h => ?_)
            have h2 := hR8
            obtain ⟨D9, F9, h9, _⟩ := h2
            obtain ⟨es, clock, h8, _⟩ := h9.own
            rw [hbut9.block w.heap.size h9.own.lt (fun h => h), h8] at h
            cases h
          · exact ⟨hbut10.os.trans (hbut9.os.trans hB8.os), hbut10.tape.trans (hbut9.tape.trans hB8.tape), hbut10.output.trans (hbut9.output.trans hB8.output), Nat.le_trans hB8.size (Nat.le_trans hw9 hbut10.size), fun i hi hn => (hbut10.block i (by have := hB8.size; omega) (by omega)).trans ((hbut9.block i (by have := hB8.size; omega) (fun h => h)).trans (hB8.block i hi hn))⟩
        have HSH9 : Hid (SameHd lk lk8) := hSH.trans hSH9
        obtain ⟨m, hm⟩ : ∃ m, xs.length = m := ⟨_, rfl⟩
        rw [hm] at HRES ⊢
        clear hO9 hS9 hSH9 hB9 hg9 hO8 hS7 hO7 hR7 hB7 hrg7 hsat7 hEv hbA k7 k8 hz7 hen hSH
        go_wp2_with fail
        go_region_law (first
          | (go_simp; refine HRES.out.mono ?_; rintro e w9 ⟨g9, c9, w10, rfl, hc9, hrun, hO10, hrg10, hR10, hS10, hB10⟩))
        all_goals
          clear HRES hrun hc9 q8
          (try simp only [Act.put, List.getElem_toArray, List.getElem_cons_succ, List.getElem_cons_zero, List.setIfInBounds_toArray, List.set_cons_zero, List.set_cons_succ])
          go_wp2
          go_roundw
          case rel => exact ⟨_, cnt6, k + 1, g8, c8, m, xs, lk8, rfl, hO10, hrg10, by omega, by rw [HFP.out]; exact hR10, hS10, HSH9.out, hB10⟩
          case measure => rw [hrg10.left_eq, hm7]; exact hlt6
      · have hlv : (lv == 1) = false := by simpa using h1
        go_wp2_with fail
        go_roundw
        case rel => exact ⟨_, cnt6, k, g, c, l, zs, lk2, rfl, hO7, hrg7, by omega, by rw [Qfg wl wn h1]; exact hR7, hS7, hSH, hB7⟩
        case measure => rw [hrg7.left_eq, hm7]; exact hlt6
end Go.Proofs.YtoiiibplkhedcaaGreatDoor

namespace Go.Proofs.YtoiiibplkhedcaaGreatDoor
open Go.RowKit Go.Maps
theorem Qgl {X : Nat → Prop} {g : Nat → GC} {lk : Nat → Option Nat} {d : Nat → Nat} (ha : Acyc lk d) : ∃ θ, SatC X g lk θ := by
  have hk : ∀ i, ∃ r, Hd lk i r := fun i => ha.head _ i (Nat.lt_succ_self _)
  obtain ⟨hd, hhd⟩ := Classical.axiomOfChoice hk
  exact ⟨_, sat_val (hd := hd) (fun i j e => (hhd i).fun (Hd.step e (hhd j))) (fun i e => (hhd i).fun (Hd.root e))⟩
theorem Jas {ρ : Int → List Nd} {g t : List Nd} (h : fill ρ g = t) {x : Int} (hx : x ∈ metas g) : (ρ x).length ≤ t.length := by
  obtain ⟨y, hy, rfl⟩ := List.mem_map.1 hx
  obtain ⟨h1, h2⟩ := List.mem_filter.1 hy
  rw [← h]
  have e : fillN ρ y = ρ y.num := by unfold fillN; simp at h2; simp [h2]
  have h3 : fillN ρ y ∈ g.map (fillN ρ) := List.mem_map.2 ⟨y, h1, rfl⟩
  rw [← e, fill, List.flatMap_def]
  exact (List.sublist_flatten_of_mem h3).length_le
theorem Qdr {t : List Nd} (h : typeb t = true) : One t := by
  obtain ⟨S, ys, s, hS, h0, hs, hf, hsp, _⟩ := type_side rfl h
  have h9 := sub_one hS.run (i := t.length - 1) (by omega) hs
  rw [hsp] at h9
  exact h9
theorem Jbq {g t : List Nd} {U : Int → Option Nat} {ρ : Int → List Nd} {bs : List (Int × List Nd)} (hfill : fill ρ g = t) (hmem : ∀ x, (∃ b, U x = some b) ↔ x ∈ metas g) (hwf : ∀ x ∈ g, (Lit.int .i64 x.num).wf = true) (hone : ∀ x b, U x = some b → One (ρ x))
    (h : Qcl (fun x => if (Lit.int .i64 x).wf = true then (U x).map (fun _ => ρ x) else none) bs) : InstOk g t bs := by
  obtain ⟨h1, h2, h3⟩ := h
  have hE : ∀ x, x ∈ metas g → (if (Lit.int .i64 x).wf = true then (U x).map (fun _ => ρ x) else none) = some (ρ x) := by
    intro x hx
    obtain ⟨b, hb⟩ := (hmem x).2 hx
    obtain ⟨y, hy, rfl⟩ := List.mem_map.1 hx
    rw [if_pos (hwf y (List.mem_filter.1 hy).1), hb]
    rfl
  have hB : ∀ p ∈ bs, p.1 ∈ metas g ∧ p.2 = ρ p.1 := by
    intro p hp
    have h9 := h2 p hp
    simp only at h9
    by_cases hw : (Lit.int .i64 p.1).wf = true
    · rw [if_pos hw] at h9
      cases hu : U p.1 with
      | none => rw [hu] at h9; cases h9
      | some b =>
        rw [hu] at h9
        simp only [Option.map_some, Option.some.injEq] at h9
        exact ⟨(hmem p.1).1 ⟨b, hu⟩, h9.symm⟩
    · rw [if_neg hw] at h9
      cases h9
  refine ⟨h1, fun x => ⟨fun hx => ?_, fun hx => ?_⟩, fun p hp => ?_, fun θ hθ => ?_⟩
  · obtain ⟨p, hp, rfl⟩ := List.mem_map.1 hx
    exact (hB p hp).1
  · exact h3 x (by simp only; rw [hE x hx]; rfl)
  · obtain ⟨h4, h5⟩ := hB p hp
    obtain ⟨b, hb⟩ := (hmem p.1).2 h4
    rw [h5]
    exact hone _ b hb
  · rw [← hfill]
    refine fill_congr (fun x hx => ?_)
    obtain ⟨p, hp, rfl⟩ := List.mem_map.1 (h3 x (by simp only; rw [hE x hx]; rfl))
    rw [hθ p hp, (hB p hp).2]
theorem Qas {S : Nat → Prop} {w0 w w' : World} (h0 : Below w0.heap.size w0 w) (h : But S w w') (hS : ∀ i, S i → w0.heap.size ≤ i) : Below w0.heap.size w0 w' := by
  refine ⟨h.os.trans h0.os, h.tape.trans h0.tape, h.output.trans h0.output, Nat.le_trans h0.size h.size, fun i hi => ?_⟩
  have hz := h0.size
  exact (h.block i (by omega) (fun h9 => by have := hS i h9; omega)).trans (h0.block i hi)
theorem Qcj {w : World} {B B' : Nat} {ao : Option Addr} {bs : List (Int × List Nd)} (h : BAns w B ao bs) (hB : B' ≤ B) : BAns w B' ao bs := by
  rcases h with h | ⟨g, rs, e, h1, h2, hr⟩
  · exact Or.inl h
  · exact Or.inr ⟨g, rs, e, Nat.le_trans hB h1, fun r hm => Nat.le_trans hB (h2 r hm), hr⟩
set_option maxRecDepth 20000 in
set_option maxHeartbeats 2000000 in
theorem Qee (w : World) : Calls Tryz.prog 28 #[] w fun e w' => ∃ sb mb, e = .returned (.pointer (some ⟨sb, 0, none⟩)) ∧ w.heap.size ≤ sb ∧ w.heap.size ≤ mb ∧ Stor w' sb mb 0 0 (fun _ => False) (fun _ => leafC Nd.zero 0) (fun _ => none) (fun _ => 0) (fun _ => []) (fun _ _ => none) (.map []) ∧ Below w.heap.size w w' := by
  have hmm := @run_makeMap Tryz.prog
  go_enter Tryz.func28, Tryz.ntmps28
  go_wp2
  go_ret
  have hb : Below w.heap.size w ((w.alloc (.map #[] 0)).alloc (.cells #[.map (some w.heap.size), .int .i64 0, .int .i64 0, .int .i64 0, .int .i64 0, .slice none 0 0] 107)) := ((Below.refl _ w).alloc (Nat.le_refl _) _).alloc (by simp) _
  have k1 : ((w.alloc (.map #[] 0)).alloc (.cells #[.map (some w.heap.size), .int .i64 0, .int .i64 0, .int .i64 0, .int .i64 0, .slice none 0 0] 107)).heap[w.heap.size + 1]? = some (.cells #[.map (some w.heap.size), .int .i64 0, .int .i64 0, .int .i64 0, .int .i64 0, .slice none 0 0] 107 (0, 0)) := by
    have h9 := heap_alloc_new (w.alloc (.map #[] 0)) (.cells #[.map (some w.heap.size), .int .i64 0, .int .i64 0, .int .i64 0, .int .i64 0, .slice none 0 0] 107)
    simpa using h9
  refine ⟨w.heap.size + 1, w.heap.size, rfl, by omega, Nat.le_refl _, ⟨⟨⟨fun b h => h.elim, fun _ _ e => (by cases e)⟩, fun _ _ e => (by cases e), fun b h => h.elim, fun b h => h.elim, fun b h => h.elim, fun b h => h.elim, fun b h => h.elim⟩, ?_, ?_, fun h => h, (World.ownsMap_made w Tryz.prog 127 heldP).alloc _, UD.start, fun _ _ _ e => (by cases e), rfl⟩, hb⟩
  · rw [cell_of_row _ _ _ _ 107 (0, 0) k1]; rfl
  · rw [cell_of_row _ _ _ _ 107 (0, 0) k1]; rfl
theorem Qdq {t : List Nd} (h : t.all Nd.plainb = true) : ∀ a ∈ t, ∀ b ∈ t, a.kind = 61 → b.kind = 61 → a.num = b.num → a = b := by
  intro a ha b hb h1 h2 e
  have h9 := List.all_eq_true.1 h
  rw [plain_metaQ (h9 a ha) h1, plain_metaQ (h9 b hb) h2, e]
set_option maxRecDepth 20000 in
set_option maxHeartbeats 8000000 in
theorem Qbd (g t : List Nd) (mg mt : Nat) (HMG : Hid (g.length = mg)) (HMT : Hid (t.length = mt)) (hmg : mg ≤ 1048576) (hmt : mt ≤ 1048576) (HWG : Hid (∀ x ∈ g, (Lit.int .i64 x.num).wf = true)) (HWT : Hid (∀ x ∈ t, (Lit.int .i64 x.num).wf = true)) (ga ta : Option Addr) (ca cb : Nat) (w : World) (hG : Nodes w ga g) (hT : Nodes w ta t) :
    Calls Tryz.prog 11 #[.slice ga mg ca, .slice ta mt cb] w fun e w' => ∃ ag cg bs b, e = .returned (.tuple #[.slice ag bs.length cg, .bool b]) ∧ InstRes g t bs b ∧ BAns w' w.heap.size ag bs ∧ Below w.heap.size w w' := by
  go_enter Tryz.func11, Tryz.ntmps11
  go_wp2_with fail
  refine (iIsType_any g mg HMG hmg _ _ _ hG).mono ?_
  rintro e w1 ⟨rfl, hb1⟩
  cases htg : typeb g
  · have HR : Hid (InstRes g t [] false) := ⟨(fun h => by cases h), fun _ => ⟨rfl, .inl htg⟩⟩
    clear hG hT
    go_wp2
    go_ret2
    exact ⟨_, _, [], false, rfl, HR.out, .inl rfl, hb1.alloc hb1.size _⟩
  · go_wp2_with fail
    refine (iIsType_any t mt HMT hmt _ _ _ (hT.below hb1)).mono ?_
    rintro e w2 ⟨rfl, hb2⟩
    have hb2 := Below.step hb1 hb2
    clear hb1
    cases htt : typeb t
    · have HR : Hid (InstRes g t [] false) := ⟨(fun h => by cases h), fun _ => ⟨rfl, .inr (.inl htt)⟩⟩
      clear hG hT
      go_wp2
      go_ret2
      exact ⟨_, _, [], false, rfl, HR.out, .inl rfl, hb2.alloc hb2.size _⟩
    · obtain ⟨Sg, yg, xg, hSg, h0g, _⟩ := type_side HMG.out htg
      obtain ⟨St, yt, xt, hSt, h0t, _⟩ := type_side HMT.out htt
      have hg3 := hSg.m300
      have ht3 := hSt.m300
      have HG1 : Hid (Sg.length = 1) := by
        have h1 := after_wt hSg.run
        rw [List.take_of_length_le (by have := HMG.out; omega), (Qdr htg).wt] at h1
        rw [Hid]
        omega
      have HT1 : Hid (St.length = 1) := by
        have h1 := after_wt hSt.run
        rw [List.take_of_length_le (by have := HMT.out; omega), (Qdr htt).wt] at h1
        rw [Hid]
        omega
      have HGR : Hid (after g mg = some (Sg, yg)) := hSg.run
      have HTR : Hid (after t mt = some (St, yt)) := hSt.run
      have HLG : Hid (Leafy g) := plain_leafy hSg.plain
      have HLT : Hid (Leafy t) := plain_leafy hSt.plain
      have HUG : Hid (∀ a ∈ g, ∀ b ∈ g, a.kind = 61 → b.kind = 61 → a.num = b.num → a = b) := Qdq hSg.plain
      have HUT : Hid (∀ a ∈ t, ∀ b ∈ t, a.kind = 61 → b.kind = 61 → a.num = b.num → a = b) := Qdq hSt.plain
      have HPT : Hid (t.all Nd.plainb = true) := hSt.plain
      have HTY : Hid (typeb g = true ∧ typeb t = true) := ⟨htg, htt⟩
      have HG : Hid (Nodes w ga g) := hG
      have HT : Hid (Nodes w ta t) := hT
      clear hSg hSt htg htt hG hT
      go_wp2_with fail
      refine (Qee w2).mono ?_
      rintro e w3 ⟨sb, mb, rfl, hsb, hmb, hst3, hb3⟩
      have hz2 := hb2.size
      have hb3 := Below.step hb2 hb3
      have hz3 := hb3.size
      have HS3 : Hid (Stor w3 sb mb 0 0 (fun _ => False) (fun _ => leafC Nd.zero 0) (fun _ => none) (fun _ => 0) (fun _ => []) (fun _ _ => none) (.map [])) := hst3
      clear hst3 hb2
      go_wp2_with fail
      refine (take_any w3 sb mb 0 (by omega) 0 1 (fun _ => True) (fun _ => False) (fun _ => leafC Nd.zero 0) (fun _ => none) (fun _ => 0) (fun _ => []) (fun _ _ => none) (.map []) HS3.out (by decide) (.inr rfl) g mg HMG hg3 h0g HWG HLG HUG Sg yg HGR HG1.out (fun _ _ h => by omega) 0 [] ⟨fun _ h => h.elim, Nat.le_refl _⟩ ga ca (HG.out.below hb3)).mono ?_
      rintro e w4 ⟨b1, n1, X1, f1, K1, U1, D1, rt1, rfl, T1⟩
      have hb4 : Below w.heap.size w w4 := Qas hb3 T1.old (fun i h => by omega)
      have hn1 : n1 ≤ 300 := by have := T1.num; have := HMG.out; omega
      have HT1' : Hid (Taken w3 w4 sb mb 0 0 1 (fun _ => True) (fun _ => False) (fun _ => leafC Nd.zero 0) (fun _ => none) (fun _ => 0) (fun _ => []) (fun _ _ => none) 0 g b1 n1 X1 f1 K1 U1 D1 rt1) := T1
      clear T1
      go_wp2_with fail
      refine (take_any w4 sb mb n1 (by omega) 0 0 (fun ρ => ∀ n ∈ t, n.kind = 61 → ρ n.num = selfT n) X1 f1 (fun _ => none) (fun _ => 0) K1 U1 D1 HT1'.out.stor (by decide) (.inl rfl) t mt HMT ht3 h0t HWT HLT HUT St yt HTR HT1.out (fun ρ h _ => h) mg rt1 ⟨HT1'.out.roots.1, by have := HT1'.out.roots.2; have := HMG.out; omega⟩ ta cb (HT.out.below hb4)).mono ?_
      rintro e w5 ⟨b2, n2, X2, f2, K2, U2, D2, rt2, rfl, T2⟩
      have hb5 : Below w.heap.size w w5 := Qas hb4 T2.old (fun i h => by omega)
      have hn2 : n2 ≤ 600 := by have := T2.num; have := HMT.out; omega
      have HX2 : Hid (∀ i, X2 i → w.heap.size ≤ i) := by
        intro i hi
        rcases T2.fresh i hi with h | h
        · rcases HT1'.out.fresh i h with h | h
          · exact h.elim
          · omega
        · have := hb4.size
          omega
      have HEQ := equate_any X2 f2 (fun _ => none) (fun _ => 0) K2 w5 b1 b2 rt2 T2.stor.sto (fun i hi _ => T2.roots.1 i hi) (by have := T2.roots.2; have := HMT.out; omega) (T2.grow.sub _ HT1'.out.inX) T2.inX sb 0 T2.stor.sX T2.stor.s1
      have HT2' : Hid (Taken w4 w5 sb mb n1 0 0 (fun ρ => ∀ n ∈ t, n.kind = 61 → ρ n.num = selfT n) X1 f1 (fun _ => none) (fun _ => 0) K1 U1 mg t b2 n2 X2 f2 K2 U2 D2 rt2) := T2
      clear T2
      go_wp2_with fail
      refine HEQ.mono ?_
      rintro e w6 ⟨hB6, hres⟩
      have hb6 := Qas hb5 hB6 HX2.out
      clear HEQ
      rcases hres with ⟨rfl, f', lk', d', hS6, _, hE⟩ | ⟨⟨v, rfl⟩, _, hno⟩
      · obtain ⟨θ, hs⟩ := Qgl (X := X2) (g := gcv K2 f') hS6.acyc
        obtain ⟨ρ, h1, h2, h3⟩ := inst_good HT1'.out HT2'.out hE hs
        have HRR : Hid (∀ x b, U2 1 x = some b → Ev selfT (ρ x) (θ b) ∧ (ρ x).length ≤ 300) := fun x b e => ⟨h1 x b e, by have := Jas h2 ((h3 x).1 ⟨b, e⟩); have := HMT.out; omega⟩
        have HF := Qem X2 f' lk' d' K2 θ w6 sb mb n2 (by omega) U2 D2 hS6 hs ((hB6.cellB (lt_of_cell HT2'.out.stor.s0) HT2'.out.stor.sX).trans HT2'.out.stor.s0) (ownsMap_but HT2'.out.stor.map hB6 HT2'.out.stor.mX) HT2'.out.stor.ud HT2'.out.stor.inX ρ HRR
        have HOK : Hid (∀ bs, Qcl (fun x => if (Lit.int .i64 x).wf = true then (U2 1 x).map (fun _ => ρ x) else none) bs → InstRes g t bs true) := fun bs hIB => ⟨fun _ => ⟨HTY.out.1, HTY.out.2, Jbq h2 h3 HWG.out (fun x b e => (h1 x b e).one) hIB⟩, fun h => by cases h⟩
        clear hB6 hS6 hE hs h1 h2 h3 HRR HT1' HT2' HS3 hb3 hb4 hb5
        go_wp2_with fail
        refine HF.mono ?_
        rintro e w7 ⟨tb, k, hk, rfl, hRw, hB7⟩
        have hb7 := Qas hb6 hB7 HX2.out
        have HBO := Qci _ w6.heap.size tb k (by omega) w7 hRw hB7.size
        have hz6 := hb6.size
        clear HF hRw hB7
        go_wp2_with fail
        refine HBO.mono ?_
        rintro e w8 ⟨ag, cg, bs, rfl, hIB, hBA, hb8⟩
        have HR : Hid (InstRes g t bs true) := HOK.out bs hIB
        have hbf := Below.step hb7 hb8
        have hBA2 := Qcj hBA hz6
        clear HBO hIB hBA hb8 hb7 hb6
        go_wp2
        go_ret2
        exact ⟨_, _, bs, true, rfl, HR.out, hBA2, hbf⟩
      · have HR : Hid (InstRes g t [] false) := ⟨(fun h => by cases h), fun _ => ⟨rfl, .inr (.inr (inst_bad HT1'.out HT2'.out (fun _ => trivial) ⟨fun x => selfT (metaNd x), fun n hn h61 => congrArg selfT (plain_metaQ (List.all_eq_true.1 HPT.out n hn) h61).symm⟩ hno))⟩⟩
        clear hB6 hno HT1' HT2' HS3 hb3 hb4 hb5
        go_wp2
        go_ret2
        exact ⟨_, _, [], false, rfl, HR.out, .inl rfl, hb6.alloc hb6.size _⟩
end Go.Proofs.YtoiiibplkhedcaaGreatDoor
