import Derived.Test.YtoiiibplkhedcaaGreatDoorWBB
set_option maxRecDepth 20000
set_option maxHeartbeats 8000000
namespace Go.Proofs.YtoiiibplkhedcaaGreatDoor
open Go.RowKit Go.Maps
def Qcn (U : Int → Int → Option Nat) (ρ : Int → List Nd) (left : Lit → Bool) : Int → Option (List Nd) := fun x => if (Lit.int .i64 x).wf = true then (if left (kU 1 x) = true then none else (U 1 x).map (fun _ => ρ x)) else none
theorem Qrj {U : Int → Int → Option Nat} {ρ : Int → List Nd} {left : Lit → Bool} {lv nu : Int} (w1 : (Lit.int .i64 lv).wf = true) (w2 : (Lit.int .i64 nu).wf = true) (h : lv ≠ 1) : Qcn U ρ (fun z => left z && !z.sameKey (kU lv nu)) = Qcn U ρ left := by
  funext x
  unfold Qcn
  by_cases hx : (Lit.int .i64 x).wf = true
  · have h9 := Qjz (lv := 1) (by decide) hx w1 w2
    have : ¬ ((1 : Int) = lv ∧ x = nu) := fun e => h e.1.symm
    rw [decide_eq_false this] at h9
    simp [hx, h9]
  · rw [if_neg hx, if_neg hx]
theorem Qtw {U : Int → Int → Option Nat} {ρ : Int → List Nd} {left : Lit → Bool} {nu : Int} {b : Nat} (w2 : (Lit.int .i64 nu).wf = true) (hU : U 1 nu = some b) : Qcn U ρ (fun z => left z && !z.sameKey (kU 1 nu)) = upE (Qcn U ρ left) nu (ρ nu) := by
  funext x
  by_cases hn : x = nu
  · subst hn
    rw [Qmd]
    unfold Qcn
    have h9 := Qjz (lv := 1) (lv' := 1) (by decide) w2 (by decide) w2
    rw [decide_eq_true ⟨rfl, rfl⟩] at h9
    simp [w2, h9, hU]
  · rw [Qdo _ _ _ _ hn]
    unfold Qcn
    by_cases hx : (Lit.int .i64 x).wf = true
    · have h9 := Qjz (lv := 1) (lv' := 1) (by decide) hx (by decide) w2
      rw [decide_eq_false (fun e => hn e.2)] at h9
      simp [hx, h9]
    · rw [if_neg hx, if_neg hx]
theorem Qpe (X : Nat → Prop) (f : Nat → CC) (lk : Nat → Option Nat) (d : Nat → Nat) (K : (Option Addr × Nat × Nat) → List Nat) (θ : Nat → DT) (w : World) (sb mb n : Nat) (hn : n ≤ 50000) (U : Int → Int → Option Nat) (D : DataW Value) (hS : CSto w X f lk d K) (hs : SatC X (gcv K f) lk θ) (s0 : w.cell? ⟨sb, 0, none⟩ = some (.map (some mb))) (hown : w.ownsMap Tryz.prog 127 Qce mb n D) (hud : UD U D) (hUX : ∀ l x b, U l x = some b → X b)
    (ρ : Int → List Nd) (HR : Hid (∀ x b, U 1 x = some b → Ev Qbh (ρ x) (θ b) ∧ (ρ x).length ≤ 300)) :
    Calls Tryz.prog 32 #[.pointer (some ⟨sb, 0, none⟩)] w fun e w' => ∃ tb k, k ≤ n ∧ e = .returned (.map (some tb)) ∧ Rws w' w.heap.size tb k (fun x => if (Lit.int .i64 x).wf = true then (U 1 x).map (fun _ => ρ x) else none) ∧ But X w w' := by
  have hmm := @run_makeMap Tryz.prog
  have hsl := Qaa s0
  have hml := hown.lt
  go_enter Tryz.func32, Tryz.ntmps32
  go_wp2_with (first
    | (at_range; refine wpList_range_own _ rfl _ 102 rfl 127 64 lawU Tryz.underlying102 Qce mb n D rfl ((hown.alloc _).alloc _) ?_; intro w5 hrg0 hg0 hs0)
    | go_in)
  (try go_frame)
  have hzz : ((w.alloc (Obj.map #[] 0)).alloc (Obj.cells #[] 43)).heap.size = w.heap.size + 2 := by simp
  have hlX : ∀ i, X i → i < w.heap.size := fun i hi => (hS.cells.at' i hi).lt
  have hb2 : Below w.heap.size w ((w.alloc (Obj.map #[] 0)).alloc (Obj.cells #[] 43)) := ((Below.refl _ w).alloc (Nat.le_refl _) _).alloc (by simp) _
  have hb5 : Below w.heap.size w w5 := hb2.trans ⟨hg0.os, hg0.tape, hg0.output, hg0.size, fun k hk => hg0.block k (by omega) (by simp)⟩
  have hO0 : OwnN ((w.alloc (Obj.map #[] 0)).alloc (Obj.cells #[] 43)) w.heap.size (w.heap.size + 1) 0 0 [] := by
    have h9 := OwnN.empty (w := w.alloc (Obj.map #[] 0)) (B := w.heap.size) (by simp)
    simpa using h9
  have hO5 : OwnN w5 w.heap.size (w.heap.size + 1) 0 0 [] := ⟨hO0.1, Qah hO0.2 ((But.refl (fun _ => False) _).trans ⟨hg0.os, hg0.tape, hg0.output, hg0.size, fun k hk _ => hg0.block k hk (by simp)⟩) (fun h => h)⟩
  have hR2 : RwsG ((w.alloc (Obj.map #[] 0)).alloc (Obj.cells #[] 43)) w.heap.size w.heap.size 0 (fun _ => none) (w.heap.size + 1) := by
    obtain ⟨D9, F9, h9⟩ := (Rws.made w w.heap.size).alloc (Obj.cells #[] 43)
    exact ⟨D9, F9, h9, fun x t h => by cases h⟩
  have hR5 : RwsG w5 w.heap.size w.heap.size 0 (fun _ => none) (w.heap.size + 1) := hR2.but (S := fun _ => False) ⟨hg0.os, hg0.tape, hg0.output, hg0.size, fun k hk _ => hg0.block k hk (by simp)⟩ (fun _ h => h.elim) (by omega) (.inl rfl)
  have hS5 : CSto w5 X f lk d K := hS.short (hS.cells.but (But.ofBelow (S := fun _ => False) hb5) (fun _ _ h => h)) hS.acyc (But.ofBelow hb5)
  have HA : Hid (Acyc lk d) := hS.acyc
  have HSAT : Hid (SatC X (gcv K f) lk θ) := hs
  have HLX : Hid (∀ i, X i → i < w.heap.size) := hlX
  have HUX : Hid (∀ l x b, U l x = some b → X b) := hUX
  have HUD : Hid (UD U D) := hud
  rw [hzz] at hrg0
  (try rw [hzz])
  have hB5 : But X w w5 := But.ofBelow hb5
  have hmb : mb < w.heap.size := hml
  clear hO0 hR2 hb2 hg0 hs0 hzz hS hs hown hud hUX hlX hb5 s0
  go_loopw [4] (fun v wr => ∃ (left : Lit → Bool) (cnt k g c l : Nat) (zs : List Nd) (lk2 : Nat → Option Nat), v = .slice (some ⟨g, 0, none⟩) l c ∧ OwnN wr w.heap.size g c l zs ∧ wr.ranges Tryz.prog 127 Qce mb (w.heap.size + 2) n D left cnt ∧ k + cnt ≤ n ∧ RwsG wr w.heap.size w.heap.size k (Qcn U ρ left) g ∧ CSto wr X f lk2 d K ∧ SameHd lk lk2 ∧ But X w wr) (fun _ wr => wr.rangeLeft mb (w.heap.size + 2))
  case atStart =>
    refine ⟨_, _, 0, _, 0, 0, [], lk, rfl, hO5, hrg0, by have := hrg0.owns.size_le; omega, ?_, hS5, SameHd.refl _, hB5⟩
    have e9 : Qcn U ρ (Maps.has D) = fun _ => none := by
      funext x
      unfold Qcn
      by_cases hx : (Lit.int .i64 x).wf = true
      · rw [if_pos hx, (HUD.out.2 1 x (by decide) hx).1]
        cases U 1 x <;> rfl
      · rw [if_neg hx]
    rw [e9]
    exact hR5
  case round =>
    clear hrg0 hO5 hR5 hS5 hB5
    obtain ⟨left, cnt, k, g, c, l, zs, lk2, rfl, hO, hrg, hkc, hR, hS2, hSH, hB⟩ := hrel
    have hinvK : ∀ key kl, keyOf Tryz.prog 127 key = some kl → ∃ x : Int × Int, key = (fun x : Int × Int => Value.agg #[.int .i64 x.1, .int .i64 x.2]) x := fun key kl hk => by obtain ⟨x, hx, _⟩ := Qgg hk; exact ⟨x, hx⟩
    have hinvV : ∀ v y, Qce v = some y → ∃ q : Option Addr, v = Value.pointer q := fun v y hv => by
      cases v <;> first | exact ⟨_, rfl⟩ | (simp [Qce] at hv)
    go_wp2_with (first
      | (at_next; refine wpList_next_ranges _ rfl _ rfl 127 lawU Qce (fun x : Int × Int => Value.agg #[.int .i64 x.1, .int .i64 x.2]) Value.pointer hinvK hinvV mb (w.heap.size + 2) n D left cnt rfl hrg ?_ ?_)
      | go_in)
    · intro hc0 hl0
      have HFR : Hid (Rws wr w.heap.size w.heap.size k (fun x => if (Lit.int .i64 x).wf = true then (U 1 x).map (fun _ => ρ x) else none)) := by
        have h9 := hR.rws
        have e9 : Qcn U ρ left = fun x => if (Lit.int .i64 x).wf = true then (U 1 x).map (fun _ => ρ x) else none := by
          funext x
          unfold Qcn
          rw [hl0]
          simp
        rw [e9] at h9
        exact h9
      clear hinvK hinvV hrg hO hR hS2 hSH hl0
      go_wp2
      go_ret
      exact ⟨w.heap.size, k, by omega, rfl, HFR.out, hB⟩
    · intro lv nu q kl yd yp w6 cnt6 hkey hleft hv hat hrg6 hlt6 hg6 hs6 hen
      obtain ⟨⟨lv', nu'⟩, ex, wl, wn, rfl⟩ := Qgg hkey
      obtain ⟨rfl, rfl⟩ : lv = lv' ∧ nu = nu' := by
        simp only [Value.agg.injEq] at ex
        have e9 := congrArg Array.toList ex
        simpa using e9
      simp only at wl wn hrg6 hleft hat
      have hyd := Qep hv
      simp only [Prod.mk.injEq] at hyd
      obtain ⟨rfl, rfl⟩ := hyd
      have hhas : Maps.has D (kU lv nu) = true := Maps.has_true_of_atKey hat
      obtain ⟨hu1, hu2⟩ := HUD.out.2 lv nu wl wn
      rw [hhas] at hu1
      obtain ⟨b, hUb⟩ := Option.isSome_iff_exists.1 hu1.symm
      have hq : q = some ⟨b, 0, none⟩ := by
        have h9 := (hat (.held (.pointer none))).symm.trans hu2
        rw [hUb] at h9
        simpa [ptr] using h9
      subst hq
      have hXb : X b := HUX.out lv nu b hUb
      have hrk := Qcu hrg
      have hbut6 : But (· = w.heap.size + 2) wr w6 := Qcj hg6
      have hnX2 : ¬ X (w.heap.size + 2) := fun h => by have := HLX.out _ h; omega
      obtain ⟨cur0, hcur0⟩ := OwnN.tag hO
      have hg2 : g ≠ w.heap.size + 2 := by
        rintro rfl
        exact hrk.1 _ _ _ hcur0
      have hgm : g ≠ w.heap.size := by
        rintro rfl
        obtain ⟨D9, F9, h9, _⟩ := hR
        obtain ⟨es, clock, h8, _⟩ := h9.own
        rw [h8] at hcur0
        cases hcur0
      have hwz : w.heap.size ≤ wr.heap.size := hB.size
      have hS6 : CSto w6 X f lk2 d K := hS2.aside hbut6 hnX2 (fun cur => hrk.1 cur _ _)
      have hO6 : OwnN w6 w.heap.size g c l zs := ⟨hO.1, Qah hO.2 hbut6 hg2⟩
      have hR6 : RwsG w6 w.heap.size w.heap.size k (Qcn U ρ left) g := hR.but (S := (· = w.heap.size + 2)) (hbut6.mono (fun _ h => .inl h)) (fun j hj => ⟨by omega, fun cur => by subst hj; exact hrk.1 _ _ _⟩) hgm (.inl rfl)
      have hB6 : But X w w6 := ⟨hbut6.os.trans hB.os, hbut6.tape.trans hB.tape, hbut6.output.trans hB.output, Nat.le_trans hB.size hbut6.size, fun i hi hn => (hbut6.block i (by omega) (by omega)).trans (hB.block i hi hn)⟩
      have hw6 : wr.heap.size = w6.heap.size := hs6.symm
      have hbA : Below w6.heap.size w6 (w6.alloc (.cells #[.int .i64 lv, .int .i64 nu] 127)) := (Below.refl _ w6).alloc (Nat.le_refl _) _
      have hS7 : CSto (w6.alloc (.cells #[.int .i64 lv, .int .i64 nu] 127)) X f lk2 d K := hS6.short (hS6.cells.but (But.ofBelow (S := fun _ => False) hbA) (fun _ _ h => h)) hS6.acyc (But.ofBelow hbA)
      have hO7 : OwnN (w6.alloc (.cells #[.int .i64 lv, .int .i64 nu] 127)) w.heap.size g c l zs := ⟨hO6.1, Qah hO6.2 (But.ofBelow (S := fun _ => False) hbA) (fun h => h)⟩
      have hR7 : RwsG (w6.alloc (.cells #[.int .i64 lv, .int .i64 nu] 127)) w.heap.size w.heap.size k (Qcn U ρ left) g := hR6.but (S := fun _ => False) (But.ofBelow hbA) (fun _ h => h.elim) hgm (.inl rfl)
      have hB7 : But X w (w6.alloc (.cells #[.int .i64 lv, .int .i64 nu] 127)) := hB6.trans (But.ofBelow hbA)
      have hrg7 := hrg6.alloc (.cells #[.int .i64 lv, .int .i64 nu] 127)
      have hm7 : wr.rangeLeft mb (w.heap.size + 2) = cnt := hrg.left_eq
      have hgl : g < wr.heap.size := (Qad hO.2).2
      have hgw : w.heap.size ≤ g := (Qad hO.2).1
      clear hw6 ex hinvK hinvV hkey hv hat hu1 hu2 hhas hrk hbut6 hcur0 hO6 hR6 hB6 hS6 hrg6 hg6 hO hR hB hS2 hrg
      by_cases h1 : lv = 1
      · subst h1
        go_wp2_with fail
        obtain ⟨xs, hxs⟩ : ∃ t, ρ nu = t := ⟨_, rfl⟩
        obtain ⟨hEv, hlen⟩ := HR.out nu b hUb
        rw [hxs] at hEv hlen
        have hO8 : OwnN (w6.alloc (.cells #[.int .i64 1, .int .i64 nu] 127)) w.heap.size g c 0 [] := ⟨rfl, by have h9 := Qdt hO7.2 0 (Nat.zero_le _); simpa [flat] using h9⟩
        have hsat7 : SatC X (gcv K f) lk2 θ := (hSH.sat HA.out hS7.acyc θ).2 HSAT.out
        have HFP : Hid (Qcn U ρ (fun z => left z && !z.sameKey (kU 1 nu)) = upE (Qcn U ρ left) nu xs) := by
          rw [Hid, ← hxs]
          exact Qtw wn hUb
        have k7 : (w6.alloc (.cells #[.int .i64 1, .int .i64 nu] 127)).heap[wr.heap.size]? = some (.cells #[.int .i64 1, .int .i64 nu] 127 (0, 0)) := by
          rw [← hs6]
          exact heap_alloc_new _ _
        have hz7 : (w6.alloc (.cells #[.int .i64 1, .int .i64 nu] 127)).heap.size = wr.heap.size + 1 := by rw [← hs6]; exact World.size_alloc _ _
        refine (Quo X f d K θ w.heap.size HLX 300 xs lk2 _ b g c 0 [] hlen hS7 hsat7 hXb hEv hO8 (by omega)).mono ?_
        rintro e w8 ⟨g8, c8, lk8, he, hO9, hS9, hSH9, hB9, hg9⟩
        rw [Nat.zero_add] at he hO9
        rw [List.nil_append] at hO9
        subst he
        have hkX : ¬ X wr.heap.size := fun h => by have := HLX.out _ h; omega
        have k8 : w8.heap[wr.heap.size]? = some (.cells #[.int .i64 1, .int .i64 nu] 127 (0, 0)) := (hB9.block wr.heap.size (by omega) (by rintro (h | h); exact hkX h; omega)).trans k7
        have q8 : w8.cell? ⟨wr.heap.size, 1, none⟩ = some (.int .i64 nu) := by rw [cell_of_row _ _ _ _ 127 (0, 0) k8]; rfl
        have HRES : Hid (Calls Tryz.prog 44 #[.slice (some ⟨g8, 0, none⟩) xs.length c8] w8.drew fun e w9 => ∃ g9 c9 w10, e = .returned (.slice (some ⟨g9, 0, none⟩) xs.length c9) ∧ w9.cell? ⟨wr.heap.size, 1, none⟩ = some (.int .i64 nu) ∧ (Instr.mapUpdate 67 (.map (some w.heap.size)) (.int .i64 nu) (.slice (some ⟨g9, 0, none⟩) xs.length c9)).run Tryz.prog w9 = .ok () w10 ∧ OwnN w10 w.heap.size g8 c8 xs.length xs ∧ w10.ranges Tryz.prog 127 Qce mb (w.heap.size + 2) n D (fun z => left z && !z.sameKey (kU 1 nu)) cnt6 ∧ RwsG w10 w.heap.size w.heap.size (k + 1) (upE (Qcn U ρ left) nu xs) g8 ∧ CSto w10 X f lk8 d K ∧ But X w w10) := by
          have hcx : ∀ i, X i → ∀ cur, (w6.alloc (.cells #[.int .i64 1, .int .i64 nu] 127)).heap[i]? ≠ some (.cells cur 43 (0, 0)) := fun i hi cur e9 => by
            have h8 := hS7.cells.at' i hi
            rw [CellAt, e9] at h8
            simp at h8
          have hmX : ¬ X mb := fun hi => (Qcu hrg7).2 _ _ _ (hS7.cells.at' mb hi)
          have hR8 : RwsG w8 w.heap.size w.heap.size k (Qcn U ρ left) g8 := hR7.but (S := X) hB9 (fun i hi => ⟨by have := HLX.out i hi; omega, hcx i hi⟩) hgm hg9
          have hrg8 := Qek hrg7 hB9 (by rintro (h | h); exact hmX h; omega) (by rintro (h | h); exact hnX2 h; exact hg2 h.symm)
          have hB8 : But X w w8 := ⟨hB9.os.trans hB7.os, hB9.tape.trans hB7.tape, hB9.output.trans hB7.output, Nat.le_trans hB7.size hB9.size, fun i hi hn => (hB9.block i (by omega) (by rintro (h | h); exact hn h; omega)).trans (hB7.block i hi hn)⟩
          have hg8w : g8 < w8.heap.size := (Qad hO9.2).2
          obtain ⟨cur8, hcur8⟩ := OwnN.tag hO9
          have hkz : wr.heap.size < w8.heap.size := (Array.getElem?_eq_some_iff.1 k8).1
          have hx8 : Nodes w8.drew (some ⟨g8, 0, none⟩) xs := hO9.row.2.nodes
          refine (Qpo xs xs.length rfl (by omega) ⟨g8, 0, none⟩ c8 w8.drew hx8).mono ?_
          rintro e w9 ⟨g9, c9, rfl, hg9', hr9, hb9⟩
          have hR8' : RwsG w8.drew w.heap.size w.heap.size k (Qcn U ρ left) g8 := hR8.but (S := fun _ => False) (But.refl _ w8).drew (fun _ h => h.elim) (by have := (Qad hO9.2).1; intro h9; subst h9; obtain ⟨D9, F9, h9, _⟩ := hR8; obtain ⟨es, clock, h8, _⟩ := h9.own; rw [h8] at hcur8; cases hcur8) (.inl rfl)
          obtain ⟨w10, hrun, hR10, hg10⟩ := hR8'.store (c := c9) hb9 (by unfold maxLen; omega) wn hr9 hg9' hB8.size hg8w
          have hbut9 : But (fun _ => False) w8 w9 := (But.refl _ w8).drew.trans (But.ofBelow hb9)
          have hbut10 := Qcj hg10
          have hw9 : w8.heap.size ≤ w9.heap.size := hb9.size
          have hgm8 : g8 ≠ w.heap.size := by
            intro h9
            subst h9
            obtain ⟨D9, F9, h9, _⟩ := hR8
            obtain ⟨es, clock, h8, _⟩ := h9.own
            rw [h8] at hcur8
            cases hcur8
          refine ⟨g9, c9, w10, rfl, ?_, hrun, ⟨hO9.1, Qah (Qah hO9.2 hbut9 (fun h => h)) hbut10 hgm8⟩, Qek (Qek hrg8 hbut9 (fun h => h) (fun h => h)) hbut10 (by omega) (by omega), hR10, ?_, ?_⟩
          · rw [cell_of_row _ _ _ _ 127 (0, 0) ((hbut9.block wr.heap.size hkz (fun h => h)).trans k8)]
            rfl
          · have h1 : CSto w9 X f lk8 d K := hS9.short (hS9.cells.but hbut9 (fun _ _ h => h)) hS9.acyc (hbut9.mono (fun _ h => h.elim))
            refine h1.aside hbut10 (fun h => by have := HLX.out _ h; omega) (fun cur h => ?_)
            have h2 := hR8
            obtain ⟨D9, F9, h9, _⟩ := h2
            obtain ⟨es, clock, h8, _⟩ := h9.own
            rw [hbut9.block w.heap.size h9.own.lt (fun h => h), h8] at h
            cases h
          · exact ⟨hbut10.os.trans (hbut9.os.trans hB8.os), hbut10.tape.trans (hbut9.tape.trans hB8.tape), hbut10.output.trans (hbut9.output.trans hB8.output), Nat.le_trans hB8.size (Nat.le_trans hw9 hbut10.size), fun i hi hn => (hbut10.block i (by have := hB8.size; omega) (by omega)).trans ((hbut9.block i (by have := hB8.size; omega) (fun h => h)).trans (hB8.block i hi hn))⟩
        have HSH9 : Hid (SameHd lk lk8) := hSH.trans hSH9
        obtain ⟨m, hm⟩ : ∃ m, xs.length = m := ⟨_, rfl⟩
        rw [hm] at HRES ⊢
        clear hO9 hS9 hSH9 hB9 hg9 hO8 hS7 hO7 hR7 hB7 hrg7 hsat7 hEv hbA k7 k8 hz7 hen hSH
        go_wp2_with fail
        go_region_law (first
          | (go_simp; refine HRES.out.mono ?_; rintro e w9 ⟨g9, c9, w10, rfl, hc9, hrun, hO10, hrg10, hR10, hS10, hB10⟩))
        all_goals
          clear HRES hrun hc9 q8
          (try simp only [Act.put, List.getElem_toArray, List.getElem_cons_succ, List.getElem_cons_zero, List.setIfInBounds_toArray, List.set_cons_zero, List.set_cons_succ])
          go_wp2
          go_roundw
          case rel => exact ⟨_, cnt6, k + 1, g8, c8, m, xs, lk8, rfl, hO10, hrg10, by omega, by rw [HFP.out]; exact hR10, hS10, HSH9.out, hB10⟩
          case measure => rw [hrg10.left_eq, hm7]; exact hlt6
      · have hlv : (lv == 1) = false := by simpa using h1
        go_wp2_with fail
        go_roundw
        case rel => exact ⟨_, cnt6, k, g, c, l, zs, lk2, rfl, hO7, hrg7, by omega, by rw [Qrj wl wn h1]; exact hR7, hS7, hSH, hB7⟩
        case measure => rw [hrg7.left_eq, hm7]; exact hlt6
end Go.Proofs.YtoiiibplkhedcaaGreatDoor
namespace Go.Proofs.YtoiiibplkhedcaaGreatDoor
open Go.RowKit Go.Maps
/-! How solve ends. -/
theorem Qme {ps : List (List Nd × List Nd)} (hv : Qbf ps) : ∀ p ∈ ps, (Leafy p.1 ∧ One p.1) ∧ Leafy p.2 ∧ One p.2 :=
  fun p hp => ⟨⟨Qaq (Qal (hv.2 p hp).1), Qfk (hv.2 p hp).1⟩, Qaq (Qal (hv.2 p hp).2), Qfk (hv.2 p hp).2⟩
section
variable {ps : List (List Nd × List Nd)} {k now q : Nat} {O : Int → Prop} {w : World} {sb mb n : Nat} {X : Nat → Prop} {f : Nat → CC} {lk : Nat → Option Nat} {d : Nat → Nat} {K : (Option Addr × Nat × Nat) → List Nat} {U : Int → Int → Option Nat} {D : DataW Value} {rt : List Nat} {dt : Int → Nat → Nat} {hf : Int → Nat → Nat}
theorem SolE.callFirst (h : SolE ps k now q w sb mb n X f lk d K U D rt) (hq : q ≤ 20000) (hn : now ≤ 20000) (HA : ∀ t, Acyc (tdAt Classical.propDecidable X f t) (dt t)) (HH : ∀ t k, Hd (tdAt Classical.propDecidable X f t) k (hf t k)) (HXH : ∀ t k, X k → X (hf t k)) {o0 : Option Nat} {w1 : World} {m0 : Int} (hm0 : m0 ≤ 900000) (hJ : JW X f lk d K sb mb n (now : Int) o0 D w1 m0 w1) :
    Calls Tryz.prog 77 #[.pointer (some ⟨sb, 0, none⟩)] w1 fun e w' => ∃ r : Nat, r ≤ now ∧ e = .returned (.int .i64 (r : Int)) ∧ JW X f lk d K sb mb n (now : Int) o0 D w1 (m0 + 2 * now) w' ∧ (r < now → Cyc U K f hf (r : Int)) ∧ (0 < r → NoCyc K f hf U ((r : Int) - 1)) :=
  Qkg X f lk d dt K hf rt sb mb n now hn o0 U D w1 h.stor.ud h.stor.inX HA h.hist.inX HH HXH h.kidsX h.roots.1 (by have := h.roots.2; omega) m0 hm0 hJ
theorem SolE.callHas (h : SolE ps k now q w sb mb n X f lk d K U D rt) (hq : q ≤ 20000) (HA : ∀ t, Acyc (tdAt Classical.propDecidable X f t) (dt t)) (HH : ∀ t k, Hd (tdAt Classical.propDecidable X f t) k (hf t k)) (HXH : ∀ t k, X k → X (hf t k)) :
    Calls Tryz.prog 78 #[.pointer (some ⟨sb, 0, none⟩), .int .i64 (now : Int)] w fun e w2 => ∃ b, e = .returned (.bool b) ∧ JW X f lk d K sb mb n (now : Int) none D w 2 w2 ∧ (b = true → Cyc U K f hf (now : Int)) ∧ (b = false → NoCyc K f hf U (now : Int)) :=
  Qkf X f lk d dt K hf rt sb mb n (now : Int) none U D w h.stor.ud h.stor.inX HA h.hist.inX HH HXH h.kidsX h.roots.1 (by have := h.roots.2; omega) 0 (by omega) w h.walk (now : Int)
theorem JW.rebase {t m : Int} {w1 w2 : World} (h : JW X f lk d K sb mb n t none D w1 m w2) : ∃ o0 : Option Nat, (∀ g, o0 = some g → w1.heap.size ≤ g) ∧ JW X f lk d K sb mb n t o0 D w2 m w2 := by
  obtain ⟨_, hO, sn, sa, sl, sc, P, t0, I0, L0, hW, h1, h2, h3, h4⟩ := h
  refine ⟨(Value.slice sa sl sc).ownBlock, fun g hg => ?_, But.refl _ w2, hO, sn, sa, sl, sc, P, t0, I0, L0, hW, h1, h2, h3, .inl rfl⟩
  rcases h4 with h4 | ⟨g', h4, h5⟩
  · simp only at h4
    rw [h4] at hg
    cases hg
  · simp only at h4
    rw [h4] at hg
    cases hg
    exact h5
theorem SolE.resFail (h : SolE ps k k q w sb mb n X f lk d K U D rt) (hv : Qbf ps) (hk : k < ps.length) (HH : ∀ t k, Hd (tdAt Classical.propDecidable X f t) k (hf t k)) (HXH : ∀ t k, X k → X (hf t k)) (hlast : ∀ ρ : Int → List Nd, (∀ x, One (ρ x)) → ¬ Solves ρ (ps.take (k + 1))) {r : Nat} (hr : r ≤ k) (hc : r < k → Cyc U K f hf (r : Int)) (hn : 0 < r → NoCyc K f hf U ((r : Int) - 1)) : SolveRes ps false (r : Int) [] :=
  h.times.resNo hv (Qme hv) h.one h.hist.open' h.wf h.stor.sto.inX h.stor.sto.arity h.stor.sto.met HH HXH hr (by omega) hc hn (fun e => by rw [e]; exact hlast)
theorem SolE.resEnd (h : SolE ps k (k - 1) q w sb mb n X f lk d K U D rt) (hv : Qbf ps) (hk : ps.length = k) (h0 : 0 < k) (HH : ∀ t k, Hd (tdAt Classical.propDecidable X f t) k (hf t k)) (HXH : ∀ t k, X k → X (hf t k)) (hC : Cyc U K f hf ((k - 1 : Nat) : Int)) {r : Nat} (hr : r ≤ k - 1) (hc : r < k - 1 → Cyc U K f hf (r : Int)) (hn : 0 < r → NoCyc K f hf U ((r : Int) - 1)) : SolveRes ps false (r : Int) [] := by
  refine h.times.resNo hv (Qme hv) h.one h.hist.open' h.wf h.stor.sto.inX h.stor.sto.arity h.stor.sto.met HH HXH (by omega) (by omega) (fun _ => ?_) hn (fun e => by omega)
  by_cases e : r = k - 1
  · rw [e]
    exact hC
  · exact hc (by omega)
theorem SolG.occ0 (h : SolG [] 0 now q (Occ ([].take 0)) w sb mb n X f lk d K U D rt) : ∀ l x c, U l x ≠ some c := by
  intro l x c e
  have h1 := h.one l x c e
  subst h1
  obtain ⟨p, hp, _⟩ := h.occ x c e
  simp at hp
structure SolF (ps : List (List Nd × List Nd)) (X : Nat → Prop) (f : Nat → CC) (lk : Nat → Option Nat) (K : (Option Addr × Nat × Nat) → List Nat) (U : Int → Int → Option Nat) (σ : Int → List Nd) (θ : Nat → DT) : Prop where
  sat : SatC X (gcv K f) lk θ
  read : ∀ x b, U 1 x = some b → Ev Qbh (σ x) (θ b)
  ok : SolveOk ps σ
  occ : ∀ x, (∃ b, U 1 x = some b) ↔ Occ ps x
theorem Qwg {ps : List (List Nd × List Nd)} (M : TimeM ps ps.length X f K U) {x : Int} (h : Occ ps x) : ∃ b, U 1 x = some b := by
  obtain ⟨p, hp, h⟩ := h
  obtain ⟨i, hi, rfl⟩ := List.getElem_of_mem hp
  have key : ∀ xs : List Nd, (∀ n ∈ xs, n ∈ ps[i].1 ∨ n ∈ ps[i].2) → x ∈ metas xs → ∃ b, U 1 x = some b := by
    intro xs hxs hm
    obtain ⟨y, hy, rfl⟩ := List.mem_map.1 hm
    obtain ⟨h1, h2⟩ := List.mem_filter.1 hy
    exact M.known i hi hi y (hxs y h1) (by simpa using h2)
  rcases h with h | h
  · exact key _ (fun n hn => .inl hn) h
  · exact key _ (fun n hn => .inr hn) h
theorem SolG.final (h : SolG ps k (k - 1) q (Occ (ps.take k)) w sb mb n X f lk d K U D rt) (hv : Qbf ps) (hk : ps.length = k) (h0 : 0 < k) (HH : ∀ t k, Hd (tdAt Classical.propDecidable X f t) k (hf t k)) (HXH : ∀ t k, X k → X (hf t k)) (hc : NoCyc K f hf U ((k - 1 : Nat) : Int)) :
    ∃ (σ : Int → List Nd) (θ : Nat → DT) (Lf : Nat → Prop) (rk sz : Nat → Nat), SolF ps X f lk K U σ θ ∧ LeftOk (fun h => K (f h).ks) (hf ((k - 1 : Nat) : Int)) Lf rk ∧ (∀ h, Lf h → sz h = 1 + ((K (f h).ks).map fun k' => sz (hf ((k - 1 : Nat) : Int) k')).sum) ∧ ∀ x b, U 1 x = some b → Lf (hf ((k - 1 : Nat) : Int) b) ∧ (σ x).length = sz (hf ((k - 1 : Nat) : Int) b) := by
  obtain ⟨N, rfl⟩ : ∃ N, k = N + 1 := ⟨k - 1, by omega⟩
  simp only [Nat.add_sub_cancel] at *
  have hin := h.stor.sto.inX
  have har := h.stor.sto.arity
  have hmet := h.stor.sto.met
  obtain ⟨σ, hσ, hread⟩ := h.loop.times.solveOk hk h.hist h.num (Qme hv) h.plain h.wf hin har hmet HH HXH hc
  obtain ⟨Lf, rk, sz, hL, hsz, hU⟩ := hc.sizes h.hist h.wf (fun x b e => h.stor.inX 1 x b e) hin har hmet HH HXH
  obtain ⟨s1, s2⟩ := Qmk (X := X) (leaf := Qfi f) (gcAt K f (N : Int)) (tdAt Classical.propDecidable X f (N : Int)) (hf (N : Int)) (HH (N : Int))
  generalize hθ : (fun (i : Nat) (p : List Nat) => val (gV (gcAt K f (N : Int)) (Qfi f)) (hf (N : Int)) p i) = θ at s1
  have s3 : ∀ r, tdAt Classical.propDecidable X f (N : Int) r = none → (gcAt K f (N : Int) r).op = true → Qbh (Qfi f r) = θ r := by
    intro r h1 h2
    rw [s2 r h1 h2, ← hθ]
  have hsat := (h.hist.satNow K h.stor.sto.acyc θ).1 s1
  refine ⟨σ, θ, Lf, rk, sz, ⟨⟨hsat.1, fun r hr hl _ => ?_⟩, fun x b e => hread x b e θ Qbh s1 (fun r _ hl ho => s3 r hl ho), hσ, fun x => ⟨fun ⟨b, e⟩ => ?_, fun hx => ?_⟩⟩, hL, hsz, fun x b e => ⟨(hU x b e).1, (hU x b e).2 _ (hread x b e)⟩⟩
  · by_cases ho : (f r).open? = true
    · have htd : tdAt Classical.propDecidable X f (N : Int) r = none := h.hist.hd.rootN hl
      have hk61 : (f r).nd.kind = 61 := by
        unfold CC.open? at ho
        simp only [Bool.and_eq_true, beq_iff_eq] at ho
        exact ho.1
      have hop : (gcAt K f (N : Int) r).op = true := by simp [gcAt, ho]
      have h9 := s3 r htd hop
      rw [Qib har hmet hr ho] at h9
      rw [← h9]
      simp only [gcv]
      rw [hmet r hr hk61]
      rfl
    · exact hsat.2 r hr hl (by simpa [gc] using ho)
  · have h9 := h.occ x b e
    rw [List.take_of_length_le (by omega)] at h9
    exact h9
  · have h9 := h.loop.times
    rw [← hk] at h9
    exact Qwg h9 hx
end
end Go.Proofs.YtoiiibplkhedcaaGreatDoor
