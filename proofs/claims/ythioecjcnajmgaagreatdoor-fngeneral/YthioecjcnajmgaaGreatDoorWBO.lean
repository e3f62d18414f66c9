import Derived.Test.YthioecjcnajmgaaGreatDoorWBB
import Derived.Test.YthioecjcnajmgaaGreatDoorWBN
import Derived.Test.YthioecjcnajmgaaGreatDoorWAP
import Derived.Test.YthioecjcnajmgaaGreatDoorWBH
import Derived.Test.YthioecjcnajmgaaGreatDoorWAN
namespace Go.Proofs.YthioecjcnajmgaaGreatDoor

open Go.RowKit Go.Maps

/-- What count answers. -/
def CoRes (X : Nat → Prop) (f : Nat → CC) (lk : Nat → Option Nat) (d : Nat → Nat) (K : (Option Addr × Nat × Nat) → List Nat) (s m : Nat) (w : World) (e : Ending) (w' : World) : Prop :=
  ∃ r : Nat, e = .returned (.int .i64 (r : Int)) ∧ (s ≤ m → r = s) ∧ (m < s → m < r) ∧ 1 ≤ r ∧ r ≤ m + 1 ∧ ∃ lk', CSto w' X f lk' d K ∧ SameHd lk lk' ∧ But X w w'

set_option maxRecDepth 20000 in
set_option maxHeartbeats 4000000 in
theorem count_any (X : Nat → Prop) (f : Nat → CC) (d : Nat → Nat) (K : (Option Addr × Nat × Nat) → List Nat) (hfl : Nat → Nat) (Lf : Nat → Prop) (rk sz : Nat → Nat) (HLF : Hid (LeftOk (fun h => K (f h).ks) hfl Lf rk)) (HSZ : Hid (∀ h, Lf h → sz h = 1 + ((K (f h).ks).map (fun k => sz (hfl k))).sum)) :
    ∀ (N : Nat) (lk : Nat → Option Nat) (w : World) (b m : Nat), rk (hfl b) = N → CSto w X f lk d K → (∀ k, Hd lk k (hfl k)) → X b → Lf (hfl b) → m ≤ 100000 →
      Calls Tryz.prog 62 #[.pointer (some ⟨b, 0, none⟩), .int .i64 (m : Int)] w fun e w' => CoRes X f lk d K (sz (hfl b)) m w e w' := by
  intro N
  induction N using Nat.strongRecOn with
  | ind N ih =>
    intro lk w b m hN hS hH hXb hLb hm
    have HIH : Hid _ := ih
    clear ih
    obtain ⟨r, hr⟩ : ∃ r, hfl b = r := ⟨_, rfl⟩
    have hrd : Hd lk b r := hr ▸ hH b
    have hXr : X r := hrd.inX hS.cells hXb
    rw [hr] at hN hLb ⊢
    have HA : Hid (Acyc lk d) := hS.acyc
    have HS : Hid (CSto w X f lk d K) := hS
    have HC := hS.cells
    obtain ⟨sy, L, cy, hky⟩ : ∃ s l c, (f r).ks = (s, l, c) := ⟨_, _, _, rfl⟩
    obtain ⟨kk, hkk⟩ : ∃ l, K (f r).ks = l := ⟨_, rfl⟩
    have hRR := hS.rows r hXr
    rw [hkk, hky] at hRR
    have hL : L = kk.length := hRR.1.1
    have hL2 : L ≤ 20000 := by rw [hL]; exact hRR.1.2.1
    have HKK : Hid (K (f r).ks = kk) := hkk
    have HKY : Hid ((f r).ks = (sy, L, cy)) := hky
    have HKX : Hid (∀ i ∈ kk, X i) := fun i hi => hS.inX r hXr i (by rw [hkk]; exact hi)
    have HSR : Hid (sz r = 1 + (kk.map (fun k => sz (hfl k))).sum) := by
      have h9 := HSZ.out r hLb
      rw [hkk] at h9
      exact h9
    have HDN : Hid (∀ k ∈ kk, Lf (hfl k) ∧ rk (hfl k) < N) := by
      intro k hk
      have h9 := HLF.out.down r hLb k (by simp only [hkk]; exact hk)
      rw [hN] at h9
      exact h9
    have HHD : Hid (∀ k, Hd lk k (hfl k)) := hH
    clear hS hH hN hRR hkk
    go_enter Tryz.func62, Tryz.ntmps62
    go_wp2_with (go_at_call 49; refine (head_any X f lk d HA w HC b r hXb hrd).mono ?_; rintro e w1 ⟨rfl, lk1, hC1, hS1, hA1, hB1, _⟩; obtain ⟨a0, a1, a2, a3, a4, a5, a6, a7, a8, a9, a10, a11, a12, a13⟩ := (hC1.at' r hXr).cell; rw [hky] at a6; simp only at a6)
    have HSS1 : Hid (CSto w1 X f lk1 d K) := HS.out.short hC1 hA1 hB1
    have HB1 : Hid (But X w w1) := hB1
    have HSH : Hid (SameHd lk lk1) := hS1
    have HLK : Hid (kk.length = L) := hL.symm
    clear hC1 hA1 hB1 hS1 a0 a1 a2 a3 a4 a5 a6 a7 a8 a9 a10 a11 a12 a13 hky HC hL
    obtain ⟨part, hpart⟩ : ∃ part : Nat → Nat, part = fun j => 1 + ((kk.take j).map (fun k => sz (hfl k))).sum := ⟨_, rfl⟩
    have HPL : Hid (part L = sz r) := by
      rw [Hid, hpart, HSR.out]
      simp only
      rw [List.take_of_length_le (by have := HLK.out; omega)]
    have HPM : Hid (∀ j, part j ≤ sz r) := by
      intro j
      rw [hpart, HSR.out]
      have e9 : kk.map (fun k => sz (hfl k)) = (kk.take j).map (fun k => sz (hfl k)) ++ (kk.drop j).map (fun k => sz (hfl k)) := by rw [← List.map_append, List.take_append_drop]
      rw [e9, List.sum_append]
      simp only
      omega
    have HPS : Hid (∀ j (h : j < kk.length), part (j + 1) = part j + sz (hfl kk[j])) := by
      intro j h
      rw [hpart]
      simp only
      rw [List.take_succ_eq_append_getElem h, List.map_append, List.sum_append]
      simp
      omega
    have HP0 : Hid (part 0 = 1) := by rw [Hid, hpart]; simp
    clear hpart HSR
    go_loopw [5, 14] (fun vs vi wr => ∃ (j s : Nat) (lk2 : Nat → Option Nat), j ≤ L ∧ vi = .int .i64 (j : Int) ∧ vs = .int .i64 (s : Int) ∧ 1 ≤ s ∧ s ≤ m + 1 ∧ (part j ≤ m → s = part j) ∧ (m < part j → m < s) ∧ CSto wr X f lk2 d K ∧ SameHd lk lk2 ∧ But X w wr) (fun _ vi _ => L - (intOf vi).toNat)
    case atStart => exact ⟨0, 1, lk1, Nat.zero_le _, rfl, rfl, Nat.le_refl _, by omega, fun _ => HP0.out.symm, fun h => by rw [HP0.out] at h; exact h, HSS1.out, HSH.out, HB1.out⟩
    case round =>
      clear HSS1 HSH HB1
      obtain ⟨j, s, lk2, hj, rfl, rfl, hs1, hs2, hp1, hp2, hS2, hSH2, hB2⟩ := hrel
      have HQ1 : Hid (part j ≤ m → s = part j) := hp1
      have HQ2 : Hid (m < part j → m < s) := hp2
      clear hp1 hp2
      by_cases hjL : j < L
      · have hRR := hS2.rows r hXr
        rw [HKK.out, HKY.out] at hRR
        have hjk : j < kk.length := by have := HLK.out; omega
        obtain ⟨gk, cur, hsy, _, _, hcur, hall⟩ := hRR.2.resolve_left (fun e9 => by rw [e9] at hjk; simp at hjk)
        simp only at hsy
        subst hsy
        have ek : wr.cell? ⟨gk, j, none⟩ = some (.pointer (some ⟨kk[j], 0, none⟩)) := by
          rw [cell_of_row wr gk j cur 69 (0, 0) hcur]
          exact hall j hjk
        obtain ⟨kj, hkj⟩ : ∃ t, kk[j] = t := ⟨_, rfl⟩
        have hXk : X kj := hkj ▸ HKX.out _ (List.getElem_mem hjk)
        have hdn : Lf (hfl kj) ∧ rk (hfl kj) < N := hkj ▸ HDN.out _ (List.getElem_mem hjk)
        have HPJ : Hid (part (j + 1) = part j + sz (hfl kj)) := by have h9 := HPS.out j hjk; rw [hkj] at h9; exact h9
        rw [hkj] at ek
        by_cases hgt : s > m
        · have tg : decide ((s : Int) > (m : Int)) = true := decide_eq_true (by omega)
          have HRES : Hid ((sz r ≤ m → s = sz r) ∧ (m < sz r → m < s)) := ⟨fun h => by have := HPM.out j; have := HQ1.out (by omega); omega, fun _ => hgt⟩
          clear hRR hcur hall
          go_wp2
          go_ret
          exact ⟨s, rfl, HRES.out.1, HRES.out.2, hs1, hs2, lk2, hS2, hSH2, hB2⟩
        · have tg : decide ((s : Int) > (m : Int)) = false := decide_eq_false (by omega)
          have HST : Hid (s = part j) := by
            show s = part j
            by_cases h9 : part j ≤ m
            · exact HQ1.out h9
            · have := HQ2.out (by omega); omega
          have HCALL := HIH.out (rk (hfl kj)) hdn.2 lk2 wr kj (m - s) rfl hS2 (fun k => (hSH2 k _).1 (HHD.out k)) hXk hdn.1 (by omega)
          have e9 : ((m - s : Nat) : Int) = (m : Int) - (s : Int) := by omega
          rw [e9] at HCALL
          have HSH2 : Hid (SameHd lk lk2) := hSH2
          have HB2 : Hid (But X w wr) := hB2
          clear hRR hcur hall hS2 hSH2 hB2 e9
          go_wp2_with fail
          refine HCALL.mono ?_
          rintro e w3 ⟨r', rfl, q1, q2, q3, q4, lk3, hS3, hSH3, hB3⟩
          have Q1 : Hid ((sz (hfl kj) ≤ m - s → r' = sz (hfl kj)) ∧ (m - s < sz (hfl kj) → m - s < r')) := ⟨q1, q2⟩
          clear HCALL q1 q2
          go_wp2
          go_roundw
          case rel => exact ⟨j + 1, s + r', lk3, by omega, by go_num, by go_num, by omega, by omega, fun h => by have h8 := HST.out; rw [HPJ.out] at h ⊢; have := Q1.out.1 (by omega); omega, fun h => by have h8 := HST.out; rw [HPJ.out] at h; have := Q1.out.2 (by omega); omega, hS3, HSH2.out.trans hSH3, HB2.out.trans hB3⟩
          case measure => simp [intOf]; omega
      · have hje : j = L := by omega
        subst hje
        have HRES : Hid ((sz r ≤ m → s = sz r) ∧ (m < sz r → m < s)) := by
          have h9 := HPL.out
          exact ⟨fun h => by rw [← h9] at h ⊢; exact HQ1.out h, fun h => by rw [← h9] at h; exact HQ2.out h⟩
        have hkl : kk.length = j := HLK.out
        go_wp2
        go_ret
        exact ⟨s, rfl, HRES.out.1, HRES.out.2, hs1, hs2, lk2, hS2, hSH2, hB2⟩

/-- A store of a new row, and where it lies. -/
theorem RwsAt.store {W0 W : World} {B b n g c : Nat} {E : Int → Option (List Nd)} {t : List Nd} {D : DataW Value} {F : Int → Nat × Nat} (h : RwsAt W0 B b n E D F) (hb : Below W0.heap.size W0 W) (hn : n < maxLen) {x : Int} (hx : (Lit.int .i64 x).wf = true) (hr : Row W g t) (hg : W0.heap.size ≤ g) (hB : B ≤ W0.heap.size) :
    ∃ W2, (Instr.mapUpdate 72 (.map (some b)) (.int .i64 x) (.slice (some ⟨g, 0, none⟩) t.length c)).run Tryz.prog W = .ok () W2 ∧ (∃ D2, RwsAt W2 B b (n + 1) (upE E x t) D2 (fun y => if y = x then (g, c) else F y)) ∧ W.grownBy W2 (some b) := by
  have hW := h.but (S := fun _ => False) (But.ofBelow hb) (fun _ h => h.elim)
  have hkl : ∀ z : Int, WideAt.IsKeyLit (.int .i64 z) := fun _ => trivial
  obtain ⟨W2, hrun, hown2, hg2⟩ := hW.own.update Tryz.law2 Tryz.underlying72 hn (keyOf_int_mk Tryz.underlying2 hx) (val := .slice (some ⟨g, 0, none⟩) t.length c) (d := .held (.slice (some ⟨g, 0, none⟩) t.length c)) (ps := []) rfl
  have hblt := h.own.lt
  have hti : IsMap D := hW.own.isMap
  refine ⟨W2, hrun, ⟨_, hown2, ?_, ?_, ?_⟩, hg2⟩
  · intro y
    by_cases hy : y = x
    · subst hy
      rw [has_put_same hti (hkl y), upE_same]
      rfl
    · rw [has_put_other (fun e => hy (by simpa using e)), upE_other _ _ _ _ hy]
      exact h.has y
  · intro y t' hy'
    by_cases hy : y = x
    · subst hy
      rw [upE_same] at hy'
      simp only [Option.some.injEq] at hy'
      subst hy'
      refine ⟨fun z => ?_, ?_, ?_⟩
      · rw [atKey_put_same hti (hkl y)]
        simp
      · simp only [if_true]
        omega
      · simp only [if_true]
        exact Row.kept hr hg2 (by omega)
    · rw [upE_other _ _ _ _ hy] at hy'
      obtain ⟨h1, h2, h3⟩ := hW.at' y t' hy'
      rw [if_neg hy]
      refine ⟨fun z => ?_, h2, ?_⟩
      · rw [atKey_put_other (fun e => hy (by simpa using e))]
        exact h1 z
      · refine Row.kept h3 hg2 ?_
        intro e9
        obtain ⟨es, clock, hb9, _⟩ := hW.own
        obtain ⟨cur, rest, hc, _⟩ := h3
        rw [e9, hb9] at hc
        cases hc
  · intro y z hy hz hne
    by_cases h1 : y = x
    · subst h1
      rw [if_pos rfl, if_neg (fun e => hne e.symm)]
      rw [upE_other _ _ _ _ (fun e => hne e.symm)] at hz
      obtain ⟨tz, htz⟩ := Option.isSome_iff_exists.1 hz
      have := (h.at' z tz htz).2.2.lt
      show g ≠ (F z).1
      omega
    · rw [upE_other _ _ _ _ h1] at hy
      obtain ⟨ty, hty⟩ := Option.isSome_iff_exists.1 hy
      have := (h.at' y ty hty).2.2.lt
      rw [if_neg h1]
      by_cases h2 : z = x
      · rw [if_pos h2]
        show (F y).1 ≠ g
        omega
      · rw [if_neg h2]
        rw [upE_other _ _ _ _ h2] at hz
        exact h.apart y z hy hz hne

/-- A map of rows, beside a row in block gw. -/
def RwsG (W : World) (B b n : Nat) (E : Int → Option (List Nd)) (gw : Nat) : Prop := ∃ D F, RwsAt W B b n E D F ∧ ∀ x t, E x = some t → (F x).1 ≠ gw

theorem RwsG.rws {W : World} {B b n gw : Nat} {E : Int → Option (List Nd)} (h : RwsG W B b n E gw) : Rws W B b n E := by
  obtain ⟨D, F, h, _⟩ := h
  exact ⟨D, F, h⟩

theorem RwsG.lt {W : World} {B b n gw : Nat} {E : Int → Option (List Nd)} (h : RwsG W B b n E gw) : b < W.heap.size := h.rws.lt

/-- Blocks are written that are no rows of nodes, or the row beside. -/
theorem RwsG.but {S : Nat → Prop} {W W' : World} {B b n gw : Nat} {E : Int → Option (List Nd)} (h : RwsG W B b n E gw) (hb : But (fun i => S i ∨ i = gw) W W') (hS : ∀ k, S k → k ≠ b ∧ ∀ cur, W.heap[k]? ≠ some (.cells cur 40 (0, 0))) (hgb : gw ≠ b) {gw' : Nat} (hg' : gw' = gw ∨ W.heap.size ≤ gw') : RwsG W' B b n E gw' := by
  obtain ⟨D, F, h, hne⟩ := h
  refine ⟨D, F, ⟨owns_same h.own (hb.block b h.own.lt ?_), h.has, fun x t hx => ?_, h.apart⟩, fun x t hx => ?_⟩
  · rintro (h9 | h9)
    · exact (hS b h9).1 rfl
    · exact hgb h9.symm
  · obtain ⟨h1, h2, h3⟩ := h.at' x t hx
    refine ⟨h1, h2, hb.row h3 ?_⟩
    obtain ⟨cur, rest, hc, _⟩ := h3
    rintro (h9 | h9)
    · exact (hS _ h9).2 _ hc
    · exact hne x t hx h9
  · have h1 := (h.at' x t hx).2.2.lt
    rcases hg' with rfl | h9
    · exact hne x t hx
    · omega

theorem RwsG.store {W0 W : World} {B b n g c gw : Nat} {E : Int → Option (List Nd)} {t : List Nd} (h : RwsG W0 B b n E gw) (hb : Below W0.heap.size W0 W) (hn : n < maxLen) {x : Int} (hx : (Lit.int .i64 x).wf = true) (hr : Row W g t) (hg : W0.heap.size ≤ g) (hB : B ≤ W0.heap.size) (hgw : gw < W0.heap.size) :
    ∃ W2, (Instr.mapUpdate 72 (.map (some b)) (.int .i64 x) (.slice (some ⟨g, 0, none⟩) t.length c)).run Tryz.prog W = .ok () W2 ∧ RwsG W2 B b (n + 1) (upE E x t) gw ∧ W.grownBy W2 (some b) := by
  obtain ⟨D, F, h, hne⟩ := h
  obtain ⟨W2, h1, ⟨D2, h2⟩, h3⟩ := h.store (c := c) hb hn hx hr hg hB
  refine ⟨W2, h1, ⟨D2, _, h2, fun y t' hy => ?_⟩, h3⟩
  by_cases e : y = x
  · simp only [e, if_true]
    omega
  · simp only [e, if_false]
    rw [upE_other _ _ _ _ e] at hy
    exact hne y t' hy

/-- What has been found when some keys are still to come. -/
def foundE (U : Int → Int → Option Nat) (ρ : Int → List Nd) (left : Lit → Bool) : Int → Option (List Nd) := fun x => if (Lit.int .i64 x).wf = true then (if left (kU 1 x) = true then none else (U 1 x).map (fun _ => ρ x)) else none

theorem foundE_skip {U : Int → Int → Option Nat} {ρ : Int → List Nd} {left : Lit → Bool} {lv nu : Int} (w1 : (Lit.int .i64 lv).wf = true) (w2 : (Lit.int .i64 nu).wf = true) (h : lv ≠ 1) : foundE U ρ (fun z => left z && !z.sameKey (kU lv nu)) = foundE U ρ left := by
  funext x
  unfold foundE
  by_cases hx : (Lit.int .i64 x).wf = true
  · have h9 := kU_same (lv := 1) (by decide) hx w1 w2
    have : ¬ ((1 : Int) = lv ∧ x = nu) := fun e => h e.1.symm
    rw [decide_eq_false this] at h9
    simp [hx, h9]
  · rw [if_neg hx, if_neg hx]

theorem foundE_put {U : Int → Int → Option Nat} {ρ : Int → List Nd} {left : Lit → Bool} {nu : Int} {b : Nat} (w2 : (Lit.int .i64 nu).wf = true) (hU : U 1 nu = some b) : foundE U ρ (fun z => left z && !z.sameKey (kU 1 nu)) = upE (foundE U ρ left) nu (ρ nu) := by
  funext x
  by_cases hn : x = nu
  · subst hn
    rw [upE_same]
    unfold foundE
    have h9 := kU_same (lv := 1) (lv' := 1) (by decide) w2 (by decide) w2
    rw [decide_eq_true ⟨rfl, rfl⟩] at h9
    simp [w2, h9, hU]
  · rw [upE_other _ _ _ _ hn]
    unfold foundE
    by_cases hx : (Lit.int .i64 x).wf = true
    · have h9 := kU_same (lv := 1) (lv' := 1) (by decide) hx (by decide) w2
      rw [decide_eq_false (fun e => hn e.2)] at h9
      simp [hx, h9]
    · rw [if_neg hx, if_neg hx]

set_option maxRecDepth 20000 in
set_option maxHeartbeats 8000000 in
theorem found_any (X : Nat → Prop) (f : Nat → CC) (lk : Nat → Option Nat) (d : Nat → Nat) (K : (Option Addr × Nat × Nat) → List Nat) (θ : Nat → DT) (w : World) (sb mb n : Nat) (hn : n ≤ 50000) (U : Int → Int → Option Nat) (D : DataW Value) (hS : CSto w X f lk d K) (hs : SatC X (gcv K f) lk θ) (s0 : w.cell? ⟨sb, 0, none⟩ = some (.map (some mb))) (hown : w.ownsMap Tryz.prog 116 heldP mb n D) (hud : UD U D) (hUX : ∀ l x b, U l x = some b → X b)
    (ρ : Int → List Nd) (HR : Hid (∀ x b, U 1 x = some b → Ev selfT (ρ x) (θ b) ∧ (ρ x).length ≤ 300)) :
    Calls Tryz.prog 30 #[.pointer (some ⟨sb, 0, none⟩)] w fun e w' => ∃ tb k, k ≤ n ∧ e = .returned (.map (some tb)) ∧ Rws w' w.heap.size tb k (fun x => if (Lit.int .i64 x).wf = true then (U 1 x).map (fun _ => ρ x) else none) ∧ But X w w' := by
  have hmm := @run_makeMap Tryz.prog
  have hsl := lt_of_cell s0
  have hml := hown.lt
  go_enter Tryz.func30, Tryz.ntmps30
  go_wp2_with (first
    | (at_range; refine wpList_range_own _ rfl _ 91 rfl 116 69 lawU Tryz.underlying91 heldP mb n D rfl ((hown.alloc _).alloc _) ?_; intro w5 hrg0 hg0 hs0)
    | go_in)
  (try go_frame)
  have hzz : ((w.alloc (Obj.map #[] 0)).alloc (Obj.cells #[] 40)).heap.size = w.heap.size + 2 := by simp
  have hlX : ∀ i, X i → i < w.heap.size := fun i hi => (hS.cells.at' i hi).lt
  have hb2 : Below w.heap.size w ((w.alloc (Obj.map #[] 0)).alloc (Obj.cells #[] 40)) := ((Below.refl _ w).alloc (Nat.le_refl _) _).alloc (by simp) _
  have hb5 : Below w.heap.size w w5 := hb2.trans ⟨hg0.os, hg0.tape, hg0.output, hg0.size, fun k hk => hg0.block k (by omega) (by simp)⟩
  have hO0 : OwnN ((w.alloc (Obj.map #[] 0)).alloc (Obj.cells #[] 40)) w.heap.size (w.heap.size + 1) 0 0 [] := by
    have h9 := OwnN.empty (w := w.alloc (Obj.map #[] 0)) (B := w.heap.size) (by simp)
    simpa using h9
  have hO5 : OwnN w5 w.heap.size (w.heap.size + 1) 0 0 [] := ⟨hO0.1, owns_but hO0.2 ((But.refl (fun _ => False) _).trans ⟨hg0.os, hg0.tape, hg0.output, hg0.size, fun k hk _ => hg0.block k hk (by simp)⟩) (fun h => h)⟩
  have hR2 : RwsG ((w.alloc (Obj.map #[] 0)).alloc (Obj.cells #[] 40)) w.heap.size w.heap.size 0 (fun _ => none) (w.heap.size + 1) := by
    obtain ⟨D9, F9, h9⟩ := (Rws.made w w.heap.size).alloc (Obj.cells #[] 40)
    exact ⟨D9, F9, h9, fun x t h => by cases h⟩
  have hR5 : RwsG w5 w.heap.size w.heap.size 0 (fun _ => none) (w.heap.size + 1) := hR2.but (S := fun _ => False) ⟨hg0.os, hg0.tape, hg0.output, hg0.size, fun k hk _ => hg0.block k hk (by simp)⟩ (fun _ h => h.elim) (by omega) (.inl rfl)
  have hS5 : CSto w5 X f lk d K := hS.short (hS.cells.but (But.ofBelow (S := fun _ => False) hb5) (fun _ _ h => h)) hS.acyc (But.ofBelow hb5)
  have HA : Hid (Acyc lk d) := hS.acyc
  have HSAT : Hid (SatC X (gcv K f) lk θ) := hs
  have HLX : Hid (∀ i, X i → i < w.heap.size) := hlX
  have HUX : Hid (∀ l x b, U l x = some b → X b) := hUX
  have HUD : Hid (UD U D) := hud
  rw [hzz] at hrg0
  (try rw [hzz])
  have hB5 : But X w w5 := But.ofBelow hb5
  have hmb : mb < w.heap.size := hml
  clear hO0 hR2 hb2 hg0 hs0 hzz hS hs hown hud hUX hlX hb5 s0
  go_loopw [4] (fun v wr => ∃ (left : Lit → Bool) (cnt k g c l : Nat) (zs : List Nd) (lk2 : Nat → Option Nat), v = .slice (some ⟨g, 0, none⟩) l c ∧ OwnN wr w.heap.size g c l zs ∧ wr.ranges Tryz.prog 116 heldP mb (w.heap.size + 2) n D left cnt ∧ k + cnt ≤ n ∧ RwsG wr w.heap.size w.heap.size k (foundE U ρ left) g ∧ CSto wr X f lk2 d K ∧ SameHd lk lk2 ∧ But X w wr) (fun _ wr => wr.rangeLeft mb (w.heap.size + 2))
  case atStart =>
    refine ⟨_, _, 0, _, 0, 0, [], lk, rfl, hO5, hrg0, by have := hrg0.owns.size_le; omega, ?_, hS5, SameHd.refl _, hB5⟩
    have e9 : foundE U ρ (Maps.has D) = fun _ => none := by
      funext x
      unfold foundE
      by_cases hx : (Lit.int .i64 x).wf = true
      · rw [if_pos hx, (HUD.out.2 1 x (by decide) hx).1]
        cases U 1 x <;> rfl
      · rw [if_neg hx]
    rw [e9]
    exact hR5
  case round =>
    clear hrg0 hO5 hR5 hS5 hB5
    obtain ⟨left, cnt, k, g, c, l, zs, lk2, rfl, hO, hrg, hkc, hR, hS2, hSH, hB⟩ := hrel
    have hinvK : ∀ key kl, keyOf Tryz.prog 116 key = some kl → ∃ x : Int × Int, key = (fun x : Int × Int => Value.agg #[.int .i64 x.1, .int .i64 x.2]) x := fun key kl hk => by obtain ⟨x, hx, _⟩ := keyU_inv hk; exact ⟨x, hx⟩
    have hinvV : ∀ v y, heldP v = some y → ∃ q : Option Addr, v = Value.pointer q := fun v y hv => by
      cases v <;> first | exact ⟨_, rfl⟩ | (simp [heldP] at hv)
    go_wp2_with (first
      | (at_next; refine wpList_next_ranges _ rfl _ rfl 116 lawU heldP (fun x : Int × Int => Value.agg #[.int .i64 x.1, .int .i64 x.2]) Value.pointer hinvK hinvV mb (w.heap.size + 2) n D left cnt rfl hrg ?_ ?_)
      | go_in)
    · intro hc0 hl0
      have HFR : Hid (Rws wr w.heap.size w.heap.size k (fun x => if (Lit.int .i64 x).wf = true then (U 1 x).map (fun _ => ρ x) else none)) := by
        have h9 := hR.rws
        have e9 : foundE U ρ left = fun x => if (Lit.int .i64 x).wf = true then (U 1 x).map (fun _ => ρ x) else none := by
          funext x
          unfold foundE
          rw [hl0]
          simp
        rw [e9] at h9
        exact h9
      clear hinvK hinvV hrg hO hR hS2 hSH hl0
      go_wp2
      go_ret
      exact ⟨w.heap.size, k, by omega, rfl, HFR.out, hB⟩
    · intro lv nu q kl yd yp w6 cnt6 hkey hleft hv hat hrg6 hlt6 hg6 hs6 hen
      obtain ⟨⟨lv', nu'⟩, ex, wl, wn, rfl⟩ := keyU_inv hkey
      obtain ⟨rfl, rfl⟩ : lv = lv' ∧ nu = nu' := by
        simp only [Value.agg.injEq] at ex
        have e9 := congrArg Array.toList ex
        simpa using e9
      simp only at wl wn hrg6 hleft hat
      have hyd := heldP_inv hv
      simp only [Prod.mk.injEq] at hyd
      obtain ⟨rfl, rfl⟩ := hyd
      have hhas : Maps.has D (kU lv nu) = true := Maps.has_true_of_atKey hat
      obtain ⟨hu1, hu2⟩ := HUD.out.2 lv nu wl wn
      rw [hhas] at hu1
      obtain ⟨b, hUb⟩ := Option.isSome_iff_exists.1 hu1.symm
      have hq : q = some ⟨b, 0, none⟩ := by
        have h9 := (hat (.held (.pointer none))).symm.trans hu2
        rw [hUb] at h9
        simpa [ptr] using h9
      subst hq
      have hXb : X b := HUX.out lv nu b hUb
      have hrk := ranges_kind hrg
      have hbut6 : But (· = w.heap.size + 2) wr w6 := but_grownP hg6
      have hnX2 : ¬ X (w.heap.size + 2) := fun h => by have := HLX.out _ h; omega
      obtain ⟨cur0, hcur0⟩ := OwnN.tag hO
      have hg2 : g ≠ w.heap.size + 2 := by
        rintro rfl
        exact hrk.1 _ _ _ hcur0
      have hgm : g ≠ w.heap.size := by
        rintro rfl
        obtain ⟨D9, F9, h9, _⟩ := hR
        obtain ⟨es, clock, h8, _⟩ := h9.own
        rw [h8] at hcur0
        cases hcur0
      have hwz : w.heap.size ≤ wr.heap.size := hB.size
      have hS6 : CSto w6 X f lk2 d K := hS2.aside hbut6 hnX2 (fun cur => hrk.1 cur _ _)
      have hO6 : OwnN w6 w.heap.size g c l zs := ⟨hO.1, owns_but hO.2 hbut6 hg2⟩
      have hR6 : RwsG w6 w.heap.size w.heap.size k (foundE U ρ left) g := hR.but (S := (· = w.heap.size + 2)) (hbut6.mono (fun _ h => .inl h)) (fun j hj => ⟨by omega, fun cur => by subst hj; exact hrk.1 _ _ _⟩) hgm (.inl rfl)
      have hB6 : But X w w6 := ⟨hbut6.os.trans hB.os, hbut6.tape.trans hB.tape, hbut6.output.trans hB.output, Nat.le_trans hB.size hbut6.size, fun i hi hn => (hbut6.block i (by omega) (by omega)).trans (hB.block i hi hn)⟩
      have hw6 : wr.heap.size = w6.heap.size := hs6.symm
      have hbA : Below w6.heap.size w6 (w6.alloc (.cells #[.int .i64 lv, .int .i64 nu] 116)) := (Below.refl _ w6).alloc (Nat.le_refl _) _
      have hS7 : CSto (w6.alloc (.cells #[.int .i64 lv, .int .i64 nu] 116)) X f lk2 d K := hS6.short (hS6.cells.but (But.ofBelow (S := fun _ => False) hbA) (fun _ _ h => h)) hS6.acyc (But.ofBelow hbA)
      have hO7 : OwnN (w6.alloc (.cells #[.int .i64 lv, .int .i64 nu] 116)) w.heap.size g c l zs := ⟨hO6.1, owns_but hO6.2 (But.ofBelow (S := fun _ => False) hbA) (fun h => h)⟩
      have hR7 : RwsG (w6.alloc (.cells #[.int .i64 lv, .int .i64 nu] 116)) w.heap.size w.heap.size k (foundE U ρ left) g := hR6.but (S := fun _ => False) (But.ofBelow hbA) (fun _ h => h.elim) hgm (.inl rfl)
      have hB7 : But X w (w6.alloc (.cells #[.int .i64 lv, .int .i64 nu] 116)) := hB6.trans (But.ofBelow hbA)
      have hrg7 := hrg6.alloc (.cells #[.int .i64 lv, .int .i64 nu] 116)
      have hm7 : wr.rangeLeft mb (w.heap.size + 2) = cnt := hrg.left_eq
      have hgl : g < wr.heap.size := (owns_block hO.2).2
      have hgw : w.heap.size ≤ g := (owns_block hO.2).1
      clear hw6 ex hinvK hinvV hkey hv hat hu1 hu2 hhas hrk hbut6 hcur0 hO6 hR6 hB6 hS6 hrg6 hg6 hO hR hB hS2 hrg
      by_cases h1 : lv = 1
      · subst h1
        go_wp2_with fail
        obtain ⟨xs, hxs⟩ : ∃ t, ρ nu = t := ⟨_, rfl⟩
        obtain ⟨hEv, hlen⟩ := HR.out nu b hUb
        rw [hxs] at hEv hlen
        have hO8 : OwnN (w6.alloc (.cells #[.int .i64 1, .int .i64 nu] 116)) w.heap.size g c 0 [] := ⟨rfl, by have h9 := owns_take hO7.2 0 (Nat.zero_le _); simpa [flat] using h9⟩
        have hsat7 : SatC X (gcv K f) lk2 θ := (hSH.sat HA.out hS7.acyc θ).2 HSAT.out
        have HFP : Hid (foundE U ρ (fun z => left z && !z.sameKey (kU 1 nu)) = upE (foundE U ρ left) nu xs) := by
          rw [Hid, ← hxs]
          exact foundE_put wn hUb
        have k7 : (w6.alloc (.cells #[.int .i64 1, .int .i64 nu] 116)).heap[wr.heap.size]? = some (.cells #[.int .i64 1, .int .i64 nu] 116 (0, 0)) := by
          rw [← hs6]
          exact heap_alloc_new _ _
        have hz7 : (w6.alloc (.cells #[.int .i64 1, .int .i64 nu] 116)).heap.size = wr.heap.size + 1 := by rw [← hs6]; exact World.size_alloc _ _
        refine (write_any X f d K θ w.heap.size HLX 300 xs lk2 _ b g c 0 [] hlen hS7 hsat7 hXb hEv hO8 (by omega)).mono ?_
        rintro e w8 ⟨g8, c8, lk8, he, hO9, hS9, hSH9, hB9, hg9⟩
        rw [Nat.zero_add] at he hO9
        rw [List.nil_append] at hO9
        subst he
        have hkX : ¬ X wr.heap.size := fun h => by have := HLX.out _ h; omega
        have k8 : w8.heap[wr.heap.size]? = some (.cells #[.int .i64 1, .int .i64 nu] 116 (0, 0)) := (hB9.block wr.heap.size (by omega) (by rintro (h | h); exact hkX h; omega)).trans k7
        have q8 : w8.cell? ⟨wr.heap.size, 1, none⟩ = some (.int .i64 nu) := by rw [cell_of_row _ _ _ _ 116 (0, 0) k8]; rfl
        have HRES : Hid (Calls Tryz.prog 57 #[.slice (some ⟨g8, 0, none⟩) xs.length c8] w8.drew fun e w9 => ∃ g9 c9 w10, e = .returned (.slice (some ⟨g9, 0, none⟩) xs.length c9) ∧ w9.cell? ⟨wr.heap.size, 1, none⟩ = some (.int .i64 nu) ∧ (Instr.mapUpdate 72 (.map (some w.heap.size)) (.int .i64 nu) (.slice (some ⟨g9, 0, none⟩) xs.length c9)).run Tryz.prog w9 = .ok () w10 ∧ OwnN w10 w.heap.size g8 c8 xs.length xs ∧ w10.ranges Tryz.prog 116 heldP mb (w.heap.size + 2) n D (fun z => left z && !z.sameKey (kU 1 nu)) cnt6 ∧ RwsG w10 w.heap.size w.heap.size (k + 1) (upE (foundE U ρ left) nu xs) g8 ∧ CSto w10 X f lk8 d K ∧ But X w w10) := by
          have hcx : ∀ i, X i → ∀ cur, (w6.alloc (.cells #[.int .i64 1, .int .i64 nu] 116)).heap[i]? ≠ some (.cells cur 40 (0, 0)) := fun i hi cur e9 => by
            have h8 := hS7.cells.at' i hi
            rw [CellAt, e9] at h8
            simp at h8
          have hmX : ¬ X mb := fun hi => (ranges_kind hrg7).2 _ _ _ (hS7.cells.at' mb hi)
          have hR8 : RwsG w8 w.heap.size w.heap.size k (foundE U ρ left) g8 := hR7.but (S := X) hB9 (fun i hi => ⟨by have := HLX.out i hi; omega, hcx i hi⟩) hgm hg9
          have hrg8 := ranges_but hrg7 hB9 (by rintro (h | h); exact hmX h; omega) (by rintro (h | h); exact hnX2 h; exact hg2 h.symm)
          have hB8 : But X w w8 := ⟨hB9.os.trans hB7.os, hB9.tape.trans hB7.tape, hB9.output.trans hB7.output, Nat.le_trans hB7.size hB9.size, fun i hi hn => (hB9.block i (by omega) (by rintro (h | h); exact hn h; omega)).trans (hB7.block i hi hn)⟩
          have hg8w : g8 < w8.heap.size := (owns_block hO9.2).2
          obtain ⟨cur8, hcur8⟩ := OwnN.tag hO9
          have hkz : wr.heap.size < w8.heap.size := (Array.getElem?_eq_some_iff.1 k8).1
          have hx8 : Nodes w8.drew (some ⟨g8, 0, none⟩) xs := hO9.row.2.nodes
          refine (clone_any xs xs.length rfl (by omega) ⟨g8, 0, none⟩ c8 w8.drew hx8).mono ?_
          rintro e w9 ⟨g9, c9, rfl, hg9', hr9, hb9⟩
          have hR8' : RwsG w8.drew w.heap.size w.heap.size k (foundE U ρ left) g8 := hR8.but (S := fun _ => False) (But.refl _ w8).drew (fun _ h => h.elim) (by have := (owns_block hO9.2).1; intro h9; subst h9; obtain ⟨D9, F9, h9, _⟩ := hR8; obtain ⟨es, clock, h8, _⟩ := h9.own; rw [h8] at hcur8; cases hcur8) (.inl rfl)
          obtain ⟨w10, hrun, hR10, hg10⟩ := hR8'.store (c := c9) hb9 (by unfold maxLen; omega) wn hr9 hg9' hB8.size hg8w
          have hbut9 : But (fun _ => False) w8 w9 := (But.refl _ w8).drew.trans (But.ofBelow hb9)
          have hbut10 := but_grownP hg10
          have hw9 : w8.heap.size ≤ w9.heap.size := hb9.size
          have hgm8 : g8 ≠ w.heap.size := by
            intro h9
            subst h9
            obtain ⟨D9, F9, h9, _⟩ := hR8
            obtain ⟨es, clock, h8, _⟩ := h9.own
            rw [h8] at hcur8
            cases hcur8
          refine ⟨g9, c9, w10, rfl, ?_, hrun, ⟨hO9.1, owns_but (owns_but hO9.2 hbut9 (fun h => h)) hbut10 hgm8⟩, ranges_but (ranges_but hrg8 hbut9 (fun h => h) (fun h => h)) hbut10 (by omega) (by omega), hR10, ?_, ?_⟩
          · rw [cell_of_row _ _ _ _ 116 (0, 0) ((hbut9.block wr.heap.size hkz (fun h => h)).trans k8)]
            rfl
          · have h1 : CSto w9 X f lk8 d K := hS9.short (hS9.cells.but hbut9 (fun _ _ h => h)) hS9.acyc (hbut9.mono (fun _ h => h.elim))
            refine h1.aside hbut10 (fun h => by have := HLX.out _ h; omega) (fun cur h => ?_)
            have h2 := hR8
            obtain ⟨D9, F9, h9, _⟩ := h2
            obtain ⟨es, clock, h8, _⟩ := h9.own
            rw [hbut9.block w.heap.size h9.own.lt (fun h => h), h8] at h
            cases h
          · exact ⟨hbut10.os.trans (hbut9.os.trans hB8.os), hbut10.tape.trans (hbut9.tape.trans hB8.tape), hbut10.output.trans (hbut9.output.trans hB8.output), Nat.le_trans hB8.size (Nat.le_trans hw9 hbut10.size), fun i hi hn => (hbut10.block i (by have := hB8.size; omega) (by omega)).trans ((hbut9.block i (by have := hB8.size; omega) (fun h => h)).trans (hB8.block i hi hn))⟩
        have HSH9 : Hid (SameHd lk lk8) := hSH.trans hSH9
        obtain ⟨m, hm⟩ : ∃ m, xs.length = m := ⟨_, rfl⟩
        rw [hm] at HRES ⊢
        clear hO9 hS9 hSH9 hB9 hg9 hO8 hS7 hO7 hR7 hB7 hrg7 hsat7 hEv hbA k7 k8 hz7 hen hSH
        go_wp2_with fail
        go_region_law (first
          | (go_simp; refine HRES.out.mono ?_; rintro e w9 ⟨g9, c9, w10, rfl, hc9, hrun, hO10, hrg10, hR10, hS10, hB10⟩))
        all_goals
          clear HRES hrun hc9 q8
          (try simp only [Act.put, List.getElem_toArray, List.getElem_cons_succ, List.getElem_cons_zero, List.setIfInBounds_toArray, List.set_cons_zero, List.set_cons_succ])
          go_wp2
          go_roundw
          case rel => exact ⟨_, cnt6, k + 1, g8, c8, m, xs, lk8, rfl, hO10, hrg10, by omega, by rw [HFP.out]; exact hR10, hS10, HSH9.out, hB10⟩
          case measure => rw [hrg10.left_eq, hm7]; exact hlt6
      · have hlv : (lv == 1) = false := by simpa using h1
        go_wp2_with fail
        go_roundw
        case rel => exact ⟨_, cnt6, k, g, c, l, zs, lk2, rfl, hO7, hrg7, by omega, by rw [foundE_skip wl wn h1]; exact hR7, hS7, hSH, hB7⟩
        case measure => rw [hrg7.left_eq, hm7]; exact hlt6

end Go.Proofs.YthioecjcnajmgaaGreatDoor
