import Derived.Test.YtoiiibplkhedcaaGreatDoorWBC
set_option maxRecDepth 20000
set_option maxHeartbeats 8000000
namespace Go.Proofs.YtoiiibplkhedcaaGreatDoor
open Go.RowKit Go.Maps
theorem PairRes.ret {ps : List (List Nd × List Nd)} {i z q : Nat} {w : World} {sb mb : Nat} {e : Ending} {w' : World} (h : PairRes ps i z q w sb mb e w') : ∃ v, e = .returned v := by
  obtain ⟨_, _, _, _, _, _, _, _, _, _, _, ⟨h, _⟩ | ⟨⟨v, h⟩, _⟩⟩ := h
  · exact ⟨_, h⟩
  · exact ⟨_, h⟩
theorem Qtj {ps : List (List Nd × List Nd)} {i z q : Nat} {w : World} {sb mb : Nat} {v : Value} {w' : World} (h : PairRes ps i z q w sb mb (.returned v) w') : (v = .nilIface ∧ True) ∨ ∃ v', v = .iface 143 (.pointer (some v')) ∧ Below z w w' ∧ ∃ (n : Nat) (X : Nat → Prop) (f : Nat → CC) (lk : Nat → Option Nat) (d : Nat → Nat) (K : (Option Addr × Nat × Nat) → List Nat) (U : Int → Int → Option Nat) (D : DataW Value) (rt : List Nat) (dt : Int → Nat → Nat) (hf : Int → Nat → Nat), (∀ r, X r → z ≤ r) ∧ SolE ps i i q w' sb mb n X f lk d K U D rt ∧ (∀ t, Acyc (tdAt Classical.propDecidable X f t) (dt t)) ∧ (∀ t k, Hd (tdAt Classical.propDecidable X f t) k (hf t k)) ∧ (∀ t k, X k → X (hf t k)) ∧ ∀ ρ : Int → List Nd, (∀ x, One (ρ x)) → ¬ Solves ρ (ps.take (i + 1)) := by
  obtain ⟨hb, n, X, f, lk, d, K, U, D, rt, hX, ⟨h, _⟩ | ⟨⟨v', h⟩, hE, hno⟩⟩ := h
  · cases h
    exact .inl ⟨rfl, trivial⟩
  · cases h
    obtain ⟨dt, hf, h1, h2, h3⟩ := hE.heads
    exact .inr ⟨v', rfl, hb, n, X, f, lk, d, K, U, D, rt, dt, hf, hX, hE, h1, h2, h3, hno⟩
theorem Jcc : ∀ (ps : List (List Nd × List Nd)), (∀ p ∈ ps, 0 < p.1.length) → ps.length ≤ (ps.map fun p => p.1.length + p.2.length).sum := by
  intro ps
  induction ps with
  | nil => intro _; simp
  | cons p ps ih =>
    intro h
    have h1 := h p (by simp)
    have h2 := ih fun q hq => h q (by simp [hq])
    simp only [List.length_cons, List.map_cons, List.sum_cons]
    omega
theorem Qur {ps : List (List Nd × List Nd)} (hv : Qbf ps) : ps.length ≤ 20000 := by
  refine Nat.le_trans (Jcc ps fun p hp => ?_) hv.1
  obtain ⟨_, _, _, _, h0, _⟩ := Qbx rfl (hv.2 p hp).1
  exact h0
theorem SolG.fin {ps : List (List Nd × List Nd)} {k : Nat} {w : World} {sb mb n : Nat} {X : Nat → Prop} {f : Nat → CC} {lk : Nat → Option Nat} {d : Nat → Nat} {K : (Option Addr × Nat × Nat) → List Nat} {U : Int → Int → Option Nat} {D : DataW Value} {rt : List Nat} {hf : Int → Nat → Nat} (h : SolG ps k (k - 1) (pairSum ps k) (Occ (ps.take k)) w sb mb n X f lk d K U D rt) (hv : Qbf ps) (hk : ps.length = k) (HH : ∀ t k, Hd (tdAt Classical.propDecidable X f t) k (hf t k)) (HXH : ∀ t k, X k → X (hf t k)) (hc : NoCyc K f hf U ((k - 1 : Nat) : Int)) :
    ∃ (σ : Int → List Nd) (θ : Nat → DT) (Lf : Nat → Prop) (rk sz : Nat → Nat), SolF ps X f lk K U σ θ ∧ LeftOk (fun h => K (f h).ks) (hf ((k - 1 : Nat) : Int)) Lf rk ∧ (∀ h, Lf h → sz h = 1 + ((K (f h).ks).map fun k' => sz (hf ((k - 1 : Nat) : Int) k')).sum) ∧ ∀ x b, U 1 x = some b → Lf (hf ((k - 1 : Nat) : Int) b) ∧ (σ x).length = sz (hf ((k - 1 : Nat) : Int) b) := by
  by_cases h0 : 0 < k
  · exact h.final hv hk h0 HH HXH hc
  · have hk0 : k = 0 := by omega
    subst hk0
    have hp : ps = [] := List.eq_nil_of_length_eq_zero hk
    subst hp
    have hU := h.occ0
    have hX : ∀ r, ¬ X r := by
      intro r hr
      have h1 := h.roots.1 r hr
      have h2 := h.roots.2
      have h3 : rt = [] := List.eq_nil_of_length_eq_zero (by simpa [pairSum] using h2)
      rw [h3] at h1
      simp at h1
    refine ⟨fun x => [Qav x], fun _ => Qbh (Qav 1), fun _ => False, fun _ => 0, fun _ => 0, ⟨⟨fun i j e => rfl, fun r hr => absurd hr (hX r)⟩, fun x b e => absurd e (hU 1 x b), Qqk, fun x => ⟨fun ⟨b, e⟩ => absurd e (hU 1 x b), fun ⟨p, hp, _⟩ => by simp at hp⟩⟩, ⟨fun _ h => h.elim⟩, fun _ h => h.elim, fun x b e => absurd e (hU 1 x b)⟩
def SvRes (ps : List (List Nd × List Nd)) (z : Nat) (gv : Value) (e : Ending) (w' : World) : Prop :=
  (∃ (ub r : Nat) (v : Addr), e = .returned (.tuple #[.pointer none, .iface 91 (.pointer (some ⟨ub, 0, none⟩))]) ∧ z ≤ ub ∧ w'.heap[ub]? = some (.cells #[.int .i64 (r : Int), .iface 143 (.pointer (some v))] 96 (0, 0)) ∧ SolveRes ps false (r : Int) []) ∨
  (∃ (ub r : Nat), e = .returned (.tuple #[.pointer none, .iface 91 (.pointer (some ⟨ub, 0, none⟩))]) ∧ z ≤ ub ∧ w'.heap[ub]? = some (.cells #[.int .i64 (r : Int), gv] 96 (0, 0)) ∧ SolveRes ps false (-1) []) ∨
  (∃ (sb mb n : Nat) (X : Nat → Prop) (f : Nat → CC) (lk : Nat → Option Nat) (d : Nat → Nat) (K : (Option Addr × Nat × Nat) → List Nat) (U : Int → Int → Option Nat) (D : DataW Value) (σ : Int → List Nd) (θ : Nat → DT), e = .returned (.tuple #[.pointer (some ⟨sb, 0, none⟩), .nilIface]) ∧ n ≤ 20000 ∧ (∀ r, X r → z ≤ r) ∧ CSto w' X f lk d K ∧ w'.cell? ⟨sb, 0, none⟩ = some (.map (some mb)) ∧ w'.ownsMap Tryz.prog 127 Qce mb n D ∧ UD U D ∧ (∀ l x b, U l x = some b → X b) ∧ (∀ x b, U 1 x = some b → (Lit.int .i64 x).wf = true) ∧ SolF ps X f lk K U σ θ ∧ ∀ x b, U 1 x = some b → (σ x).length ≤ 300)
theorem SvRes.clash {ps : List (List Nd × List Nd)} {z : Nat} {gv : Value} {v : Addr} {w : World} {r ub : Nat} (hub : w.heap.size = ub) (hz : z ≤ w.heap.size) (h : SolveRes ps false (r : Int) []) : SvRes ps z gv (.returned (.tuple #[.pointer none, .iface 91 (.pointer (some ⟨ub, 0, none⟩))])) (w.alloc (.cells #[.int .i64 (r : Int), .iface 143 (.pointer (some v))] 96)) :=
  .inl ⟨ub, r, v, rfl, by omega, hub ▸ heap_alloc_new _ _, h⟩
theorem SvRes.large {ps : List (List Nd × List Nd)} {z : Nat} {gv : Value} {w : World} {r ub : Nat} (hub : w.heap.size = ub) (hz : z ≤ w.heap.size) (h : SolveRes ps false (-1) []) : SvRes ps z gv (.returned (.tuple #[.pointer none, .iface 91 (.pointer (some ⟨ub, 0, none⟩))])) (w.alloc (.cells #[.int .i64 (r : Int), gv] 96)) :=
  .inr (.inl ⟨ub, r, rfl, by omega, hub ▸ heap_alloc_new _ _, h⟩)
theorem Qvi (ps : List (List Nd × List Nd)) (m : Nat) (HM : Hid (ps.length = m)) (HV : Hid (Qbf ps)) (HWF : Hid (∀ p ∈ ps, (∀ x ∈ p.1, (Lit.int .i64 x.num).wf = true) ∧ ∀ x ∈ p.2, (Lit.int .i64 x.num).wf = true)) (gt : TypeId) (gp : Value) (ao : Option Addr) (cap : Nat) (w : World) (hgv : w.cell? ⟨0, 0, none⟩ = some (.iface gt gp)) (hx : Pairs w ao ps) :
    Calls Tryz.prog 46 #[.slice ao m cap] w fun e w' => SvRes ps w.heap.size (.iface gt gp) e w' ∧ Below w.heap.size w w' := by
  obtain ⟨z, hz⟩ : ∃ z, w.heap.size = z := ⟨_, rfl⟩
  have HX : Hid (Pairs w ao ps) := hx
  have hm2 : m ≤ 20000 := by have := Qur HV.out; have := HM.out; omega
  clear hx
  go_enter Tryz.func46, Tryz.ntmps46
  go_wp2_with fail
  refine (Qtn ps w).mono ?_
  rintro e w1 ⟨sb, mb, rfl, hsb, hmb, hG, hb⟩
  rw [hz] at hsb hmb hb
  go_wp2
  go_loopw [13] (fun vi wr => ∃ (i n : Nat) (X : Nat → Prop) (f : Nat → CC) (lk : Nat → Option Nat) (d : Nat → Nat) (K : (Option Addr × Nat × Nat) → List Nat) (U : Int → Int → Option Nat) (D : DataW Value) (rt : List Nat), i ≤ m ∧ vi = .int .i64 (i : Int) ∧ SolG ps i (i - 1) (pairSum ps i) (Occ (ps.take i)) wr sb mb n X f lk d K U D rt ∧ (∀ r, X r → z ≤ r) ∧ Below z w wr) (fun vi _ => m - (intOf vi).toNat)
  case atStart => exact ⟨0, 0, _, _, _, _, _, _, _, _, Nat.zero_le _, rfl, hG.to (Nat.zero_le _) (fun _ h => h.elim), fun r h => h.elim, hb⟩
  case round =>
    clear hG hb
    obtain ⟨i, n, X, f, lk, d, K, U, D, rt, him, rfl, hG, hXz, hb⟩ := hrel
    have hbz := hb.size
    by_cases hlt : i < m
    · have hltx : i < ps.length := by have := HM.out; omega
      obtain ⟨b, o, a1, c1, a2, c2, hao, e1, e2, hn1, hn2⟩ := HX.out i hltx
      subst hao
      obtain ⟨la, hla⟩ : ∃ la, ps[i].1.length = la := ⟨_, rfl⟩
      obtain ⟨lc, hlc⟩ : ∃ lc, ps[i].2.length = lc := ⟨_, rfl⟩
      rw [hla] at e1
      rw [hlc] at e2
      have hbz' : b < w.heap.size := Qaa e1
      have e1 := (hb.cell (p := ⟨b, o + i * 2, none⟩) (by rw [← hz]; exact hbz')).trans e1
      have e2 := (hb.cell (p := ⟨b, o + i * 2 + 1, none⟩) (by rw [← hz]; exact hbz')).trans e2
      obtain ⟨s0, s1, s2, s3, s4, s5, s6, hsl⟩ := hG.blk.cell
      have f1 : wr.frozen? ⟨sb, 1, none⟩ = false := frozen_of_row wr sb 1 _ 107 hG.blk
      have hA : Below wr.heap.size wr (wr.alloc (.cells #[.slice a1 la c1, .slice a2 lc c2] 49)) := (Below.refl _ wr).alloc (Nat.le_refl _) _
      obtain ⟨W, hW⟩ : ∃ W, (wr.alloc (.cells #[.slice a1 la c1, .slice a2 lc c2] 49)).setCell ⟨sb, 1, none⟩ (.int .i64 (i : Int)) = W := ⟨_, rfl⟩
      have hbW : Below z w W := by
        rw [← hW]
        exact (hb.trans (hA.mono (by omega))).setCell (p := ⟨sb, 1, none⟩) hsb _
      have hGW : SolG ps i i (pairSum ps i) (Occ (ps.take i)) W sb mb n X f lk d K U D rt := by
        rw [← hW]
        exact (hG.below hA).time (by omega)
      have hdrew : Below W.heap.size W W.drew := ⟨rfl, rfl, rfl, Nat.le_refl _, fun _ _ => rfl⟩
      have hzW := hbW.size
      obtain ⟨R1, R2, HC1, HC2, HC3, HR1⟩ := Qtk hltx HV.out HWF.out (hGW.below hdrew) hz (hbW.trans (hdrew.mono (by omega))) hXz hmb la lc hla hlc a1 a2 c1 c2 hn1 hn2
      have HC2' : Hid _ := HC2
      have HC3' : Hid _ := HC3
      have hbox : W.heap[wr.heap.size]? = some (.cells #[.slice a1 la c1, .slice a2 lc c2] 49 (0, 0)) := by
        rw [← hW]
        exact (Below.heap_setCell _ ⟨sb, 1, none⟩ _ wr.heap.size (fun e => by have h9 : wr.heap.size = sb := e; omega)).trans (heap_alloc_new _ _)
      have q0 : W.cell? ⟨wr.heap.size, 0, none⟩ = some (.slice a1 la c1) := by rw [cell_of_row _ _ _ _ 49 (0, 0) hbox]; rfl
      have q1 : W.cell? ⟨wr.heap.size, 1, none⟩ = some (.slice a2 lc c2) := by rw [cell_of_row _ _ _ _ 49 (0, 0) hbox]; rfl
      have hlW : wr.heap.size < W.heap.size := Qaa q0
      have hmbl : mb < wr.heap.size := hG.stor.map.lt
      have HBX : Hid (∀ a w4, R1 a w4 → w4.cell? ⟨wr.heap.size, 1, none⟩ = some (.slice a2 lc c2) ∧ wr.heap.size < w4.heap.size) := by
        intro a w4 h
        have h9 := (HR1 a w4 h).cell (b := wr.heap.size) (o := 1) hlW (by omega)
        have h8 : w4.cell? ⟨wr.heap.size, 1, none⟩ = some (.slice a2 lc c2) := h9.trans q1
        exact ⟨h8, Qaa h8⟩
      have HE : Hid (∀ w6, PairRes ps i z (pairSum ps (i + 1)) w sb mb (.returned .nilIface) w6 → ∃ (n : Nat) (X : Nat → Prop) (f : Nat → CC) (lk : Nat → Option Nat) (d : Nat → Nat) (K : (Option Addr × Nat × Nat) → List Nat) (U : Int → Int → Option Nat) (D : DataW Value) (rt : List Nat), SolG ps (i + 1) (i + 1 - 1) (pairSum ps (i + 1)) (Occ (ps.take (i + 1))) w6 sb mb n X f lk d K U D rt ∧ (∀ r, X r → z ≤ r) ∧ Below z w w6) := by
        rintro w6 ⟨hb6, n, X, f, lk, d, K, U, D, rt, hX, ⟨_, h⟩ | ⟨⟨v, h⟩, _⟩⟩
        · exact ⟨n, X, f, lk, d, K, U, D, rt, h, hX, hb6⟩
        · cases h
      clear hn1 hn2 hla hlc HC2 HC3 HR1 hGW hbW hdrew hG hb hA hXz s0 s2 s3 s4 s5 s6 hbox
      go_wp2_with fail
      go_region_law (first
        | (go_simp; refine HC1.mono ?_; rintro e w4 ⟨a, rfl, hR1⟩; obtain ⟨q1', hl4⟩ := HBX.out a w4 hR1)
        | (go_simp; refine (HC2'.out a w4 hR1).mono ?_; rintro e w5 ⟨b', rfl, hR2⟩)
        | (go_simp; refine (HC3'.out a b' w5 hR2).mono ?_; intro e w6 hR3; obtain ⟨v6, hv6⟩ := hR3.ret; subst hv6))
      all_goals
        rcases Qtj hR3 with ⟨ev, hG6⟩ | ⟨v, ev, hb6, n6, X6, f6, lk6, d6, K6, U6, D6, rt6, dt6, hf6, hX6, hE6, HA6, HH6, HXH6, hno6⟩
        · subst ev
          have HE6 := HE.out w6 hR3
          clear hR1 hR2 hR3 q0 q1 q1' HC1 HC2' HC3' HBX HE hG6 e1 e2 s1 f1
          go_wp2
          go_roundw
          case rel =>
            obtain ⟨n', X', f', lk', d', K', U', D', rt', h1, h2, h3⟩ := HE6
            exact ⟨i + 1, n', X', f', lk', d', K', U', D', rt', by omega, by go_num, h1, h2, h3⟩
          case measure => simp [intOf]; omega
        · subst ev
          have hq6 : pairSum ps (i + 1) ≤ 20000 := by have := Qdl ps (i + 1); have := HV.out.1; omega
          have HCF := hE6.callFirst hq6 (by omega) HA6 HH6 HXH6 (m0 := 0) (by omega) hE6.walk
          have HRS : Hid (∀ r : Nat, r ≤ i → (r < i → Cyc U6 K6 f6 hf6 (r : Int)) → (0 < r → NoCyc K6 f6 hf6 U6 ((r : Int) - 1)) → SolveRes ps false (r : Int) []) := fun r h1 h2 h3 => hE6.resFail HV.out hltx HH6 HXH6 hno6 h1 h2 h3
          clear hR1 hR2 hR3 q0 q1 q1' HC1 HC2' HC3' HBX HE e1 e2 s1 f1 hE6 HA6 HH6 HXH6 hno6
          go_wp2_with fail
          refine HCF.mono ?_
          rintro e w7 ⟨r, hr, rfl, hJ7, hc7, hn7⟩
          have HRES := HRS.out r hr hc7 hn7
          have hb7 : Below z w w7 := Qcp hb6 hJ7.1 (by omega) (fun k hk => by rcases hk with h | h | h; exact hX6 k h; omega; cases h)
          have hz7 := hb7.size
          clear HCF HRS hJ7 hc7 hn7
          go_wp2
          go_ret2
          exact ⟨by rw [hz]; exact SvRes.clash rfl (by omega) HRES, by rw [hz]; exact hb7.alloc (by omega) _⟩
    · have hie : i = m := by omega
      subst hie
      have hE := hG.toE
      obtain ⟨dt, hf, HA, HH, HXH⟩ := hE.heads
      have hq : pairSum ps i ≤ 20000 := by have := Qdl ps i; have := HV.out.1; omega
      have hn2 : n ≤ 20000 := by have := hG.cnt; omega
      have HCH := hE.callHas hq HA HH HXH
      obtain ⟨s0, s1, _, _, _, _, _, hsl⟩ := hG.blk.cell
      have HFIN : Hid (NoCyc K f hf U ((i - 1 : Nat) : Int) → ∃ (σ : Int → List Nd) (θ : Nat → DT) (Lf : Nat → Prop) (rk sz : Nat → Nat), SolF ps X f lk K U σ θ ∧ LeftOk (fun h => K (f h).ks) (hf ((i - 1 : Nat) : Int)) Lf rk ∧ (∀ h, Lf h → sz h = 1 + ((K (f h).ks).map fun k' => sz (hf ((i - 1 : Nat) : Int) k')).sum) ∧ ∀ x b, U 1 x = some b → Lf (hf ((i - 1 : Nat) : Int) b) ∧ (σ x).length = sz (hf ((i - 1 : Nat) : Int) b)) := fun hc => hG.fin HV.out HM.out HH HXH hc
      have HCY : Hid (Cyc U K f hf ((i - 1 : Nat) : Int) → 0 < i) := by
        rintro ⟨lv, nu, c, x, hu, _⟩
        rcases Nat.eq_zero_or_pos i with h0 | h0
        · subst h0
          have hp : ps = [] := List.eq_nil_of_length_eq_zero HM.out
          subst hp
          exact absurd hu (hG.occ0 lv nu c)
        · exact h0
      have HRE : Hid (∀ r : Nat, Cyc U K f hf ((i - 1 : Nat) : Int) → r ≤ i - 1 → (r < i - 1 → Cyc U K f hf (r : Int)) → (0 < r → NoCyc K f hf U ((r : Int) - 1)) → SolveRes ps false (r : Int) []) := fun r hC h1 h2 h3 => hE.resEnd HV.out HM.out (HCY.out hC) HH HXH hC h1 h2 h3
      have HCF : Hid (∀ o0 w1, JW X f lk d K sb mb n ((i - 1 : Nat) : Int) o0 D w1 2 w1 → Calls Tryz.prog 77 #[.pointer (some ⟨sb, 0, none⟩)] w1 fun e w' => ∃ r : Nat, r ≤ i - 1 ∧ e = .returned (.int .i64 (r : Int)) ∧ JW X f lk d K sb mb n ((i - 1 : Nat) : Int) o0 D w1 (2 + 2 * ((i - 1 : Nat) : Int)) w' ∧ (r < i - 1 → Cyc U K f hf (r : Int)) ∧ (0 < r → NoCyc K f hf U ((r : Int) - 1))) := fun o0 w1 hJ => hE.callFirst hq (by omega) HA HH HXH (by omega) hJ
      have HUD : Hid (UD U D) := hG.stor.ud
      have HUX : Hid (∀ l x b, U l x = some b → X b) := hG.stor.inX
      have HU1 : Hid (∀ l x c, U l x = some c → l = 1) := hG.one
      have HWU : Hid (∀ x c, U 1 x = some c → (Lit.int .i64 x).wf = true) := hG.wf
      have HAC : Hid (Acyc lk d) := hG.stor.sto.acyc
      have HHL : Hid (∀ k, Hd lk k (hf ((i - 1 : Nat) : Int) k)) := fun k => (hG.hist.hd k _).2 (HH _ k)
      have HSX : Hid (¬ X sb) := hG.stor.sX
      clear hE hG HA HH HXH
      go_wp2_with fail
      refine HCH.mono ?_
      rintro e w8 ⟨b, rfl, hJ8, hT, hF⟩
      have hb8 : Below z w w8 := Qcp hb hJ8.1 (by omega) (fun k hk => by rcases hk with h | h | h; exact hXz k h; omega; cases h)
      have hz8 := hb8.size
      clear HCH
      cases b with
      | true =>
        have hC := hT rfl
        obtain ⟨o0, ho0, hJR⟩ := hJ8.rebase
        have HC9 := HCF.out o0 w8 hJR
        have HR9 : Hid _ := fun r => HRE.out r hC
        clear hT hF hJ8 hJR HCF HRE HFIN HCY s0 s1 hC
        go_wp2_with fail
        refine HC9.mono ?_
        rintro e w9 ⟨r, hr, rfl, hJ9, hc9, hn9⟩
        have HRES := HR9.out r hr hc9 hn9
        have hb9 : Below z w w9 := Qcp hb8 hJ9.1 (by omega) (fun k hk => by rcases hk with h | h | h; exact hXz k h; omega; have := ho0 k h; omega)
        have hz9 := hb9.size
        clear HC9 HR9 hJ9 hc9 hn9
        go_wp2
        go_ret2
        exact ⟨by rw [hz]; exact SvRes.clash (by simp) (by simp; omega) HRES, by rw [hz]; exact (hb9.alloc (by omega) _).alloc (by simp; omega) _⟩
      | false =>
        obtain ⟨σ, θ, Lf, rk, sz, hSF, hLf, hsz, hUL⟩ := HFIN.out (hF rfl)
        obtain ⟨hB8, hO8, sn, sa, sl, sc, P, t0, I0, L0, hW8, _⟩ := hJ8
        have hS8 := hW8.sto
        obtain ⟨y0, y1, _, _, _, _, _, hsl8⟩ := hW8.blk.cell
        have hsX8 := HSX.out
        have HLF : Hid (LeftOk (fun h => K (mkF f sn h).ks) (hf ((i - 1 : Nat) : Int)) Lf rk) := hLf
        have HSZ : Hid (∀ h, Lf h → sz h = 1 + ((K (mkF f sn h).ks).map (fun k' => sz (hf ((i - 1 : Nat) : Int) k'))).sum) := hsz
        have HUL : Hid (∀ x b, U 1 x = some b → Lf (hf ((i - 1 : Nat) : Int) b) ∧ (σ x).length = sz (hf ((i - 1 : Nat) : Int) b)) := hUL
        have HSF : Hid (SolF ps X f lk K U σ θ) := hSF
        clear hT hF HCF HRE HFIN HCY s0 s1 hB8 hW8 hLf hsz hUL hSF
        go_wp2_with (first
          | (at_range; refine wpList_range_own _ rfl _ 102 rfl 127 64 lawU Tryz.underlying102 Qce mb n D rfl hO8 ?_; intro w9 hrg0 hg0 hs0)
          | go_in)
        (try go_frame)
        have hB9 : But (fun _ => False) w8 w9 := ⟨hg0.os, hg0.tape, hg0.output, hg0.size, fun k hk _ => hg0.block k hk (by simp)⟩
        have hS9 := hS8.still hB9
        have hBX9 : But X w8 w9 := hB9.mono (fun _ h => h.elim)
        have HY : Hid (∀ wq, But X w8 wq → wq.cell? ⟨sb, 0, none⟩ = some (.map (some mb)) ∧ wq.cell? ⟨sb, 1, none⟩ = some (.int .i64 ((i - 1 : Nat) : Int)) ∧ wq.cell? ⟨0, 0, none⟩ = some (.iface gt gp) ∧ Below z w wq ∧ sb < wq.heap.size ∧ 0 < wq.heap.size) := by
          intro wq hbq
          have h9 : Below z w wq := Qcp hb8 hbq (by omega) hXz
          have hg0 : 0 < w.heap.size := Qaa hgv
          have hg9 := (h9.cell (p := ⟨0, 0, none⟩) (by rw [← hz]; exact hg0)).trans hgv
          have hy0 := (hbq.cell (b := sb) (o := 0) hsl8 hsX8).trans y0
          exact ⟨hy0, (hbq.cell (b := sb) (o := 1) hsl8 hsX8).trans y1, hg9, h9, Qaa hy0, Qaa hg9⟩
        clear hB9 hg0 hs0 hO8 hS8 y0 y1
        go_loopw [] (fun wr => ∃ (left : Lit → Bool) (cnt : Nat) (lk' : Nat → Option Nat), wr.ranges Tryz.prog 127 Qce mb w8.heap.size n D left cnt ∧ CSto wr X (mkF f sn) lk' d K ∧ SameHd lk lk' ∧ (∀ nu c, (Lit.int .i64 nu).wf = true → U 1 nu = some c → left (kU 1 nu) = false → (σ nu).length ≤ 300) ∧ But X w8 wr) (fun wr => wr.rangeLeft mb w8.heap.size)
        case atStart =>
          refine ⟨_, _, lk, hrg0, hS9, SameHd.refl lk, fun nu c h1 hu hl => ?_, hBX9⟩
          have h9 := (HUD.out.2 1 nu (by decide) h1).1
          rw [hl, hu] at h9
          cases h9
        case round =>
          clear hrg0 hS9 hBX9
          obtain ⟨left, cnt, lk', hrg, hS, hSH, hvis, hBX⟩ := hrel
          have hinvK : ∀ key kl, keyOf Tryz.prog 127 key = some kl → ∃ x : Int × Int, key = (fun x : Int × Int => Value.agg #[.int .i64 x.1, .int .i64 x.2]) x := fun key kl hk => by obtain ⟨x, hx, _⟩ := Qgg hk; exact ⟨x, hx⟩
          have hinvV : ∀ v y, Qce v = some y → ∃ q : Option Addr, v = Value.pointer q := fun v y hv => by
            cases v <;> first | exact ⟨_, rfl⟩ | (simp [Qce] at hv)
          go_wp2_with (first
            | (at_next; refine wpList_next_ranges _ rfl _ rfl 127 lawU Qce (fun x : Int × Int => Value.agg #[.int .i64 x.1, .int .i64 x.2]) Value.pointer hinvK hinvV mb w8.heap.size n D left cnt rfl hrg ?_ ?_)
            | go_in)
          · intro hc0 hl0
            obtain ⟨y0, y1, y2, y3, y4, y5⟩ := HY.out wr hBX
            have HRES : Hid (SvRes ps z (.iface gt gp) (.returned (.tuple #[.pointer (some ⟨sb, 0, none⟩), .nilIface])) wr) := by
              refine .inr (.inr ⟨sb, mb, n, X, mkF f sn, lk', d, K, U, D, σ, θ, rfl, hn2, hXz, hS, y0, hrg.owns, HUD.out, HUX.out, HWU.out, ⟨(hSH.sat HAC.out hS.acyc θ).2 HSF.out.sat, HSF.out.read, HSF.out.ok, HSF.out.occ⟩, fun x b e => ?_⟩)
              exact hvis x b (HWU.out x b e) e (by rw [hl0])
            clear hinvK hinvV hrg hS hSH hvis hl0 y0 y1 y2
            go_wp2
            go_ret2
            exact ⟨by rw [hz]; exact HRES.out, by rw [hz]; exact y3⟩
          · intro lv nu q kl yd yp w6 cnt6 hkey hleft hv hat hrg6 hlt6 hg6 hs6 hen
            obtain ⟨⟨lv', nu'⟩, ex, wl, wn, rfl⟩ := Qgg hkey
            obtain ⟨rfl, rfl⟩ : lv = lv' ∧ nu = nu' := by
              simp only [Value.agg.injEq] at ex
              have e9 := congrArg Array.toList ex
              simpa using e9
            simp only at wl wn hrg6 hleft hat
            have hyd := Qep hv
            simp only [Prod.mk.injEq] at hyd
            obtain ⟨rfl, rfl⟩ := hyd
            have hhas : Maps.has D (kU lv nu) = true := Maps.has_true_of_atKey hat
            obtain ⟨hu1, hu2⟩ := HUD.out.2 lv nu wl wn
            rw [hhas] at hu1
            obtain ⟨b, hUb⟩ := Option.isSome_iff_exists.1 hu1.symm
            have hq9 : q = some ⟨b, 0, none⟩ := by
              have h9 := (hat (.held (.pointer none))).symm.trans hu2
              rw [hUb] at h9
              simpa [ptr] using h9
            subst hq9
            have hlv1 := HU1.out lv nu b hUb
            subst hlv1
            have hXb : X b := HUX.out 1 nu b hUb
            obtain ⟨hLb, hlen⟩ := HUL.out nu b hUb
            have hrk := Qcu hrg
            have hbut6 : But (· = w8.heap.size) wr w6 := Qcj hg6
            have hS6 : CSto w6 X (mkF f sn) lk' d K := hS.aside hbut6 (fun hx => hrk.1 _ _ _ (hS.cells.at' _ hx)) (fun cur => hrk.1 cur _ _)
            have hB6 : But X w8 w6 := ⟨hbut6.os.trans hBX.os, hbut6.tape.trans hBX.tape, hbut6.output.trans hBX.output, Nat.le_trans hBX.size hbut6.size, fun j hj hn => (hbut6.block j (by have := hBX.size; omega) (by omega)).trans (hBX.block j hj hn)⟩
            have HCO := Qxu X (mkF f sn) d K (hf ((i - 1 : Nat) : Int)) Lf rk sz HLF HSZ _ lk' w6 b 300 rfl hS6 (fun k => (hSH k _).1 (HHL.out k)) hXb hLb (by omega)
            have hm7 : wr.rangeLeft mb w8.heap.size = cnt := hrg.left_eq
            have hrk6 := Qcu hrg6
            have HRG : Hid (∀ w7, But X w6 w7 → w7.ranges Tryz.prog 127 Qce mb w8.heap.size n D (fun z => left z && !z.sameKey (kU 1 nu)) cnt6) := fun w7 hb7 => Qek hrg6 hb7 (fun hx => hrk6.2 _ _ _ (hS6.cells.at' _ hx)) (fun hx => hrk6.1 _ _ _ (hS6.cells.at' _ hx))
            have HVIS : Hid ((σ nu).length ≤ 300 → ∀ nu' c, (Lit.int .i64 nu').wf = true → U 1 nu' = some c → (left (kU 1 nu') && !(kU 1 nu').sameKey (kU 1 nu)) = false → (σ nu').length ≤ 300) := by
              intro h3 nu' c h1 hu hl
              by_cases hs : nu' = nu
              · rw [hs]; exact h3
              · have h9 := Qjz (by decide : (Lit.int .i64 1).wf = true) h1 wl wn
                rw [decide_eq_false (fun h => hs h.2)] at h9
                rw [h9] at hl
                simp only [Bool.not_false, Bool.and_true] at hl
                exact hvis nu' c h1 hu hl
            have HLG : Hid (300 < (σ nu).length → SolveRes ps false (-1) []) := fun h9 => .large σ nu HV.out HSF.out.ok ((HSF.out.occ nu).1 ⟨b, hUb⟩) h9
            rw [← hlen] at HCO
            clear ex hinvK hinvV hkey hv hat hu1 hu2 hhas hrk hbut6 hrg6 hg6 hrg hS hS6 hvis hBX hrk6
            go_wp2_with fail
            refine HCO.mono ?_
            rintro e w7 ⟨r, rfl, hr1, hr2, hr3, hr4, lk7, hS7, hSH7, hB7⟩
            have hBX7 := hB6.trans hB7
            have hrg7 := HRG.out w7 hB7
            obtain ⟨y0, y1, y2, y3, y4, y5⟩ := HY.out w7 hBX7
            by_cases hbig : 300 < r
            · have HRES := HLG.out (by rcases Nat.lt_or_ge 300 (σ nu).length with h9 | h9; exact h9; have := hr1 h9; omega)
              have hbig' : (300 : Int) < (r : Int) := by omega
              clear HCO hr1 hr2 hS7 hSH7 hB7 HRG HVIS HLG hrg7
              have hz7 := y3.size
              have y3d : Below z w w7.drew := y3.trans ⟨rfl, rfl, rfl, Nat.le_refl _, fun _ _ => rfl⟩
              have hzd : w.heap.size ≤ w7.drew.heap.size := hz7
              have hse : w7.drew.heap.size = w7.heap.size := rfl
              go_wp2_with fail
              go_region_law (fail)
              all_goals
                go_wp2
                go_ret2
                exact ⟨by rw [hz]; exact SvRes.large hse (by omega) HRES, by rw [hz]; exact y3d.alloc (by omega) _⟩
            · have HV2 := HVIS.out (by rcases Nat.lt_or_ge 300 (σ nu).length with h9 | h9; have := hr2 h9; omega; exact h9)
              have hbig' : (r : Int) ≤ 300 := by omega
              clear HCO hr1 hr2 HRG HVIS HLG y0 y1 y2
              go_wp2
              go_roundw
              case rel => exact ⟨_, cnt6, lk7, hrg7, hS7, hSH.trans hSH7, HV2, hBX7⟩
              case measure => rw [hrg7.left_eq, hm7]; exact hlt6
end Go.Proofs.YtoiiibplkhedcaaGreatDoor
namespace Go.Proofs.YtoiiibplkhedcaaGreatDoor
open Go.RowKit
def AreRes (ps : List (List Nd × List Nd)) (e : Ending) : Prop := ∃ ok : Bool, e = .returned (.bool ok) ∧ (ok = true ↔ Qbf ps)
theorem AreRes.no {ps : List (List Nd × List Nd)} (h : ¬ Qbf ps) : AreRes ps (.returned (.bool false)) := ⟨false, rfl, by simp [h]⟩
theorem AreRes.yes {ps : List (List Nd × List Nd)} (h : Qbf ps) : AreRes ps (.returned (.bool true)) := ⟨true, rfl, by simp [h]⟩
theorem Qpv (ps : List (List Nd × List Nd)) (m : Nat) (HM : Hid (ps.length = m)) (hm : m ≤ 1048576) (HPL : Hid (∀ p ∈ ps, p.1.length ≤ 1048576 ∧ p.2.length ≤ 1048576)) (ao : Option Addr) (cap : Nat) (w : World) (hx : Pairs w ao ps) :
    Calls Tryz.prog 45 #[.slice ao m cap] w fun e w' => AreRes ps e ∧ Below w.heap.size w w' := by
  obtain ⟨z, hz⟩ : ∃ z, w.heap.size = z := ⟨_, rfl⟩
  have HXB : Hid (∀ wr, Below z w wr → Pairs wr ao ps) := fun wr h => hx.below (by rw [hz]; exact h)
  clear hx
  go_enter Tryz.func45, Tryz.ntmps45
  go_wp2
  go_loopw [3, 8] (fun vt vi wr => ∃ i : Nat, i ≤ m ∧ vi = .int .i64 (i : Int) ∧ vt = .int .i64 (pairSum ps i : Int) ∧ pairSum ps i ≤ 20000 ∧ (∀ p ∈ ps.take i, typeb p.1 = true ∧ typeb p.2 = true) ∧ Below z w wr) (fun _ vi _ => m - (intOf vi).toNat)
  case atStart => exact ⟨0, Nat.zero_le _, rfl, rfl, by simp [pairSum], by simp, by rw [← hz]; exact Below.refl _ _⟩
  case round =>
    obtain ⟨i, him, rfl, rfl, hsum, hall, hb⟩ := hrel
    have hbz := hb.size
    by_cases hlt : i < m
    · have hltx : i < ps.length := by have := HM.out; omega
      obtain ⟨b, o, a1, c1, a2, c2, hao, e1, e2, hn1, hn2⟩ := HXB.out wr hb i hltx
      subst hao
      obtain ⟨A, hA⟩ : ∃ A, ps[i].1 = A := ⟨_, rfl⟩
      obtain ⟨C, hC⟩ : ∃ C, ps[i].2 = C := ⟨_, rfl⟩
      rw [hA] at e1 hn1
      rw [hC] at e2 hn2
      obtain ⟨la, hla⟩ : ∃ la, A.length = la := ⟨_, rfl⟩
      obtain ⟨lc, hlc⟩ : ∃ lc, C.length = lc := ⟨_, rfl⟩
      rw [hla] at e1
      rw [hlc] at e2
      have hpl := HPL.out ps[i] (List.getElem_mem hltx)
      rw [hA, hC, hla, hlc] at hpl
      obtain ⟨t, ht⟩ : ∃ t, pairSum ps i = t := ⟨_, rfl⟩
      have HT : Hid (pairSum ps (i + 1) = t + la + lc) := by
        show pairSum ps (i + 1) = _
        rw [Qdz hltx, ht, hA, hC, hla, hlc]
      have HLA : Hid (A.length = la) := hla
      have HLC : Hid (C.length = lc) := hlc
      rw [ht] at hsum
      rw [ht]
      have HBAD : Hid ((¬ pairSum ps (i + 1) ≤ 20000 ∨ typeb A = false ∨ typeb C = false) → ¬ Qbf ps) := by
        intro h9 hv
        have hmem : ps[i] ∈ ps := List.getElem_mem hltx
        rcases h9 with h9 | h9 | h9
        · have := Qdl ps (i + 1)
          have := hv.1
          omega
        · rw [← hA, (hv.2 _ hmem).1] at h9; cases h9
        · rw [← hC, (hv.2 _ hmem).2] at h9; cases h9
      have HALL : Hid (typeb A = true → typeb C = true → ∀ p ∈ ps.take (i + 1), typeb p.1 = true ∧ typeb p.2 = true) := by
        intro h1 h2 p hp
        rw [List.take_succ_eq_append_getElem hltx] at hp
        rcases List.mem_append.1 hp with h9 | h9
        · exact hall p h9
        · simp only [List.mem_singleton] at h9
          subst h9
          rw [hA, hC]
          exact ⟨h1, h2⟩
      have hbl : b < wr.heap.size := Qaa e1
      clear ht hla hlc hA hC hall
      by_cases h20 : t + la + lc > 20000
      · have h20' : (20000 : Int) < (t : Int) + ((la : Int) + (lc : Int)) := by omega
        have HN : Hid (¬ Qbf ps) := HBAD.out (.inl (by rw [HT.out]; omega))
        clear hn1 hn2
        go_wp2
        go_ret
        exact ⟨AreRes.no HN.out, by rw [hz]; exact hb.alloc (by omega) _⟩
      · have h20' : (t : Int) + ((la : Int) + (lc : Int)) ≤ 20000 := by omega
        have hA : Below wr.heap.size wr (wr.alloc (.cells #[.slice a1 la c1, .slice a2 lc c2] 49)) := (Below.refl _ wr).alloc (Nat.le_refl _) _
        have q1 : (wr.alloc (.cells #[.slice a1 la c1, .slice a2 lc c2] 49)).cell? ⟨wr.heap.size, 1, none⟩ = some (.slice a2 lc c2) := by
          rw [cell_of_row _ _ _ _ 49 (0, 0) (heap_alloc_new _ _)]; rfl
        have hlW := Qaa q1
        have HC1 := Qbr A la HLA hpl.1 a1 c1 _ (hn1.below hA)
        have hnC := hn2.below hA
        have hbW := hb.trans (hA.mono (by omega))
        clear hn1 hn2 hb hA
        go_wp2_with fail
        refine HC1.mono ?_
        rintro e W1 ⟨rfl, hb3⟩
        have hb4 := hbW.trans (hb3.mono (by have := hbW.size; omega))
        have hnC1 := hnC.below hb3
        have q1' := (hb3.cell (p := ⟨wr.heap.size, 1, none⟩) hlW).trans q1
        have hl1 := Qaa q1'
        have HC2 := Qbr C lc HLC hpl.2 a2 c2 W1 hnC1
        clear hbW hb3 hnC q1 hlW HC1 hnC1 e1 e2 hbl
        cases hta : typeb A
        · have HN : Hid (¬ Qbf ps) := HBAD.out (.inr (.inl hta))
          clear HC2
          go_wp2
          go_ret
          exact ⟨AreRes.no HN.out, by rw [hz]; exact hb4⟩
        · go_wp2_with fail
          refine HC2.mono ?_
          rintro e W2 ⟨rfl, hb5⟩
          have hb6 := hb4.trans (hb5.mono (by have := hb4.size; omega))
          clear HC2 hb4 hb5 q1' hl1
          cases htc : typeb C
          · have HN : Hid (¬ Qbf ps) := HBAD.out (.inr (.inr htc))
            go_wp2
            go_ret
            exact ⟨AreRes.no HN.out, by rw [hz]; exact hb6⟩
          · have HAL : Hid (∀ p ∈ ps.take (i + 1), typeb p.1 = true ∧ typeb p.2 = true) := HALL.out hta htc
            have HT2 : Hid (pairSum ps (i + 1) ≤ 20000) := by show pairSum ps (i + 1) ≤ 20000; rw [HT.out]; omega
            go_wp2
            go_roundw
            case rel => exact ⟨i + 1, by omega, by go_num, by rw [HT.out]; go_num, HT2.out, HAL.out, hb6⟩
            case measure => simp [intOf]; omega
    · have hie : i = m := by omega
      subst hie
      have hse : pairSum ps i = (ps.map fun p => p.1.length + p.2.length).sum := by
        unfold pairSum
        rw [List.take_of_length_le (by have := HM.out; omega)]
      have HV : Hid (Qbf ps) := by
        refine ⟨by omega, ?_⟩
        rw [List.take_of_length_le (by have := HM.out; omega)] at hall
        exact hall
      clear hall
      go_wp2
      go_ret
      exact ⟨AreRes.yes HV.out, by rw [hz]; exact hb⟩
end Go.Proofs.YtoiiibplkhedcaaGreatDoor
