import Derived.Test.YtoiiibplkhedcaaGreatDoorWAS
set_option maxRecDepth 20000
set_option maxHeartbeats 4000000
namespace Go.Proofs.YtoiiibplkhedcaaGreatDoor
open Go.RowKit Go.Maps
def JW (X : Nat → Prop) (f : Nat → CC) (lk : Nat → Option Nat) (d : Nat → Nat) (K : (Option Addr × Nat × Nat) → List Nat) (sb mb n : Nat) (now : Int) (o0 : Option Nat) (D : DataW Value) (w : World) (m : Int) (w' : World) : Prop :=
  But (fun i => X i ∨ i = sb ∨ o0 = some i) w w' ∧ w'.ownsMap Tryz.prog 127 Qce mb n D ∧ ∃ sn sa sl sc P t0 I0 L0, WMem w' X f sn lk d K sb mb now t0 I0 L0 (sa, sl, sc) P ∧ (∀ b, X b → sn b ≤ L0) ∧ 0 ≤ L0 ∧ L0 ≤ m ∧ OwnNew o0 w.heap.size (sa, sl, sc)
def Cyc (U : Int → Int → Option Nat) (K : (Option Addr × Nat × Nat) → List Nat) (f : Nat → CC) (hf : Int → Nat → Nat) (t : Int) : Prop := ∃ lv nu c x, U lv nu = some c ∧ Downs (Qbc K f t) (hf t) (hf t c) x ∧ Downs (Qbc K f t) (hf t) x x
def NoCyc (K : (Option Addr × Nat × Nat) → List Nat) (f : Nat → CC) (hf : Int → Nat → Nat) (U : Int → Int → Option Nat) (t : Int) : Prop := ∃ (Lf : Nat → Prop) (rk : Nat → Nat), LeftOk (Qbc K f t) (hf t) Lf rk ∧ ∀ lv nu c, (Lit.int .i64 lv).wf = true → (Lit.int .i64 nu).wf = true → U lv nu = some c → Lf (hf t c)
theorem Qkf (X : Nat → Prop) (f : Nat → CC) (lk : Nat → Option Nat) (d : Nat → Nat) (dt : Int → Nat → Nat) (K : (Option Addr × Nat × Nat) → List Nat) (hf : Int → Nat → Nat) (xs : List Nat) (sb mb n : Nat) (now : Int) (o0 : Option Nat) (U : Int → Int → Option Nat) (D : DataW Value) (w : World) (HUD : Hid (UD U D)) (HUX : Hid (∀ l x b, U l x = some b → X b)) (HA : Hid (∀ t, Acyc (tdAt Classical.propDecidable X f t) (dt t))) (HI : Hid (∀ b j, X b → (f b).td = some j → X j)) (HH : Hid (∀ t k, Hd (tdAt Classical.propDecidable X f t) k (hf t k))) (HXH : Hid (∀ t k, X k → X (hf t k))) (HKX : Hid (∀ t q, X q → (∀ k ∈ Qbc K f t q, X k) ∧ (Qbc K f t q).length ≤ 20000)) (HXS : Hid (∀ b, X b → b ∈ xs)) (hxs : xs.length ≤ 900000)
    (m : Int) (hm : m ≤ 1000000) (w' : World) (hJ : JW X f lk d K sb mb n now o0 D w m w') (t : Int) :
    Calls Tryz.prog 78 #[.pointer (some ⟨sb, 0, none⟩), .int .i64 t] w' fun e w2 => ∃ b, e = .returned (.bool b) ∧ JW X f lk d K sb mb n now o0 D w (m + 2) w2 ∧ (b = true → Cyc U K f hf t) ∧ (b = false → NoCyc K f hf U t) := by
  obtain ⟨hB, hO, sn, sa, sl, sc, P, t0, I0, L0, hW, hsn, h0, hL, hOw⟩ := hJ
  refine (Qmw X f sn lk d (dt t) K (hf t) xs sb mb n now t t0 I0 L0 h0 (by omega) sa sl sc P U D w' hW hO HUD HUX (HA.out t) HI (HH.out t) (HXH.out t) (HKX.out t) HXS hxs hsn).mono ?_
  rintro e w2 ⟨b, rfl, hB2, hO2, ⟨sn2, sa2, sl2, sc2, P2, hW2, hsn2, hOw2⟩, hT, hF⟩
  exact ⟨b, rfl, ⟨Qnd hB hOw hB2, hO2, sn2, sa2, sl2, sc2, P2, _, _, _, hW2, hsn2, by omega, by omega, hOw.trans rfl hOw2 hB.size⟩, hT, hF⟩
theorem Qta (X : Nat → Prop) (f : Nat → CC) (lk : Nat → Option Nat) (d : Nat → Nat) (dt : Int → Nat → Nat) (K : (Option Addr × Nat × Nat) → List Nat) (hf : Int → Nat → Nat) (xs : List Nat) (sb mb n : Nat) (now : Int) (o0 : Option Nat) (U : Int → Int → Option Nat) (D : DataW Value) (w : World) (HUD : Hid (UD U D)) (HUX : Hid (∀ l x b, U l x = some b → X b)) (HA : Hid (∀ t, Acyc (tdAt Classical.propDecidable X f t) (dt t))) (HI : Hid (∀ b j, X b → (f b).td = some j → X j)) (HH : Hid (∀ t k, Hd (tdAt Classical.propDecidable X f t) k (hf t k))) (HXH : Hid (∀ t k, X k → X (hf t k))) (HKX : Hid (∀ t q, X q → (∀ k ∈ Qbc K f t q, X k) ∧ (Qbc K f t q).length ≤ 20000)) (HXS : Hid (∀ b, X b → b ∈ xs)) (hxs : xs.length ≤ 900000)
    (N : Nat) (hN : N ≤ 20000) (m0 : Int) (hm0 : m0 ≤ 900000) (hJ : JW X f lk d K sb mb n now o0 D w m0 w) :
    Calls Tryz.prog 99 #[.int .i64 (N : Int), .func (.func 78) #[.pointer (some ⟨sb, 0, none⟩)] #[]] w fun e w' => ∃ r : Nat, r ≤ N ∧ e = .returned (.int .i64 (r : Int)) ∧ JW X f lk d K sb mb n now o0 D w (m0 + 2 * N) w' ∧ (r < N → Cyc U K f hf (r : Int)) ∧ (0 < r → NoCyc K f hf U ((r : Int) - 1)) := by
  have HCJ : Hid (∀ m w' t, m ≤ 1000000 → JW X f lk d K sb mb n now o0 D w m w' → Calls Tryz.prog 78 #[.pointer (some ⟨sb, 0, none⟩), .int .i64 t] w' fun e w2 => ∃ b, e = .returned (.bool b) ∧ JW X f lk d K sb mb n now o0 D w (m + 2) w2 ∧ (b = true → Cyc U K f hf t) ∧ (b = false → NoCyc K f hf U t)) := fun m w' t hm hJ => Qkf X f lk d dt K hf xs sb mb n now o0 U D w HUD HUX HA HI HH HXH HKX HXS hxs m hm w' hJ t
  go_enter Tryz.func99, Tryz.ntmps99
  go_wp2
  go_loopw [5, 6] (fun vi vj wr => ∃ i j : Nat, i ≤ j ∧ j ≤ N ∧ vi = .int .i64 (i : Int) ∧ vj = .int .i64 (j : Int) ∧ JW X f lk d K sb mb n now o0 D w (m0 + 2 * ((N : Int) - ((j : Int) - (i : Int)))) wr ∧ (j < N → Cyc U K f hf (j : Int)) ∧ (0 < i → NoCyc K f hf U ((i : Int) - 1))) (fun vi vj _ => (intOf vj - intOf vi).toNat)
  case atStart => exact ⟨0, N, Nat.zero_le _, Nat.le_refl _, rfl, rfl, by simpa using hJ, fun h => absurd h (Nat.lt_irrefl _), fun h => absurd h (Nat.lt_irrefl _)⟩
  case round =>
    clear hJ
    obtain ⟨i, j, hij, hjN, rfl, rfl, hJ, hc, hnc⟩ := hrel
    by_cases hlt : i < j
    · obtain ⟨h, hh⟩ : ∃ h : Nat, ((i : Int) + (j : Int)) / 2 = (h : Int) := ⟨(i + j) / 2, by omega⟩
      have hh1 : i ≤ h ∧ h < j := by omega
      have HCL := HCJ.out _ wr (h : Int) (by omega) hJ
      clear hJ
      go_wp2_with fail
      refine HCL.mono ?_
      rintro e w2 ⟨b, rfl, hJ2, hT, hF⟩
      clear HCL
      cases b with
      | true =>
        have HC := hT rfl
        have HJ3 : Hid (JW X f lk d K sb mb n now o0 D w (m0 + 2 * ((N : Int) - ((h : Int) - (i : Int)))) w2) := by
          obtain ⟨q1, q2, sn, sa, sl, sc, P, t0, I0, L0, q3, q4, q5, q6, q7⟩ := hJ2
          exact ⟨q1, q2, sn, sa, sl, sc, P, t0, I0, L0, q3, q4, q5, by omega, q7⟩
        clear hT hF hJ2
        go_wp2
        go_roundw
        case rel => exact ⟨i, h, hh1.1, by omega, rfl, rfl, HJ3.out, fun _ => HC, hnc⟩
        case measure => simp [intOf]; omega
      | false =>
        have HC := hF rfl
        have HJ3 : Hid (JW X f lk d K sb mb n now o0 D w (m0 + 2 * ((N : Int) - ((j : Int) - ((h + 1 : Nat) : Int)))) w2) := by
          obtain ⟨q1, q2, sn, sa, sl, sc, P, t0, I0, L0, q3, q4, q5, q6, q7⟩ := hJ2
          exact ⟨q1, q2, sn, sa, sl, sc, P, t0, I0, L0, q3, q4, q5, by omega, q7⟩
        have HC2 : Hid (NoCyc K f hf U (((h + 1 : Nat) : Int) - 1)) := by
          have e9 : (((h + 1 : Nat) : Int) - 1) = (h : Int) := by omega
          rw [Hid, e9]
          exact HC
        clear hT hF hJ2 HC
        go_wp2
        go_roundw
        case rel => exact ⟨h + 1, j, by omega, hjN, by go_num, rfl, HJ3.out, hc, fun _ => HC2.out⟩
        case measure => simp [intOf]; omega
    · have hie : i = j := by omega
      subst hie
      have HR : Hid (JW X f lk d K sb mb n now o0 D w (m0 + 2 * N) wr) := by
        have e9 : m0 + 2 * ((N : Int) - ((i : Int) - (i : Int))) = m0 + 2 * N := by omega
        rw [e9] at hJ
        exact hJ
      clear hJ
      go_wp2
      go_ret
      exact ⟨i, hjN, rfl, HR.out, hc, hnc⟩
theorem Qkg (X : Nat → Prop) (f : Nat → CC) (lk : Nat → Option Nat) (d : Nat → Nat) (dt : Int → Nat → Nat) (K : (Option Addr × Nat × Nat) → List Nat) (hf : Int → Nat → Nat) (xs : List Nat) (sb mb n : Nat) (N : Nat) (hN : N ≤ 20000) (o0 : Option Nat) (U : Int → Int → Option Nat) (D : DataW Value) (w : World) (HUD : Hid (UD U D)) (HUX : Hid (∀ l x b, U l x = some b → X b)) (HA : Hid (∀ t, Acyc (tdAt Classical.propDecidable X f t) (dt t))) (HI : Hid (∀ b j, X b → (f b).td = some j → X j)) (HH : Hid (∀ t k, Hd (tdAt Classical.propDecidable X f t) k (hf t k))) (HXH : Hid (∀ t k, X k → X (hf t k))) (HKX : Hid (∀ t q, X q → (∀ k ∈ Qbc K f t q, X k) ∧ (Qbc K f t q).length ≤ 20000)) (HXS : Hid (∀ b, X b → b ∈ xs)) (hxs : xs.length ≤ 900000)
    (m0 : Int) (hm0 : m0 ≤ 900000) (hJ : JW X f lk d K sb mb n (N : Int) o0 D w m0 w) :
    Calls Tryz.prog 77 #[.pointer (some ⟨sb, 0, none⟩)] w fun e w' => ∃ r : Nat, r ≤ N ∧ e = .returned (.int .i64 (r : Int)) ∧ JW X f lk d K sb mb n (N : Int) o0 D w (m0 + 2 * N) w' ∧ (r < N → Cyc U K f hf (r : Int)) ∧ (0 < r → NoCyc K f hf U ((r : Int) - 1)) := by
  have HS := Qta X f lk d dt K hf xs sb mb n (N : Int) o0 U D w HUD HUX HA HI HH HXH HKX HXS hxs N hN m0 hm0 hJ
  have s1 : w.cell? ⟨sb, 1, none⟩ = some (.int .i64 (N : Int)) := by
    obtain ⟨_, _, sn, sa, sl, sc, P, t0, I0, L0, hW, _⟩ := hJ
    exact hW.blk.cell.2.1
  clear hJ
  go_enter Tryz.func77, Tryz.ntmps77
  go_wp2_with fail
  refine HS.mono ?_
  rintro e w2 ⟨r, hr, rfl, hres⟩
  have HR : Hid (JW X f lk d K sb mb n (N : Int) o0 D w (m0 + 2 * N) w2 ∧ (r < N → Cyc U K f hf (r : Int)) ∧ (0 < r → NoCyc K f hf U ((r : Int) - 1))) := hres
  clear hres HS
  go_wp2
  go_ret
  exact ⟨r, hr, rfl, HR.out⟩
end Go.Proofs.YtoiiibplkhedcaaGreatDoor
namespace Go.Proofs.YtoiiibplkhedcaaGreatDoor
open Go.RowKit
/-! Circles, and what can be written. -/
theorem Ot.kid {n : Nd} {ds : List DT} {xs : List Nd} (h : Ot xs (con n ds)) (hn : n.kids = (ds.length : Int)) : ∀ d ∈ ds, ∃ ys, Ot ys d ∧ ys.length < xs.length := by
  obtain ⟨m, xss, es, hm, hl, h1, rfl, e⟩ := h.last
  obtain rfl := Qfg e
  have e2 := Qfc e (by omega)
  subst e2
  intro d hd
  obtain ⟨i, hi, rfl⟩ := List.getElem_of_mem hd
  refine ⟨xss[i]'(by omega), h1 i (by omega) hi, ?_⟩
  have h9 : (xss[i]'(by omega)).length ≤ xss.flatten.length := by
    rw [List.length_flatten]
    have h8 := Qvd id (k := (xss[i]'(by omega)).length) (l := xss.map List.length) (List.mem_map.2 ⟨_, List.getElem_mem _, rfl⟩)
    rw [List.map_id] at h8
    exact h8
  simp only [List.length_append, List.length_cons, List.length_nil]
  omega
section
variable {kids : Nat → List Nat} {hf : Nat → Nat} {θ : Nat → DT} {P : Nat → Prop}
theorem Qpn (hθ : ∀ a, P a → kids a ≠ [] → ∃ n : Nd, n.kids = ((kids a).length : Int) ∧ θ a = con n ((kids a).map θ)) (hP : ∀ a, P a → ∀ k ∈ kids a, P (hf k) ∧ θ (hf k) = θ k) {a b : Nat} (h : Down kids hf a b) (ha : P a) {xs : List Nd} (hx : Ot xs (θ a)) : P b ∧ ∃ ys, Ot ys (θ b) ∧ ys.length < xs.length := by
  obtain ⟨k, hk, rfl⟩ := h
  obtain ⟨n, hn, e⟩ := hθ a ha (fun e => by rw [e] at hk; cases hk)
  rw [e] at hx
  have h9 := hx.kid (by simpa using hn) (θ k) (List.mem_map.2 ⟨k, hk, rfl⟩)
  rw [(hP a ha k hk).2]
  exact ⟨(hP a ha k hk).1, h9⟩
theorem Qlv (hθ : ∀ a, P a → kids a ≠ [] → ∃ n : Nd, n.kids = ((kids a).length : Int) ∧ θ a = con n ((kids a).map θ)) (hP : ∀ a, P a → ∀ k ∈ kids a, P (hf k) ∧ θ (hf k) = θ k) {a b : Nat} (h : Downs kids hf a b) : P a → ∀ {xs : List Nd}, Ot xs (θ a) → P b ∧ ∃ ys, Ot ys (θ b) ∧ ys.length < xs.length := by
  induction h using Downs.elim with
  | one h => intro ha xs hx; exact Qpn hθ hP h ha hx
  | more h _ ih =>
    intro ha xs hx
    obtain ⟨hb, ys, h1, h2⟩ := Qpn hθ hP h ha hx
    obtain ⟨hc, zs, h3, h4⟩ := ih hb h1
    exact ⟨hc, zs, h3, by omega⟩
theorem Qxw (hθ : ∀ a, P a → kids a ≠ [] → ∃ n : Nd, n.kids = ((kids a).length : Int) ∧ θ a = con n ((kids a).map θ)) (hP : ∀ a, P a → ∀ k ∈ kids a, P (hf k) ∧ θ (hf k) = θ k) {a x : Nat} (h1 : Downs kids hf a x) (h2 : Downs kids hf x x) (ha : P a) {xs : List Nd} (hx : Ot xs (θ a)) : False := by
  obtain ⟨hp, ys, f1, _⟩ := Qlv hθ hP h1 ha hx
  obtain ⟨_, zs, f2, l2⟩ := Qlv hθ hP h2 hp f1
  have := f1.same f2
  subst this
  omega
end
theorem Qke {lk : Nat → Option Nat} {i r : Nat} (h : Hd lk i r) : lk r = none := by
  induction h using Hd.elim with
  | root h => exact h
  | step _ _ ih => exact ih
theorem Qgu {X : Nat → Prop} {g : Nat → GC} {lk : Nat → Option Nat} {θ : Nat → DT} (hs : SatC X g lk θ) {i r : Nat} (h : Hd lk i r) : θ r = θ i := by
  induction h using Hd.elim with
  | root _ => rfl
  | step h1 _ ih => rw [ih, hs.1 _ _ h1]
theorem Jdi (σ : Nd → DT) {t : List Nd} (hl : Leafy t) (h : One t) : ∃ d, Ev σ t d := by
  have hne := List.length_pos_iff.2 h.ne
  obtain ⟨s, ys, hA⟩ := h
  have hf := Qaf hA
  have hc := hf.chain.2.2.1 (by simp)
  simp only [List.getElem_cons_zero, List.length_cons, List.length_nil, Nat.zero_add, Nat.sub_self] at hc
  have hm := hf.mem 0 (by simp)
  simp only [List.getElem_cons_zero] at hm
  have hrt : s.rt = t.length - 1 := by omega
  rw [hrt] at hm
  have hsp : span t s.fr (t.length - 1) = t := by
    unfold span
    rw [hc.1, List.drop_zero, List.take_of_length_le (by omega)]
  obtain ⟨d, hd⟩ := Jck σ hl hA (t.length - 1) (by omega) s hm
  rw [hsp] at hd
  exact ⟨d, hd⟩
theorem Qfx {ps : List (List Nd × List Nd)} (hps : ∀ p ∈ ps, (Leafy p.1 ∧ One p.1) ∧ Leafy p.2 ∧ One p.2) {ρ : Int → List Nd} {D : Int → DT} (hD : ∀ x, Ot (ρ x) (D x)) {m : Nat} (hsol : Solves ρ (ps.take m)) (i : Nat) (hi : i < ps.length) (him : i < m) : Holds (fun n => D n.num) ps[i] := by
  have hp := hps ps[i] (List.getElem_mem hi)
  obtain ⟨d1, e1⟩ := Jdi (fun n => D n.num) hp.1.1 hp.1.2
  obtain ⟨d2, e2⟩ := Jdi (fun n => D n.num) hp.2.1 hp.2.2
  refine Jan (ρ := ρ) (fun n => hD n.num) e1 e2 (hsol ps[i] ?_)
  rw [List.mem_take_iff_getElem]
  exact ⟨i, by omega, rfl⟩
section
variable {ps : List (List Nd × List Nd)} {k : Nat} {X : Nat → Prop} {f : Nat → CC} {K : (Option Addr × Nat × Nat) → List Nat} {U : Int → Int → Option Nat} {hf : Int → Nat → Nat}
theorem TimeM.cyc (M : TimeM ps k X f K U) (hps : ∀ p ∈ ps, (Leafy p.1 ∧ One p.1) ∧ Leafy p.2 ∧ One p.2) (hU1 : ∀ l x c, U l x = some c → l = 1) (hin : ∀ b, X b → ∀ k ∈ K (f b).ks, X k) (har : ∀ b, X b → ((K (f b).ks).length : Int) = (f b).nd.kids) (hmet : ∀ b, X b → (f b).nd.kind = 61 → K (f b).ks = [])
    (hH : ∀ t k, Hd (tdAt Classical.propDecidable X f t) k (hf t k)) (hXH : ∀ t k, X k → X (hf t k)) {t : Nat} (ht : t < k) (hc : Cyc U K f hf (t : Int)) (ρ : Int → List Nd) (hρ : ∀ x, One (ρ x)) (hsol : Solves ρ (ps.take (t + 1))) : False := by
  obtain ⟨D, hD⟩ := Classical.axiomOfChoice fun x => Jbz (hρ x)
  obtain ⟨θ, h1, h2⟩ := M.full t ht D fun i hi hit => Qfx hps hD hsol i hi (by omega)
  obtain ⟨lv, nu, c, x, hu, d1, d2⟩ := hc
  obtain rfl := hU1 lv nu c hu
  have hX := M.inX nu c hu
  refine Qxw (θ := θ) (P := fun a => X a ∧ tdAt Classical.propDecidable X f (t : Int) a = none) ?_ ?_ d1 d2 ⟨hXH _ c hX, Qke (hH _ c)⟩ (xs := ρ nu) ?_
  · intro a ha hk
    have hnt : ¬ ((t : Int) < (f a).told) := fun h9 => hk (by unfold Qbc; rw [if_pos h9])
    have ek : Qbc K f t a = K (f a).ks := by unfold Qbc; rw [if_neg hnt]
    rw [ek] at hk ⊢
    refine ⟨(f a).nd, (har a ha.1).symm, ?_⟩
    refine h1.2 a ha.1 ha.2 ?_
    have hk61 : (f a).nd.kind ≠ 61 := fun e => hk (hmet a ha.1 e)
    simp [gcAt, hnt, CC.open?, hk61]
  · intro a ha j hj
    have hXj : X j := by
      unfold Qbc at hj
      split at hj
      · cases hj
      · exact hin a ha.1 j hj
    exact ⟨⟨hXH _ j hXj, Qke (hH _ j)⟩, Qgu h1 (hH _ j)⟩
  · rw [Qgu h1 (hH _ c), h2 nu c hu]
    exact hD nu
end
end Go.Proofs.YtoiiibplkhedcaaGreatDoor
namespace Go.Proofs.YtoiiibplkhedcaaGreatDoor
open Go.RowKit
/-! Where there is no circle, a cell can be read as a term. -/
theorem Ev.ot {xs : List Nd} {d : DT} (h : Ev Qbh xs d) : Ot xs d := by
  induction h using Ev.elim with
  | leaf n hk h0 => exact Ot.node n [] [] (by simpa using h0) rfl (fun i h1 => by simp at h1)
  | node n hk xss ds hn hl h ih => exact Ot.node n xss ds hn hl ih
def Qko (X : Nat → Prop) (g : Nat → GC) (lk : Nat → Option Nat) (leaf : Nat → Nd) (k : Nat) (xs : List Nd) : Prop :=
  ∀ (θ : Nat → DT) (σ : Nd → DT), SatC X g lk θ → (∀ r, X r → lk r = none → (g r).op = true → σ (leaf r) = θ r) → Ev σ xs (θ k)
section
variable {ps : List (List Nd × List Nd)} {k : Nat} {X : Nat → Prop} {f : Nat → CC} {K : (Option Addr × Nat × Nat) → List Nat} {U : Int → Int → Option Nat} {hf : Int → Nat → Nat} {leaf : Nat → Nd}
theorem Qvv {Q : Nd → Prop} (hQ : ∀ t r, X r → ((gcAt K f t r).op = true → Q (leaf r)) ∧ Q (f r).nd) (hleaf : ∀ r, (leaf r).kind = 61 ∧ (leaf r).kids = 0) (hopen : ∀ b, X b → (f b).nd.kind = 61 → (f b).lv = 1) (hin : ∀ b, X b → ∀ k ∈ K (f b).ks, X k) (har : ∀ b, X b → ((K (f b).ks).length : Int) = (f b).nd.kids)
    (hH : ∀ t k, Hd (tdAt Classical.propDecidable X f t) k (hf t k)) (hXH : ∀ t k, X k → X (hf t k)) {t : Int} {Lf : Nat → Prop} {rk : Nat → Nat} (hL : LeftOk (Qbc K f t) (hf t) Lf rk) : ∀ m k, X k → Lf (hf t k) → rk (hf t k) < m → ∃ xs, Qko X (gcAt K f t) (tdAt Classical.propDecidable X f t) leaf k xs ∧ (∀ n : Nd, xs = [n] → n.kind = 61 → (gcAt K f t (hf t k)).op = true ∧ n = leaf (hf t k)) ∧ ∀ n ∈ xs, Q n := by
  intro m
  induction m with
  | zero => intro k _ _ h; omega
  | succ m ih =>
    intro k hX hl hm
    have hXr := hXH t k hX
    have hroot := Qke (hH t k)
    cases ho : (gcAt K f t (hf t k)).op with
    | true =>
      refine ⟨[leaf (hf t k)], fun θ σ hs hσ => ?_, fun n e _ => ⟨rfl, by simpa using e.symm⟩, fun n hn => by rw [List.mem_singleton] at hn; rw [hn]; exact (hQ t _ hXr).1 ho⟩
      have h9 := Ev.leaf (σ := σ) (leaf (hf t k)) (hleaf _).1 (hleaf _).2
      rw [hσ _ hXr hroot ho, Qgu hs (hH t k)] at h9
      exact h9
    | false =>
      have ho2 := ho
      simp only [gcAt, Bool.or_eq_false_iff, decide_eq_false_iff_not] at ho2
      have hk61 : (f (hf t k)).nd.kind ≠ 61 := by
        intro e
        have h9 := ho2.2
        unfold CC.open? at h9
        rw [e, hopen _ hXr e] at h9
        simp at h9
      have ek : Qbc K f t (hf t k) = K (f (hf t k)).ks := by unfold Qbc; rw [if_neg ho2.1]
      have hk : ∀ j, ∃ xs, j ∈ K (f (hf t k)).ks → Qko X (gcAt K f t) (tdAt Classical.propDecidable X f t) leaf j xs ∧ ∀ n ∈ xs, Q n := by
        intro j
        by_cases hj : j ∈ K (f (hf t k)).ks
        · have h9 := hL.down _ hl j (by rw [ek]; exact hj)
          obtain ⟨xs, h1, _, h3⟩ := ih j (hin _ hXr j hj) h9.1 (by omega)
          exact ⟨xs, fun _ => ⟨h1, h3⟩⟩
        · exact ⟨[], fun h => absurd h hj⟩
      obtain ⟨F, hF⟩ := Classical.axiomOfChoice hk
      refine ⟨((K (f (hf t k)).ks).map F).flatten ++ [(f (hf t k)).nd], fun θ σ hs hσ => ?_, fun n e h61 => ?_, fun n hn => ?_⟩
      · have h9 := hs.2 _ hXr hroot ho
        simp only [gcAt] at h9
        rw [← Qgu hs (hH t k), h9]
        refine Ev.node _ hk61 _ _ (by rw [← har _ hXr]; simp) (by simp) (fun i h1 h2 => ?_)
        simp only [List.getElem_map]
        exact (hF _ (List.getElem_mem _)).1 θ σ hs hσ
      · have h9 := (List.append_inj' (s₂ := []) e rfl).2
        simp only [List.cons.injEq, and_true] at h9
        rw [← h9] at h61
        exact absurd h61 hk61
      · rw [List.mem_append, List.mem_singleton] at hn
        rcases hn with hn | rfl
        · obtain ⟨l, hl1, hl2⟩ := List.mem_flatten.1 hn
          obtain ⟨j, hj, rfl⟩ := List.mem_map.1 hl1
          exact (hF j hj).2 n hl2
        · exact (hQ t _ hXr).2
def gV (g : Nat → GC) (leaf : Nat → Nd) (i : Nat) : GC := if (g i).op = true then ⟨leaf i, [], true⟩ else g i
theorem Qmk (g : Nat → GC) (lk : Nat → Option Nat) (h : Nat → Nat) (hh : ∀ k, Hd lk k (h k)) : SatC X g lk (fun i p => val (gV g leaf) h p i) ∧ ∀ r, lk r = none → (g r).op = true → Qbh (leaf r) = fun p => val (gV g leaf) h p r := by
  have h2 : ∀ i, lk i = none → h i = i := fun i e => (hh i).fun (.root e)
  have h1 := Qvn (X := X) (g := gV g leaf) (lk := lk) (hd := h) (fun i j e => (hh i).fun (.step e (hh j))) h2
  refine ⟨⟨h1.1, fun i hi hl ho => ?_⟩, fun r hl ho => ?_⟩
  · have e9 : gV g leaf i = g i := by unfold gV; rw [if_neg (by rw [ho]; decide)]
    have h9 := h1.2 i hi hl (by rw [e9]; exact ho)
    rw [e9] at h9
    exact h9
  · have e9 : gV g leaf r = ⟨leaf r, [], true⟩ := by unfold gV; rw [if_pos ho]
    rw [Qmc, h2 r hl, e9]
    rfl
theorem TimeM.noCyc {Q : Nd → Prop} (M : TimeM ps k X f K U) (hQ : ∀ t r, X r → ((gcAt K f t r).op = true → Q (leaf r)) ∧ Q (f r).nd) (hleaf : ∀ r, (leaf r).kind = 61 ∧ (leaf r).kids = 0) (hopen : ∀ b, X b → (f b).nd.kind = 61 → (f b).lv = 1) (hwf : ∀ x c, U 1 x = some c → (Lit.int .i64 x).wf = true) (hin : ∀ b, X b → ∀ k ∈ K (f b).ks, X k) (har : ∀ b, X b → ((K (f b).ks).length : Int) = (f b).nd.kids)
    (hH : ∀ t k, Hd (tdAt Classical.propDecidable X f t) k (hf t k)) (hXH : ∀ t k, X k → X (hf t k)) {t : Nat} (ht : t < k) (hc : NoCyc K f hf U (t : Int)) :
    ∃ ρ : Int → List Nd, (∀ x, One (ρ x)) ∧ Solves ρ (ps.take (t + 1)) ∧ (∀ x, U 1 x = none → ρ x = [Qav x]) ∧ ∀ x b, U 1 x = some b → Qko X (gcAt K f t) (tdAt Classical.propDecidable X f t) leaf b (ρ x) ∧ (∀ n : Nd, ρ x = [n] → n.kind = 61 → (gcAt K f t (hf t b)).op = true ∧ n = leaf (hf t b)) ∧ ∀ n ∈ ρ x, Q n := by
  obtain ⟨Lf, rk, hL, hU⟩ := hc
  have hch : ∀ x, ∃ xs : List Nd, (U 1 x = none → xs = [Qav x]) ∧ ∀ b, U 1 x = some b → Qko X (gcAt K f t) (tdAt Classical.propDecidable X f t) leaf b xs ∧ (∀ n : Nd, xs = [n] → n.kind = 61 → (gcAt K f t (hf t b)).op = true ∧ n = leaf (hf t b)) ∧ ∀ n ∈ xs, Q n := by
    intro x
    cases e : U 1 x with
    | none => exact ⟨[Qav x], fun _ => rfl, (fun b h => by cases h)⟩
    | some b =>
      obtain ⟨xs, h1, h2, h3⟩ := Qvv hQ hleaf hopen hin har hH hXH hL _ b (M.inX x b e) (hU 1 x b (by decide) (hwf x b e) e) (Nat.lt_succ_self _)
      exact ⟨xs, (fun h => by cases h), (fun c h => by cases h; exact ⟨h1, h2, h3⟩)⟩
  obtain ⟨ρ, hρ⟩ := Classical.axiomOfChoice hch
  obtain ⟨s1, s2⟩ := Qmk (X := X) (leaf := leaf) (gcAt K f t) (tdAt Classical.propDecidable X f t) (hf t) (hH t)
  have hev : ∀ x b, U 1 x = some b → Ot (ρ x) (fun p => val (gV (gcAt K f t) leaf) (hf t) p b) := fun x b e => (((hρ x).2 b e).1 _ Qbh s1 (fun r _ hl ho => s2 r hl ho)).ot
  refine ⟨ρ, fun x => ?_, fun p hp => ?_, fun x => (hρ x).1, fun x b e => (hρ x).2 b e⟩
  · cases e : U 1 x with
    | none => rw [(hρ x).1 e]; exact Qbu x
    | some b => exact (hev x b e).one
  · rw [List.mem_take_iff_getElem] at hp
    obtain ⟨i, hi, rfl⟩ := hp
    refine Qvh (M.sound t ht _ s1 i (by omega) (by omega)) (fun n hn h61 => ?_)
    obtain ⟨b, hb⟩ := M.known i (by omega) (by omega) n hn h61
    have e9 : sg U 1 (fun i p => val (gV (gcAt K f t) leaf) (hf t) p i) n = fun p => val (gV (gcAt K f t) leaf) (hf t) p b := by
      unfold sg
      rw [hb]
    rw [e9]
    exact hev _ b hb
end
end Go.Proofs.YtoiiibplkhedcaaGreatDoor
namespace Go.Proofs.YtoiiibplkhedcaaGreatDoor
open Go.RowKit
/-! The solution that is as general as can be, out of a store without a circle. -/
theorem Qgr (x : Int) (h : 1 ≤ x) : (Qav x).plainb = true := by simp [Nd.plainb, Qav, h]
def Qfi (f : Nat → CC) (r : Nat) : Nd := if (f r).nd.kind = 61 ∧ (f r).nd.kids = 0 then (f r).nd else Qav 1
theorem Qmq (f : Nat → CC) (r : Nat) : (Qfi f r).kind = 61 ∧ (Qfi f r).kids = 0 := by
  unfold Qfi
  split
  · assumption
  · exact ⟨rfl, rfl⟩
section
variable {ps : List (List Nd × List Nd)} {N : Nat} {X : Nat → Prop} {f : Nat → CC} {lk : Nat → Option Nat} {K : (Option Addr × Nat × Nat) → List Nat} {U : Int → Int → Option Nat} {hf : Int → Nat → Nat}
theorem Hist.op {now : Int} (H : Hist X f lk now) {r : Nat} (hr : X r) (ho : (gcAt K f now r).op = true) : (f r).open? = true := by
  have h9 := (H.told r hr).2
  simp only [gcAt, Bool.or_eq_true, decide_eq_true_eq] at ho
  rcases ho with ho | ho
  · omega
  · exact ho
theorem Qib (har : ∀ b, X b → ((K (f b).ks).length : Int) = (f b).nd.kids) (hmet : ∀ b, X b → (f b).nd.kind = 61 → K (f b).ks = []) {r : Nat} (hr : X r) (ho : (f r).open? = true) : Qfi f r = (f r).nd := by
  have hk : (f r).nd.kind = 61 := by
    unfold CC.open? at ho
    simp only [Bool.and_eq_true, beq_iff_eq] at ho
    exact ho.1
  have h0 := har r hr
  rw [hmet r hr hk] at h0
  unfold Qfi
  rw [if_pos ⟨hk, by simpa using h0.symm⟩]
theorem TimeM.solveOk (M : TimeM ps (N + 1) X f K U) (hN : ps.length = N + 1) (H : Hist X f lk (N : Int)) (hNum : NumOk X (U 1) f lk) (hps : ∀ p ∈ ps, (Leafy p.1 ∧ One p.1) ∧ Leafy p.2 ∧ One p.2) (hpl : ∀ r, X r → (f r).nd.plainb = true) (hwf : ∀ x c, U 1 x = some c → (Lit.int .i64 x).wf = true)
    (hin : ∀ b, X b → ∀ k ∈ K (f b).ks, X k) (har : ∀ b, X b → ((K (f b).ks).length : Int) = (f b).nd.kids) (hmet : ∀ b, X b → (f b).nd.kind = 61 → K (f b).ks = []) (hH : ∀ t k, Hd (tdAt Classical.propDecidable X f t) k (hf t k)) (hXH : ∀ t k, X k → X (hf t k)) (hc : NoCyc K f hf U (N : Int)) :
    ∃ σ : Int → List Nd, SolveOk ps σ ∧ ∀ x b, U 1 x = some b → Qko X (gcAt K f N) (tdAt Classical.propDecidable X f N) (Qfi f) b (σ x) := by
  obtain ⟨σ, h1, h2, h3, h4⟩ := M.noCyc (Q := fun n => n.plainb = true) (leaf := Qfi f) (fun t r hr => ⟨fun _ => by
    unfold Qfi
    split
    · exact hpl r hr
    · exact Qgr 1 (by omega), hpl r hr⟩) (Qmq f) H.open' hwf hin har hH hXH (t := N) (by omega) hc
  rw [List.take_of_length_le (by omega)] at h2
  have hHd : ∀ {i r : Nat}, Hd lk i r ↔ Hd (tdAt Classical.propDecidable X f N) i r := fun {i r} => H.hd i r
  refine ⟨σ, ⟨h1, fun x hx => ?_, h2, fun θ' ho hs x => ?_, fun x y e => ?_⟩, fun x b e => (h4 x b e).1⟩
  · cases e : U 1 x with
    | none =>
      rw [h3 x e]
      simp [Qgr x hx]
    | some b => exact List.all_eq_true.2 fun n hn => (h4 x b e).2.2 n hn
  · obtain ⟨D, hD⟩ := Classical.axiomOfChoice fun x => Jbz (ho x)
    obtain ⟨θ, t1, t2⟩ := M.full N (by omega) D fun i hi hit => Qfx hps hD (m := N + 1) (by rw [List.take_of_length_le (by omega)]; exact hs) i hi (by omega)
    cases e : U 1 x with
    | none =>
      rw [h3 x e]
      simp [fill, Qas, Qav]
    | some b =>
      have h9 := (h4 x b e).1 θ (fun n => D n.num) t1 (fun r hr hl hop => by
        have hop2 := H.op hr hop
        rw [Qib har hmet hr hop2]
        obtain ⟨b', u1, u2⟩ := hNum.has r hr (H.hd.symm.rootN hl) hop2
        rw [← t2 _ b' u1]
        exact (Qgu t1 (hHd.1 u2)).symm)
      have h8 := h9.written (ρ := θ') fun n _ _ => hD n.num
      rw [t2 x b e] at h8
      exact h8.same (hD x)
  · cases e2 : U 1 x with
    | none =>
      rw [h3 x e2] at e
      have := Qfu e
      omega
    | some b =>
      obtain ⟨p1, p2⟩ := (h4 x b e2).2.1 (Qav y) e rfl
      have hXr := hXH N b (M.inX x b e2)
      have hop := H.op hXr p1
      rw [Qib har hmet hXr hop] at p2
      have h9 := hNum.low x b _ e2 (hHd.2 (hH N b)) hop
      rw [← p2] at h9
      exact h9
end
end Go.Proofs.YtoiiibplkhedcaaGreatDoor
namespace Go.Proofs.YtoiiibplkhedcaaGreatDoor
open Go.RowKit
/-! How long the terms are that cells are read as. -/
def szT (ep : (List Nd → Prop) → List Nd) (th : Nat → DT) (h : Nat) : Nat := (ep fun xs => Ot xs (th h)).length
theorem Qva {θ : Nat → DT} {h : Nat} {xs : List Nd} (hx : Ot xs (θ h)) : szT Classical.epsilon θ h = xs.length := by
  have e : ∃ xs, Ot xs (θ h) := ⟨xs, hx⟩
  unfold szT
  rw [(Classical.epsilon_spec e).same hx]
theorem Qvb {θ : Nat → DT} {h : Nat} {n : Nd} {ks : List Nat} {hf : Nat → Nat} (he : θ h = con n (ks.map θ)) (hn : n.kids = (ks.length : Int)) (hr : ∀ k ∈ ks, θ (hf k) = θ k) {xs : List Nd} (hx : Ot xs (θ h)) : szT Classical.epsilon θ h = 1 + (ks.map fun k => szT Classical.epsilon θ (hf k)).sum := by
  rw [Qva hx]
  rw [he] at hx
  obtain ⟨m, xss, es, hm, hl, h1, rfl, e⟩ := hx.last
  obtain rfl := Qfg e
  have e2 := Qfc e (by simp; omega)
  subst e2
  have e3 : (ks.map fun k => szT Classical.epsilon θ (hf k)) = xss.map List.length := by
    apply List.ext_getElem (by simpa using hl)
    intro i i1 i2
    simp only [List.getElem_map]
    have hi : i < ks.length := by simpa using i1
    refine Qva ?_
    rw [hr _ (List.getElem_mem hi)]
    have h9 := h1 i (by simpa using i2) (by simpa using hi)
    simpa using h9
  rw [e3, List.length_append, List.length_flatten]
  simp only [List.length_cons, List.length_nil]
  omega
section
variable {X : Nat → Prop} {f : Nat → CC} {lk : Nat → Option Nat} {K : (Option Addr × Nat × Nat) → List Nat} {U : Int → Int → Option Nat} {hf : Int → Nat → Nat} {now : Int}
theorem NoCyc.sizes (hc : NoCyc K f hf U now) (H : Hist X f lk now) (hwf : ∀ x c, U 1 x = some c → (Lit.int .i64 x).wf = true) (hUX : ∀ x b, U 1 x = some b → X b)
    (hin : ∀ b, X b → ∀ k ∈ K (f b).ks, X k) (har : ∀ b, X b → ((K (f b).ks).length : Int) = (f b).nd.kids) (hmet : ∀ b, X b → (f b).nd.kind = 61 → K (f b).ks = []) (hH : ∀ t k, Hd (tdAt Classical.propDecidable X f t) k (hf t k)) (hXH : ∀ t k, X k → X (hf t k)) :
    ∃ (Lf : Nat → Prop) (rk sz : Nat → Nat), LeftOk (fun h => K (f h).ks) (hf now) Lf rk ∧ (∀ h, Lf h → sz h = 1 + ((K (f h).ks).map fun k => sz (hf now k)).sum) ∧ ∀ x b, U 1 x = some b → Lf (hf now b) ∧ ∀ xs, Qko X (gcAt K f now) (tdAt Classical.propDecidable X f now) (Qfi f) b xs → xs.length = sz (hf now b) := by
  obtain ⟨Lf, rk, hL, hU⟩ := hc
  obtain ⟨s1, s2⟩ := Qmk (X := X) (leaf := Qfi f) (gcAt K f now) (tdAt Classical.propDecidable X f now) (hf now) (hH now)
  generalize hθ : (fun (i : Nat) (p : List Nat) => val (gV (gcAt K f now) (Qfi f)) (hf now) p i) = θ at s1
  have s3 : ∀ r, tdAt Classical.propDecidable X f now r = none → (gcAt K f now r).op = true → Qbh (Qfi f r) = θ r := by
    intro r h1 h2
    rw [s2 r h1 h2, ← hθ]
  have ek : ∀ h, X h → Qbc K f now h = K (f h).ks := by
    intro h hX
    have := (H.told h hX).2
    unfold Qbc
    rw [if_neg (by omega)]
  have hread : ∀ b xs, Qko X (gcAt K f now) (tdAt Classical.propDecidable X f now) (Qfi f) b xs → Ot xs (θ b) := fun b xs h => (h θ Qbh s1 fun r _ hl ho => s3 r hl ho).ot
  refine ⟨fun h => Lf h ∧ X h ∧ tdAt Classical.propDecidable X f now h = none, rk, szT Classical.epsilon θ, ⟨fun h hh k hk => ?_⟩, fun h hh => ?_, fun x b e => ⟨⟨hU 1 x b (by decide) (hwf x b e) e, hXH _ b (hUX x b e), Qke (hH _ b)⟩, fun xs hx => ?_⟩⟩
  · have h9 := hL.down h hh.1 k (by rw [ek h hh.2.1]; exact hk)
    exact ⟨⟨h9.1, hXH _ k (hin h hh.2.1 k hk), Qke (hH _ k)⟩, h9.2⟩
  · obtain ⟨h1, h2, h3⟩ := hh
    have hself : hf now h = h := (hH now h).fun (.root h3)
    obtain ⟨xs, r1, _⟩ := Qvv (Q := fun _ => True) (leaf := Qfi f) (fun _ _ _ => ⟨fun _ => trivial, trivial⟩) (Qmq f) H.open' hin har hH hXH hL _ h h2 (by rw [hself]; exact h1) (Nat.lt_succ_self _)
    have hx := hread h xs r1
    cases ho : (gcAt K f now h).op with
    | true =>
      have hop := H.op h2 ho
      have hk : (f h).nd.kind = 61 := by
        unfold CC.open? at hop
        simp only [Bool.and_eq_true, beq_iff_eq] at hop
        exact hop.1
      rw [hmet h h2 hk]
      exact Qvb (ks := []) (n := Qfi f h) (hf := hf now) (s3 h h3 ho).symm (by simpa using (Qmq f h).2) (by simp) hx
    | false =>
      exact Qvb (ks := K (f h).ks) (n := (f h).nd) (hf := hf now) (s1.2 h h2 h3 ho) (har h h2).symm (fun k _ => Qgu s1 (hH now k)) hx
  · have h9 := hread b xs hx
    rw [← Qgu s1 (hH now b)] at h9
    exact (Qva h9).symm
end
end Go.Proofs.YtoiiibplkhedcaaGreatDoor
namespace Go.Proofs.YtoiiibplkhedcaaGreatDoor
open Go.RowKit
/-! What Solve answers, out of what the store says. -/
section
variable {ps : List (List Nd × List Nd)} {k : Nat} {X : Nat → Prop} {f : Nat → CC} {lk : Nat → Option Nat} {K : (Option Addr × Nat × Nat) → List Nat} {U : Int → Int → Option Nat} {hf : Int → Nat → Nat}
theorem TimeM.resNo (M : TimeM ps k X f K U) (hv : Qbf ps) (hps : ∀ p ∈ ps, (Leafy p.1 ∧ One p.1) ∧ Leafy p.2 ∧ One p.2) (hU1 : ∀ l x c, U l x = some c → l = 1) (hopen : ∀ b, X b → (f b).nd.kind = 61 → (f b).lv = 1) (hwf : ∀ x c, U 1 x = some c → (Lit.int .i64 x).wf = true)
    (hin : ∀ b, X b → ∀ k ∈ K (f b).ks, X k) (har : ∀ b, X b → ((K (f b).ks).length : Int) = (f b).nd.kids) (hmet : ∀ b, X b → (f b).nd.kind = 61 → K (f b).ks = []) (hH : ∀ t k, Hd (tdAt Classical.propDecidable X f t) k (hf t k)) (hXH : ∀ t k, X k → X (hf t k))
    {r : Nat} (hr : r ≤ k) (hrl : r < ps.length) (hc : r < k → Cyc U K f hf (r : Int)) (hn : 0 < r → NoCyc K f hf U ((r : Int) - 1)) (hlast : r = k → ∀ ρ : Int → List Nd, (∀ x, One (ρ x)) → ¬ Solves ρ (ps.take (r + 1))) : SolveRes ps false r [] := by
  refine .no r hv hrl ?_ ?_
  · by_cases h0 : r = 0
    · subst h0
      exact ⟨fun x => [Qav x], Qbu, fun p hp => by simp at hp⟩
    · have h9 := hn (by omega)
      have e : ((r : Int) - 1) = ((r - 1 : Nat) : Int) := by omega
      rw [e] at h9
      obtain ⟨ρ, h1, h2, _⟩ := M.noCyc (Q := fun _ => True) (leaf := fun _ => Qav 1) (fun _ _ _ => ⟨fun _ => trivial, trivial⟩) (fun _ => ⟨rfl, rfl⟩) hopen hwf hin har hH hXH (t := r - 1) (by omega) h9
      rw [show r - 1 + 1 = r by omega] at h2
      exact ⟨ρ, h1, h2⟩
  · intro ρ hρ hs
    by_cases h9 : r < k
    · exact M.cyc hps hU1 hin har hmet hH hXH h9 (hc h9) ρ hρ hs
    · exact hlast (by omega) ρ hρ hs
theorem LoopM.noSolves (M : LoopM ps k X f lk K U) (hps : ∀ p ∈ ps, (Leafy p.1 ∧ One p.1) ∧ Leafy p.2 ∧ One p.2) (hk : k < ps.length) (hkn : ∀ n, n ∈ ps[k].1 ∨ n ∈ ps[k].2 → n.kind = 61 → ∃ b, U 1 n.num = some b) {a b : Nat} (hA : ∀ θ, SatC X (gc K f) lk θ → Ev (sg U 1 θ) ps[k].1 (θ a)) (hB : ∀ θ, SatC X (gc K f) lk θ → Ev (sg U 1 θ) ps[k].2 (θ b))
    (hno : ∀ θ, SatC X (gc K f) lk θ → θ a ≠ θ b) (ρ : Int → List Nd) (hρ : ∀ x, One (ρ x)) : ¬ Solves ρ (ps.take (k + 1)) := by
  intro hs
  obtain ⟨D, hD⟩ := Classical.axiomOfChoice fun x => Jbz (hρ x)
  exact M.no hk hkn hA hB hno D fun i hi hik => Qfx hps hD hs i hi (by omega)
theorem Qqk : SolveOk [] fun x => [Qav x] := by
  refine ⟨Qbu, fun x hx => by simp [Qgr x hx], (fun p hp => by cases hp), fun θ _ _ x => by simp [fill, Qas, Qav], fun x y e => ?_⟩
  have := Qfu e
  omega
end
end Go.Proofs.YtoiiibplkhedcaaGreatDoor
