import Derived.Test.YthioecjcnajmgaaGreatDoorWBN
import Derived.Test.YthioecjcnajmgaaGreatDoorWBO
namespace Go.Proofs.YthioecjcnajmgaaGreatDoor
open Go.RowKit Go.Maps

/-! How solve ends. -/

theorem types_ok {ps : List (List Nd × List Nd)} (hv : Valid ps) : ∀ p ∈ ps, (Leafy p.1 ∧ One p.1) ∧ Leafy p.2 ∧ One p.2 :=
  fun p hp => ⟨⟨plain_leafy (typeb_plain (hv.2 p hp).1), type_oneS (hv.2 p hp).1⟩, plain_leafy (typeb_plain (hv.2 p hp).2), type_oneS (hv.2 p hp).2⟩

section
variable {ps : List (List Nd × List Nd)} {k now q : Nat} {O : Int → Prop} {w : World} {sb mb n : Nat} {X : Nat → Prop} {f : Nat → CC} {lk : Nat → Option Nat} {d : Nat → Nat} {K : (Option Addr × Nat × Nat) → List Nat} {U : Int → Int → Option Nat} {D : DataW Value} {rt : List Nat} {dt : Int → Nat → Nat} {hf : Int → Nat → Nat}

theorem SolE.callFirst (h : SolE ps k now q w sb mb n X f lk d K U D rt) (hq : q ≤ 20000) (hn : now ≤ 20000) (HA : ∀ t, Acyc (tdAt Classical.propDecidable X f t) (dt t)) (HH : ∀ t k, Hd (tdAt Classical.propDecidable X f t) k (hf t k)) (HXH : ∀ t k, X k → X (hf t k)) {o0 : Option Nat} {w1 : World} {m0 : Int} (hm0 : m0 ≤ 900000) (hJ : JW X f lk d K sb mb n (now : Int) o0 D w1 m0 w1) :
    Calls Tryz.prog 60 #[.pointer (some ⟨sb, 0, none⟩)] w1 fun e w' => ∃ r : Nat, r ≤ now ∧ e = .returned (.int .i64 (r : Int)) ∧ JW X f lk d K sb mb n (now : Int) o0 D w1 (m0 + 2 * now) w' ∧ (r < now → Cyc U K f hf (r : Int)) ∧ (0 < r → NoCyc K f hf U ((r : Int) - 1)) :=
  firstCircle_any X f lk d dt K hf rt sb mb n now hn o0 U D w1 h.stor.ud h.stor.inX HA h.hist.inX HH HXH h.kidsX h.roots.1 (by have := h.roots.2; omega) m0 hm0 hJ

theorem SolE.callHas (h : SolE ps k now q w sb mb n X f lk d K U D rt) (hq : q ≤ 20000) (HA : ∀ t, Acyc (tdAt Classical.propDecidable X f t) (dt t)) (HH : ∀ t k, Hd (tdAt Classical.propDecidable X f t) k (hf t k)) (HXH : ∀ t k, X k → X (hf t k)) :
    Calls Tryz.prog 61 #[.pointer (some ⟨sb, 0, none⟩), .int .i64 (now : Int)] w fun e w2 => ∃ b, e = .returned (.bool b) ∧ JW X f lk d K sb mb n (now : Int) none D w 2 w2 ∧ (b = true → Cyc U K f hf (now : Int)) ∧ (b = false → NoCyc K f hf U (now : Int)) :=
  hasCircle_J X f lk d dt K hf rt sb mb n (now : Int) none U D w h.stor.ud h.stor.inX HA h.hist.inX HH HXH h.kidsX h.roots.1 (by have := h.roots.2; omega) 0 (by omega) w h.walk (now : Int)

/-- A walk's memory, where another walk begins. -/
theorem JW.rebase {t m : Int} {w1 w2 : World} (h : JW X f lk d K sb mb n t none D w1 m w2) : ∃ o0 : Option Nat, (∀ g, o0 = some g → w1.heap.size ≤ g) ∧ JW X f lk d K sb mb n t o0 D w2 m w2 := by
  obtain ⟨_, hO, sn, sa, sl, sc, P, t0, I0, L0, hW, h1, h2, h3, h4⟩ := h
  refine ⟨(Value.slice sa sl sc).ownBlock, fun g hg => ?_, But.refl _ w2, hO, sn, sa, sl, sc, P, t0, I0, L0, hW, h1, h2, h3, .inl rfl⟩
  rcases h4 with h4 | ⟨g', h4, h5⟩
  · simp only at h4
    rw [h4] at hg
    cases hg
  · simp only at h4
    rw [h4] at hg
    cases hg
    exact h5

theorem SolE.resFail (h : SolE ps k k q w sb mb n X f lk d K U D rt) (hv : Valid ps) (hk : k < ps.length) (HH : ∀ t k, Hd (tdAt Classical.propDecidable X f t) k (hf t k)) (HXH : ∀ t k, X k → X (hf t k)) (hlast : ∀ ρ : Int → List Nd, (∀ x, One (ρ x)) → ¬ Solves ρ (ps.take (k + 1))) {r : Nat} (hr : r ≤ k) (hc : r < k → Cyc U K f hf (r : Int)) (hn : 0 < r → NoCyc K f hf U ((r : Int) - 1)) : SolveRes ps false (r : Int) [] :=
  h.times.resNo hv (types_ok hv) h.one h.hist.open' h.wf h.stor.sto.inX h.stor.sto.arity h.stor.sto.met HH HXH hr (by omega) hc hn (fun e => by rw [e]; exact hlast)

theorem SolE.resEnd (h : SolE ps k (k - 1) q w sb mb n X f lk d K U D rt) (hv : Valid ps) (hk : ps.length = k) (h0 : 0 < k) (HH : ∀ t k, Hd (tdAt Classical.propDecidable X f t) k (hf t k)) (HXH : ∀ t k, X k → X (hf t k)) (hC : Cyc U K f hf ((k - 1 : Nat) : Int)) {r : Nat} (hr : r ≤ k - 1) (hc : r < k - 1 → Cyc U K f hf (r : Int)) (hn : 0 < r → NoCyc K f hf U ((r : Int) - 1)) : SolveRes ps false (r : Int) [] := by
  refine h.times.resNo hv (types_ok hv) h.one h.hist.open' h.wf h.stor.sto.inX h.stor.sto.arity h.stor.sto.met HH HXH (by omega) (by omega) (fun _ => ?_) hn (fun e => by omega)
  by_cases e : r = k - 1
  · rw [e]
    exact hC
  · exact hc (by omega)

theorem SolG.occ0 (h : SolG [] 0 now q (Occ ([].take 0)) w sb mb n X f lk d K U D rt) : ∀ l x c, U l x ≠ some c := by
  intro l x c e
  have h1 := h.one l x c e
  subst h1
  obtain ⟨p, hp, _⟩ := h.occ x c e
  simp at hp

/-- What Solve's answer is made of. -/
structure SolF (ps : List (List Nd × List Nd)) (X : Nat → Prop) (f : Nat → CC) (lk : Nat → Option Nat) (K : (Option Addr × Nat × Nat) → List Nat) (U : Int → Int → Option Nat) (σ : Int → List Nd) (θ : Nat → DT) : Prop where
  sat : SatC X (gcv K f) lk θ
  read : ∀ x b, U 1 x = some b → Ev selfT (σ x) (θ b)
  ok : SolveOk ps σ
  occ : ∀ x, (∃ b, U 1 x = some b) ↔ Occ ps x

theorem occ_known {ps : List (List Nd × List Nd)} (M : TimeM ps ps.length X f K U) {x : Int} (h : Occ ps x) : ∃ b, U 1 x = some b := by
  obtain ⟨p, hp, h⟩ := h
  obtain ⟨i, hi, rfl⟩ := List.getElem_of_mem hp
  have key : ∀ xs : List Nd, (∀ n ∈ xs, n ∈ ps[i].1 ∨ n ∈ ps[i].2) → x ∈ metas xs → ∃ b, U 1 x = some b := by
    intro xs hxs hm
    obtain ⟨y, hy, rfl⟩ := List.mem_map.1 hm
    obtain ⟨h1, h2⟩ := List.mem_filter.1 hy
    exact M.known i hi hi y (hxs y h1) (by simpa using h2)
  rcases h with h | h
  · exact key _ (fun n hn => .inl hn) h
  · exact key _ (fun n hn => .inr hn) h

/-- At the end, where there is no circle. -/
theorem SolG.final (h : SolG ps k (k - 1) q (Occ (ps.take k)) w sb mb n X f lk d K U D rt) (hv : Valid ps) (hk : ps.length = k) (h0 : 0 < k) (HH : ∀ t k, Hd (tdAt Classical.propDecidable X f t) k (hf t k)) (HXH : ∀ t k, X k → X (hf t k)) (hc : NoCyc K f hf U ((k - 1 : Nat) : Int)) :
    ∃ (σ : Int → List Nd) (θ : Nat → DT) (Lf : Nat → Prop) (rk sz : Nat → Nat), SolF ps X f lk K U σ θ ∧ LeftOk (fun h => K (f h).ks) (hf ((k - 1 : Nat) : Int)) Lf rk ∧ (∀ h, Lf h → sz h = 1 + ((K (f h).ks).map fun k' => sz (hf ((k - 1 : Nat) : Int) k')).sum) ∧ ∀ x b, U 1 x = some b → Lf (hf ((k - 1 : Nat) : Int) b) ∧ (σ x).length = sz (hf ((k - 1 : Nat) : Int) b) := by
  obtain ⟨N, rfl⟩ : ∃ N, k = N + 1 := ⟨k - 1, by omega⟩
  simp only [Nat.add_sub_cancel] at *
  have hin := h.stor.sto.inX
  have har := h.stor.sto.arity
  have hmet := h.stor.sto.met
  obtain ⟨σ, hσ, hread⟩ := h.loop.times.solveOk hk h.hist h.num (types_ok hv) h.plain h.wf hin har hmet HH HXH hc
  obtain ⟨Lf, rk, sz, hL, hsz, hU⟩ := hc.sizes h.hist h.wf (fun x b e => h.stor.inX 1 x b e) hin har hmet HH HXH
  obtain ⟨s1, s2⟩ := self_sat (X := X) (leaf := leafN f) (gcAt K f (N : Int)) (tdAt Classical.propDecidable X f (N : Int)) (hf (N : Int)) (HH (N : Int))
  generalize hθ : (fun (i : Nat) (p : List Nat) => val (gV (gcAt K f (N : Int)) (leafN f)) (hf (N : Int)) p i) = θ at s1
  have s3 : ∀ r, tdAt Classical.propDecidable X f (N : Int) r = none → (gcAt K f (N : Int) r).op = true → selfT (leafN f r) = θ r := by
    intro r h1 h2
    rw [s2 r h1 h2, ← hθ]
  have hsat := (h.hist.satNow K h.stor.sto.acyc θ).1 s1
  refine ⟨σ, θ, Lf, rk, sz, ⟨⟨hsat.1, fun r hr hl _ => ?_⟩, fun x b e => hread x b e θ selfT s1 (fun r _ hl ho => s3 r hl ho), hσ, fun x => ⟨fun ⟨b, e⟩ => ?_, fun hx => ?_⟩⟩, hL, hsz, fun x b e => ⟨(hU x b e).1, (hU x b e).2 _ (hread x b e)⟩⟩
  · by_cases ho : (f r).open? = true
    · have htd : tdAt Classical.propDecidable X f (N : Int) r = none := h.hist.hd.rootN hl
      have hk61 : (f r).nd.kind = 61 := by
        unfold CC.open? at ho
        simp only [Bool.and_eq_true, beq_iff_eq] at ho
        exact ho.1
      have hop : (gcAt K f (N : Int) r).op = true := by simp [gcAt, ho]
      have h9 := s3 r htd hop
      rw [leafN_open har hmet hr ho] at h9
      rw [← h9]
      simp only [gcv]
      rw [hmet r hr hk61]
      rfl
    · exact hsat.2 r hr hl (by simpa [gc] using ho)
  · have h9 := h.occ x b e
    rw [List.take_of_length_le (by omega)] at h9
    exact h9
  · have h9 := h.loop.times
    rw [← hk] at h9
    exact occ_known h9 hx

end

end Go.Proofs.YthioecjcnajmgaaGreatDoor
