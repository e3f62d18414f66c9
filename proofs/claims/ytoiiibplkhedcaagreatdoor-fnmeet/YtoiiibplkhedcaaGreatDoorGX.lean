import Derived.Test.YtoiiibplkhedcaaGreatDoorGQ
import Derived.Test.YtoiiibplkhedcaaGreatDoorGR
import Derived.Test.YtoiiibplkhedcaaGreatDoorGU
import Derived.Test.YtoiiibplkhedcaaGreatDoorGC
import Derived.Test.YtoiiibplkhedcaaGreatDoorGF
import Derived.Test.YtoiiibplkhedcaaGreatDoorGS
namespace Go.Proofs.YtoiiibplkhedcaaGreatDoor
open Go.RowKit Go.Maps
/-! How solve ends. -/
theorem Qdb {ps : List (List Nd × List Nd)} (hv : Valid ps) : ∀ p ∈ ps, (Leafy p.1 ∧ One p.1) ∧ Leafy p.2 ∧ One p.2 :=
  fun p hp => ⟨⟨plain_leafy (typeb_plain (hv.2 p hp).1), type_oneS (hv.2 p hp).1⟩, plain_leafy (typeb_plain (hv.2 p hp).2), type_oneS (hv.2 p hp).2⟩
section
variable {ps : List (List Nd × List Nd)} {k now q : Nat} {O : Int → Prop} {w : World} {sb mb n : Nat} {X : Nat → Prop} {f : Nat → CC} {lk : Nat → Option Nat} {d : Nat → Nat} {K : (Option Addr × Nat × Nat) → List Nat} {U : Int → Int → Option Nat} {D : DataW Value} {rt : List Nat} {dt : Int → Nat → Nat} {hf : Int → Nat → Nat}
theorem SolE.callFirst (h : SolE ps k now q w sb mb n X f lk d K U D rt) (hq : q ≤ 20000) (hn : now ≤ 20000) (HA : ∀ t, Acyc (tdAt X f t) (dt t)) (HH : ∀ t k, Hd (tdAt X f t) k (hf t k)) (HXH : ∀ t k, X k → X (hf t k)) {o0 : Option Nat} {w1 : World} {m0 : Int} (hm0 : m0 ≤ 900000) (hJ : JW X f lk d K sb mb n (now : Int) o0 D w1 m0 w1) :
    Calls Tryz.prog 77 #[.pointer (some ⟨sb, 0, none⟩)] w1 fun e w' => ∃ r : Nat, r ≤ now ∧ e = .returned (.int .i64 (r : Int)) ∧ JW X f lk d K sb mb n (now : Int) o0 D w1 (m0 + 2 * now) w' ∧ (r < now → Cyc U K f hf (r : Int)) ∧ (0 < r → NoCyc K f hf U ((r : Int) - 1)) :=
  firstCircle_any X f lk d dt K hf rt sb mb n now hn o0 U D w1 h.stor.ud h.stor.inX HA h.hist.inX HH HXH h.kidsX h.roots.1 (by have := h.roots.2; omega) m0 hm0 hJ
theorem SolE.callHas (h : SolE ps k now q w sb mb n X f lk d K U D rt) (hq : q ≤ 20000) (HA : ∀ t, Acyc (tdAt X f t) (dt t)) (HH : ∀ t k, Hd (tdAt X f t) k (hf t k)) (HXH : ∀ t k, X k → X (hf t k)) :
    Calls Tryz.prog 78 #[.pointer (some ⟨sb, 0, none⟩), .int .i64 (now : Int)] w fun e w2 => ∃ b, e = .returned (.bool b) ∧ JW X f lk d K sb mb n (now : Int) none D w 2 w2 ∧ (b = true → Cyc U K f hf (now : Int)) ∧ (b = false → NoCyc K f hf U (now : Int)) :=
  hasCircle_J X f lk d dt K hf rt sb mb n (now : Int) none U D w h.stor.ud h.stor.inX HA h.hist.inX HH HXH h.kidsX h.roots.1 (by have := h.roots.2; omega) 0 (by omega) w h.walk (now : Int)
theorem JW.rebase {t m : Int} {w1 w2 : World} (h : JW X f lk d K sb mb n t none D w1 m w2) : ∃ o0 : Option Nat, (∀ g, o0 = some g → w1.heap.size ≤ g) ∧ JW X f lk d K sb mb n t o0 D w2 m w2 := by
  obtain ⟨_, hO, sn, sa, sl, sc, P, t0, I0, L0, hW, h1, h2, h3, h4⟩ := h
  refine ⟨(Value.slice sa sl sc).ownBlock, fun g hg => ?_, But.refl _ w2, hO, sn, sa, sl, sc, P, t0, I0, L0, hW, h1, h2, h3, .inl rfl⟩
  rcases h4 with h4 | ⟨g', h4, h5⟩
  · simp only at h4
    rw [h4] at hg
    cases hg
  · simp only at h4
    rw [h4] at hg
    cases hg
    exact h5
theorem SolE.resFail (h : SolE ps k k q w sb mb n X f lk d K U D rt) (hv : Valid ps) (hk : k < ps.length) (HH : ∀ t k, Hd (tdAt X f t) k (hf t k)) (HXH : ∀ t k, X k → X (hf t k)) (hlast : ∀ ρ : Int → List Nd, (∀ x, One (ρ x)) → ¬ Solves ρ (ps.take (k + 1))) {r : Nat} (hr : r ≤ k) (hc : r < k → Cyc U K f hf (r : Int)) (hn : 0 < r → NoCyc K f hf U ((r : Int) - 1)) : SolveRes ps false (r : Int) [] :=
  h.times.resNo hv (Qdb hv) h.one h.hist.open' h.wf h.stor.sto.inX h.stor.sto.arity h.stor.sto.met HH HXH hr (by omega) hc hn (fun e => by rw [e]; exact hlast)
theorem SolE.resEnd (h : SolE ps k (k - 1) q w sb mb n X f lk d K U D rt) (hv : Valid ps) (hk : ps.length = k) (h0 : 0 < k) (HH : ∀ t k, Hd (tdAt X f t) k (hf t k)) (HXH : ∀ t k, X k → X (hf t k)) (hC : Cyc U K f hf ((k - 1 : Nat) : Int)) {r : Nat} (hr : r ≤ k - 1) (hc : r < k - 1 → Cyc U K f hf (r : Int)) (hn : 0 < r → NoCyc K f hf U ((r : Int) - 1)) : SolveRes ps false (r : Int) [] := by
  refine h.times.resNo hv (Qdb hv) h.one h.hist.open' h.wf h.stor.sto.inX h.stor.sto.arity h.stor.sto.met HH HXH (by omega) (by omega) (fun _ => ?_) hn (fun e => by omega)
  by_cases e : r = k - 1
  · rw [e]
    exact hC
  · exact hc (by omega)
theorem SolG.occ0 (h : SolG [] 0 now q (Occ ([].take 0)) w sb mb n X f lk d K U D rt) : ∀ l x c, U l x ≠ some c := by
  intro l x c e
  have h1 := h.one l x c e
  subst h1
  obtain ⟨p, hp, _⟩ := h.occ x c e
  simp at hp
structure SolF (ps : List (List Nd × List Nd)) (X : Nat → Prop) (f : Nat → CC) (lk : Nat → Option Nat) (K : (Option Addr × Nat × Nat) → List Nat) (U : Int → Int → Option Nat) (σ : Int → List Nd) (θ : Nat → DT) : Prop where
  sat : SatC X (gcv K f) lk θ
  read : ∀ x b, U 1 x = some b → Ev selfT (σ x) (θ b)
  ok : SolveOk ps σ
  occ : ∀ x, (∃ b, U 1 x = some b) ↔ Occ ps x
theorem Jam {ps : List (List Nd × List Nd)} (M : TimeM ps ps.length X f K U) {x : Int} (h : Occ ps x) : ∃ b, U 1 x = some b := by
  obtain ⟨p, hp, h⟩ := h
  obtain ⟨i, hi, rfl⟩ := List.getElem_of_mem hp
  have key : ∀ xs : List Nd, (∀ n ∈ xs, n ∈ ps[i].1 ∨ n ∈ ps[i].2) → x ∈ metas xs → ∃ b, U 1 x = some b := by
    intro xs hxs hm
    obtain ⟨y, hy, rfl⟩ := List.mem_map.1 hm
    obtain ⟨h1, h2⟩ := List.mem_filter.1 hy
    exact M.known i hi hi y (hxs y h1) (by simpa using h2)
  rcases h with h | h
  · exact key _ (fun n hn => .inl hn) h
  · exact key _ (fun n hn => .inr hn) h
theorem SolG.final (h : SolG ps k (k - 1) q (Occ (ps.take k)) w sb mb n X f lk d K U D rt) (hv : Valid ps) (hk : ps.length = k) (h0 : 0 < k) (HH : ∀ t k, Hd (tdAt X f t) k (hf t k)) (HXH : ∀ t k, X k → X (hf t k)) (hc : NoCyc K f hf U ((k - 1 : Nat) : Int)) :
    ∃ (σ : Int → List Nd) (θ : Nat → DT) (Lf : Nat → Prop) (rk sz : Nat → Nat), SolF ps X f lk K U σ θ ∧ LeftOk (fun h => K (f h).ks) (hf ((k - 1 : Nat) : Int)) Lf rk ∧ (∀ h, Lf h → sz h = 1 + ((K (f h).ks).map fun k' => sz (hf ((k - 1 : Nat) : Int) k')).sum) ∧ ∀ x b, U 1 x = some b → Lf (hf ((k - 1 : Nat) : Int) b) ∧ (σ x).length = sz (hf ((k - 1 : Nat) : Int) b) := by
  obtain ⟨N, rfl⟩ : ∃ N, k = N + 1 := ⟨k - 1, by omega⟩
  simp only [Nat.add_sub_cancel] at *
  have hin := h.stor.sto.inX
  have har := h.stor.sto.arity
  have hmet := h.stor.sto.met
  obtain ⟨σ, hσ, hread⟩ := h.loop.times.solveOk hk h.hist h.num (Qdb hv) h.plain h.wf hin har hmet HH HXH hc
  obtain ⟨Lf, rk, sz, hL, hsz, hU⟩ := hc.sizes h.hist h.wf (fun x b e => h.stor.inX 1 x b e) hin har hmet HH HXH
  obtain ⟨s1, s2⟩ := self_sat (X := X) (leaf := leafN f) (gcAt K f (N : Int)) (tdAt X f (N : Int)) (hf (N : Int)) (HH (N : Int))
  generalize hθ : (fun (i : Nat) (p : List Nat) => val (gV (gcAt K f (N : Int)) (leafN f)) (hf (N : Int)) p i) = θ at s1
  have s3 : ∀ r, tdAt X f (N : Int) r = none → (gcAt K f (N : Int) r).op = true → selfT (leafN f r) = θ r := by
    intro r h1 h2
    rw [s2 r h1 h2, ← hθ]
  have hsat := (h.hist.satNow K h.stor.sto.acyc θ).1 s1
  refine ⟨σ, θ, Lf, rk, sz, ⟨⟨hsat.1, fun r hr hl _ => ?_⟩, fun x b e => hread x b e θ selfT s1 (fun r _ hl ho => s3 r hl ho), hσ, fun x => ⟨fun ⟨b, e⟩ => ?_, fun hx => ?_⟩⟩, hL, hsz, fun x b e => ⟨(hU x b e).1, (hU x b e).2 _ (hread x b e)⟩⟩
  · by_cases ho : (f r).open? = true
    · have htd : tdAt X f (N : Int) r = none := h.hist.hd.rootN hl
      have hk61 : (f r).nd.kind = 61 := by
        unfold CC.open? at ho
        simp only [Bool.and_eq_true, beq_iff_eq] at ho
        exact ho.1
      have hop : (gcAt K f (N : Int) r).op = true := by simp [gcAt, ho]
      have h9 := s3 r htd hop
      rw [leafN_open har hmet hr ho] at h9
      rw [← h9]
      simp only [gcv]
      rw [hmet r hr hk61]
      rfl
    · exact hsat.2 r hr hl (by simpa [gc] using ho)
  · have h9 := h.occ x b e
    rw [List.take_of_length_le (by omega)] at h9
    exact h9
  · have h9 := h.loop.times
    rw [← hk] at h9
    exact Jam h9 hx
end
end Go.Proofs.YtoiiibplkhedcaaGreatDoor

namespace Go.Proofs.YtoiiibplkhedcaaGreatDoor
open Go.RowKit
def AreRes (ps : List (List Nd × List Nd)) (e : Ending) : Prop := ∃ ok : Bool, e = .returned (.bool ok) ∧ (ok = true ↔ Valid ps)
theorem AreRes.no {ps : List (List Nd × List Nd)} (h : ¬ Valid ps) : AreRes ps (.returned (.bool false)) := ⟨false, rfl, by simp [h]⟩
theorem AreRes.yes {ps : List (List Nd × List Nd)} (h : Valid ps) : AreRes ps (.returned (.bool true)) := ⟨true, rfl, by simp [h]⟩
set_option maxRecDepth 20000 in
set_option maxHeartbeats 2000000 in
theorem Qet (ps : List (List Nd × List Nd)) (m : Nat) (HM : Hid (ps.length = m)) (hm : m ≤ 1048576) (HPL : Hid (∀ p ∈ ps, p.1.length ≤ 1048576 ∧ p.2.length ≤ 1048576)) (ao : Option Addr) (cap : Nat) (w : World) (hx : Pairs w ao ps) :
    Calls Tryz.prog 45 #[.slice ao m cap] w fun e w' => AreRes ps e ∧ Below w.heap.size w w' := by
  obtain ⟨z, hz⟩ : ∃ z, w.heap.size = z := ⟨_, rfl⟩
  have HXB : Hid (∀ wr, Below z w wr → Pairs wr ao ps) := fun wr h => hx.below (by rw [hz]; exact h)
  clear hx
  go_enter Tryz.func45, Tryz.ntmps45
  go_wp2
  go_loopw [3, 8] (fun vt vi wr => ∃ i : Nat, i ≤ m ∧ vi = .int .i64 (i : Int) ∧ vt = .int .i64 (pairSum ps i : Int) ∧ pairSum ps i ≤ 20000 ∧ (∀ p ∈ ps.take i, typeb p.1 = true ∧ typeb p.2 = true) ∧ Below z w wr) (fun _ vi _ => m - (intOf vi).toNat)
  case atStart => exact ⟨0, Nat.zero_le _, rfl, rfl, by simp [pairSum], by simp, by rw [← hz]; exact Below.refl _ _⟩
  case round =>
    obtain ⟨i, him, rfl, rfl, hsum, hall, hb⟩ := hrel
    have hbz := hb.size
    by_cases hlt : i < m
    · have hltx : i < ps.length := by have := HM.out; omega
      obtain ⟨b, o, a1, c1, a2, c2, hao, e1, e2, hn1, hn2⟩ := HXB.out wr hb i hltx
      subst hao
      obtain ⟨A, hA⟩ : ∃ A, ps[i].1 = A := ⟨_, rfl⟩
      obtain ⟨C, hC⟩ : ∃ C, ps[i].2 = C := ⟨_, rfl⟩
      rw [hA] at e1 hn1
      rw [hC] at e2 hn2
      obtain ⟨la, hla⟩ : ∃ la, A.length = la := ⟨_, rfl⟩
      obtain ⟨lc, hlc⟩ : ∃ lc, C.length = lc := ⟨_, rfl⟩
      rw [hla] at e1
      rw [hlc] at e2
      have hpl := HPL.out ps[i] (List.getElem_mem hltx)
      rw [hA, hC, hla, hlc] at hpl
      obtain ⟨t, ht⟩ : ∃ t, pairSum ps i = t := ⟨_, rfl⟩
      have HT : Hid (pairSum ps (i + 1) = t + la + lc) := by
        show pairSum ps (i + 1) = _
        rw [pairSum_succ hltx, ht, hA, hC, hla, hlc]
      have HLA : Hid (A.length = la) := hla
      have HLC : Hid (C.length = lc) := hlc
      rw [ht] at hsum
      rw [ht]
      have HBAD : Hid ((¬ pairSum ps (i + 1) ≤ 20000 ∨ typeb A = false ∨ typeb C = false) → ¬ Valid ps) := by
        intro h9 hv
        have hmem : ps[i] ∈ ps := List.getElem_mem hltx
        rcases h9 with h9 | h9 | h9
        · have := pairSum_le ps (i + 1)
          have := hv.1
          omega
        · rw [← hA, (hv.2 _ hmem).1] at h9; cases h9
        · rw [← hC, (hv.2 _ hmem).2] at h9; cases h9
      have HALL : Hid (typeb A = true → typeb C = true → ∀ p ∈ ps.take (i + 1), typeb p.1 = true ∧ typeb p.2 = true) := by
        intro h1 h2 p hp
        rw [List.take_succ_eq_append_getElem hltx] at hp
        rcases List.mem_append.1 hp with h9 | h9
        · exact hall p h9
        · simp only [List.mem_singleton] at h9
          subst h9
          rw [hA, hC]
          exact ⟨h1, h2⟩
      have hbl : b < wr.heap.size := lt_of_cell e1
      clear ht hla hlc hA hC hall
      by_cases h20 : t + la + lc > 20000
      · have h20' : (20000 : Int) < (t : Int) + ((la : Int) + (lc : Int)) := by omega
        have HN : Hid (¬ Valid ps) := HBAD.out (.inl (by rw [HT.out]; omega))
        clear hn1 hn2
        go_wp2
        go_ret
        exact ⟨AreRes.no HN.out, by rw [hz]; exact hb.alloc (by omega) _⟩
      · have h20' : (t : Int) + ((la : Int) + (lc : Int)) ≤ 20000 := by omega
        have hA : Below wr.heap.size wr (wr.alloc (.cells #[.slice a1 la c1, .slice a2 lc c2] 49)) := (Below.refl _ wr).alloc (Nat.le_refl _) _
        have q1 : (wr.alloc (.cells #[.slice a1 la c1, .slice a2 lc c2] 49)).cell? ⟨wr.heap.size, 1, none⟩ = some (.slice a2 lc c2) := by
          rw [cell_of_row _ _ _ _ 49 (0, 0) (heap_alloc_new _ _)]; rfl
        have hlW := lt_of_cell q1
        have HC1 := iIsType_any A la HLA hpl.1 a1 c1 _ (hn1.below hA)
        have hnC := hn2.below hA
        have hbW := hb.trans (hA.mono (by omega))
        clear hn1 hn2 hb hA
        go_wp2_with fail
        refine HC1.mono ?_
        rintro e W1 ⟨rfl, hb3⟩
        have hb4 := hbW.trans (hb3.mono (by have := hbW.size; omega))
        have hnC1 := hnC.below hb3
        have q1' := (hb3.cell (p := ⟨wr.heap.size, 1, none⟩) hlW).trans q1
        have hl1 := lt_of_cell q1'
        have HC2 := iIsType_any C lc HLC hpl.2 a2 c2 W1 hnC1
        clear hbW hb3 hnC q1 hlW HC1 hnC1 e1 e2 hbl
        cases hta : typeb A
        · have HN : Hid (¬ Valid ps) := HBAD.out (.inr (.inl hta))
          clear HC2
          go_wp2
          go_ret
          exact ⟨AreRes.no HN.out, by rw [hz]; exact hb4⟩
        · go_wp2_with fail
          refine HC2.mono ?_
          rintro e W2 ⟨rfl, hb5⟩
          have hb6 := hb4.trans (hb5.mono (by have := hb4.size; omega))
          clear HC2 hb4 hb5 q1' hl1
          cases htc : typeb C
          · have HN : Hid (¬ Valid ps) := HBAD.out (.inr (.inr htc))
            go_wp2
            go_ret
            exact ⟨AreRes.no HN.out, by rw [hz]; exact hb6⟩
          · have HAL : Hid (∀ p ∈ ps.take (i + 1), typeb p.1 = true ∧ typeb p.2 = true) := HALL.out hta htc
            have HT2 : Hid (pairSum ps (i + 1) ≤ 20000) := by show pairSum ps (i + 1) ≤ 20000; rw [HT.out]; omega
            go_wp2
            go_roundw
            case rel => exact ⟨i + 1, by omega, by go_num, by rw [HT.out]; go_num, HT2.out, HAL.out, hb6⟩
            case measure => simp [intOf]; omega
    · have hie : i = m := by omega
      subst hie
      have hse : pairSum ps i = (ps.map fun p => p.1.length + p.2.length).sum := by
        unfold pairSum
        rw [List.take_of_length_le (by have := HM.out; omega)]
      have HV : Hid (Valid ps) := by
        refine ⟨by omega, ?_⟩
        rw [List.take_of_length_le (by have := HM.out; omega)] at hall
        exact hall
      clear hall
      go_wp2
      go_ret
      exact ⟨AreRes.yes HV.out, by rw [hz]; exact hb⟩
end Go.Proofs.YtoiiibplkhedcaaGreatDoor
