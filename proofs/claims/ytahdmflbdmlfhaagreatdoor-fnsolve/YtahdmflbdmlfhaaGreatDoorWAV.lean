import Derived.Test.YtahdmflbdmlfhaaGreatDoorWAU
namespace Go.Proofs.YtahdmflbdmlfhaaGreatDoor
open Go.RowKit

/-! Where there is no circle, a cell can be read as a term. -/

theorem Ev.ot {xs : List Nd} {d : DT} (h : Ev selfT xs d) : Ot xs d := by
  induction h using Ev.elim with
  | leaf n hk h0 => exact Ot.node n [] [] (by simpa using h0) rfl (fun i h1 => by simp at h1)
  | node n hk xss ds hn hl h ih => exact Ot.node n xss ds hn hl ih

/-- One term, whatever the unknowns are. -/
def ReadAt (X : Nat → Prop) (g : Nat → GC) (lk : Nat → Option Nat) (leaf : Nat → Nd) (k : Nat) (xs : List Nd) : Prop :=
  ∀ (θ : Nat → DT) (σ : Nd → DT), SatC X g lk θ → (∀ r, X r → lk r = none → (g r).op = true → σ (leaf r) = θ r) → Ev σ xs (θ k)

section
variable {ps : List (List Nd × List Nd)} {k : Nat} {X : Nat → Prop} {f : Nat → CC} {K : (Option Addr × Nat × Nat) → List Nat} {U : Int → Int → Option Nat} {hf : Int → Nat → Nat} {leaf : Nat → Nd}

theorem read_of {Q : Nd → Prop} (hQ : ∀ t r, X r → ((gcAt K f t r).op = true → Q (leaf r)) ∧ Q (f r).nd) (hleaf : ∀ r, (leaf r).kind = 61 ∧ (leaf r).kids = 0) (hopen : ∀ b, X b → (f b).nd.kind = 61 → (f b).lv = 1) (hin : ∀ b, X b → ∀ k ∈ K (f b).ks, X k) (har : ∀ b, X b → ((K (f b).ks).length : Int) = (f b).nd.kids)
    (hH : ∀ t k, Hd (tdAt Classical.propDecidable X f t) k (hf t k)) (hXH : ∀ t k, X k → X (hf t k)) {t : Int} {Lf : Nat → Prop} {rk : Nat → Nat} (hL : LeftOk (kidsT K f t) (hf t) Lf rk) : ∀ m k, X k → Lf (hf t k) → rk (hf t k) < m → ∃ xs, ReadAt X (gcAt K f t) (tdAt Classical.propDecidable X f t) leaf k xs ∧ (∀ n : Nd, xs = [n] → n.kind = 61 → (gcAt K f t (hf t k)).op = true ∧ n = leaf (hf t k)) ∧ ∀ n ∈ xs, Q n := by
  intro m
  induction m with
  | zero => intro k _ _ h; omega
  | succ m ih =>
    intro k hX hl hm
    have hXr := hXH t k hX
    have hroot := hd_root (hH t k)
    cases ho : (gcAt K f t (hf t k)).op with
    | true =>
      refine ⟨[leaf (hf t k)], fun θ σ hs hσ => ?_, fun n e _ => ⟨rfl, by simpa using e.symm⟩, fun n hn => by rw [List.mem_singleton] at hn; rw [hn]; exact (hQ t _ hXr).1 ho⟩
      have h9 := Ev.leaf (σ := σ) (leaf (hf t k)) (hleaf _).1 (hleaf _).2
      rw [hσ _ hXr hroot ho, hd_same hs (hH t k)] at h9
      exact h9
    | false =>
      have ho2 := ho
      simp only [gcAt, Bool.or_eq_false_iff, decide_eq_false_iff_not] at ho2
      have hk61 : (f (hf t k)).nd.kind ≠ 61 := by
        intro e
        have h9 := ho2.2
        unfold CC.open? at h9
        rw [e, hopen _ hXr e] at h9
        simp at h9
      have ek : kidsT K f t (hf t k) = K (f (hf t k)).ks := by unfold kidsT; rw [if_neg ho2.1]
      have hk : ∀ j, ∃ xs, j ∈ K (f (hf t k)).ks → ReadAt X (gcAt K f t) (tdAt Classical.propDecidable X f t) leaf j xs ∧ ∀ n ∈ xs, Q n := by
        intro j
        by_cases hj : j ∈ K (f (hf t k)).ks
        · have h9 := hL.down _ hl j (by rw [ek]; exact hj)
          obtain ⟨xs, h1, _, h3⟩ := ih j (hin _ hXr j hj) h9.1 (by omega)
          exact ⟨xs, fun _ => ⟨h1, h3⟩⟩
        · exact ⟨[], fun h => absurd h hj⟩
      obtain ⟨F, hF⟩ := Classical.axiomOfChoice hk
      refine ⟨((K (f (hf t k)).ks).map F).flatten ++ [(f (hf t k)).nd], fun θ σ hs hσ => ?_, fun n e h61 => ?_, fun n hn => ?_⟩
      · have h9 := hs.2 _ hXr hroot ho
        simp only [gcAt] at h9
        rw [← hd_same hs (hH t k), h9]
        refine Ev.node _ hk61 _ _ (by rw [← har _ hXr]; simp) (by simp) (fun i h1 h2 => ?_)
        simp only [List.getElem_map]
        exact (hF _ (List.getElem_mem _)).1 θ σ hs hσ
      · have h9 := (List.append_inj' (s₂ := []) e rfl).2
        simp only [List.cons.injEq, and_true] at h9
        rw [← h9] at h61
        exact absurd h61 hk61
      · rw [List.mem_append, List.mem_singleton] at hn
        rcases hn with hn | rfl
        · obtain ⟨l, hl1, hl2⟩ := List.mem_flatten.1 hn
          obtain ⟨j, hj, rfl⟩ := List.mem_map.1 hl1
          exact (hF j hj).2 n hl2
        · exact (hQ t _ hXr).2

/-- A reading in which every unknown stands for itself. -/
def gV (g : Nat → GC) (leaf : Nat → Nd) (i : Nat) : GC := if (g i).op = true then ⟨leaf i, [], true⟩ else g i

theorem self_sat (g : Nat → GC) (lk : Nat → Option Nat) (h : Nat → Nat) (hh : ∀ k, Hd lk k (h k)) : SatC X g lk (fun i p => val (gV g leaf) h p i) ∧ ∀ r, lk r = none → (g r).op = true → selfT (leaf r) = fun p => val (gV g leaf) h p r := by
  have h2 : ∀ i, lk i = none → h i = i := fun i e => (hh i).fun (.root e)
  have h1 := sat_val (X := X) (g := gV g leaf) (lk := lk) (hd := h) (fun i j e => (hh i).fun (.step e (hh j))) h2
  refine ⟨⟨h1.1, fun i hi hl ho => ?_⟩, fun r hl ho => ?_⟩
  · have e9 : gV g leaf i = g i := by unfold gV; rw [if_neg (by rw [ho]; decide)]
    have h9 := h1.2 i hi hl (by rw [e9]; exact ho)
    rw [e9] at h9
    exact h9
  · have e9 : gV g leaf r = ⟨leaf r, [], true⟩ := by unfold gV; rw [if_pos ho]
    rw [val_con, h2 r hl, e9]
    rfl

/-- Where there is no circle, terms solve the pairs. -/
theorem TimeM.noCyc {Q : Nd → Prop} (M : TimeM ps k X f K U) (hQ : ∀ t r, X r → ((gcAt K f t r).op = true → Q (leaf r)) ∧ Q (f r).nd) (hleaf : ∀ r, (leaf r).kind = 61 ∧ (leaf r).kids = 0) (hopen : ∀ b, X b → (f b).nd.kind = 61 → (f b).lv = 1) (hwf : ∀ x c, U 1 x = some c → (Lit.int .i64 x).wf = true) (hin : ∀ b, X b → ∀ k ∈ K (f b).ks, X k) (har : ∀ b, X b → ((K (f b).ks).length : Int) = (f b).nd.kids)
    (hH : ∀ t k, Hd (tdAt Classical.propDecidable X f t) k (hf t k)) (hXH : ∀ t k, X k → X (hf t k)) {t : Nat} (ht : t < k) (hc : NoCyc K f hf U (t : Int)) :
    ∃ ρ : Int → List Nd, (∀ x, One (ρ x)) ∧ Solves ρ (ps.take (t + 1)) ∧ (∀ x, U 1 x = none → ρ x = [metaN x]) ∧ ∀ x b, U 1 x = some b → ReadAt X (gcAt K f t) (tdAt Classical.propDecidable X f t) leaf b (ρ x) ∧ (∀ n : Nd, ρ x = [n] → n.kind = 61 → (gcAt K f t (hf t b)).op = true ∧ n = leaf (hf t b)) ∧ ∀ n ∈ ρ x, Q n := by
  obtain ⟨Lf, rk, hL, hU⟩ := hc
  have hch : ∀ x, ∃ xs : List Nd, (U 1 x = none → xs = [metaN x]) ∧ ∀ b, U 1 x = some b → ReadAt X (gcAt K f t) (tdAt Classical.propDecidable X f t) leaf b xs ∧ (∀ n : Nd, xs = [n] → n.kind = 61 → (gcAt K f t (hf t b)).op = true ∧ n = leaf (hf t b)) ∧ ∀ n ∈ xs, Q n := by
    intro x
    cases e : U 1 x with
    | none => exact ⟨[metaN x], fun _ => rfl, (fun b h => by cases h)⟩
    | some b =>
      obtain ⟨xs, h1, h2, h3⟩ := read_of hQ hleaf hopen hin har hH hXH hL _ b (M.inX x b e) (hU 1 x b (by decide) (hwf x b e) e) (Nat.lt_succ_self _)
      exact ⟨xs, (fun h => by cases h), (fun c h => by cases h; exact ⟨h1, h2, h3⟩)⟩
  obtain ⟨ρ, hρ⟩ := Classical.axiomOfChoice hch
  obtain ⟨s1, s2⟩ := self_sat (X := X) (leaf := leaf) (gcAt K f t) (tdAt Classical.propDecidable X f t) (hf t) (hH t)
  have hev : ∀ x b, U 1 x = some b → Ot (ρ x) (fun p => val (gV (gcAt K f t) leaf) (hf t) p b) := fun x b e => (((hρ x).2 b e).1 _ selfT s1 (fun r _ hl ho => s2 r hl ho)).ot
  refine ⟨ρ, fun x => ?_, fun p hp => ?_, fun x => (hρ x).1, fun x b e => (hρ x).2 b e⟩
  · cases e : U 1 x with
    | none => rw [(hρ x).1 e]; exact metaN_one x
    | some b => exact (hev x b e).one
  · rw [List.mem_take_iff_getElem] at hp
    obtain ⟨i, hi, rfl⟩ := hp
    refine solves_of (M.sound t ht _ s1 i (by omega) (by omega)) (fun n hn h61 => ?_)
    obtain ⟨b, hb⟩ := M.known i (by omega) (by omega) n hn h61
    have e9 : sg U 1 (fun i p => val (gV (gcAt K f t) leaf) (hf t) p i) n = fun p => val (gV (gcAt K f t) leaf) (hf t) p b := by
      unfold sg
      rw [hb]
    rw [e9]
    exact hev _ b hb

end

end Go.Proofs.YtahdmflbdmlfhaaGreatDoor

namespace Go.Proofs.YtahdmflbdmlfhaaGreatDoor
open Go.RowKit

/-! The solution that is as general as can be, out of a store without a circle. -/

theorem meta_plainN (x : Int) (h : 1 ≤ x) : (metaN x).plainb = true := by simp [Nd.plainb, metaN, h]

/-- What stands for a cell that isn't told. -/
def leafN (f : Nat → CC) (r : Nat) : Nd := if (f r).nd.kind = 61 ∧ (f r).nd.kids = 0 then (f r).nd else metaN 1

theorem leafN_ok (f : Nat → CC) (r : Nat) : (leafN f r).kind = 61 ∧ (leafN f r).kids = 0 := by
  unfold leafN
  split
  · assumption
  · exact ⟨rfl, rfl⟩

section
variable {ps : List (List Nd × List Nd)} {N : Nat} {X : Nat → Prop} {f : Nat → CC} {lk : Nat → Option Nat} {K : (Option Addr × Nat × Nat) → List Nat} {U : Int → Int → Option Nat} {hf : Int → Nat → Nat}

theorem Hist.op {now : Int} (H : Hist X f lk now) {r : Nat} (hr : X r) (ho : (gcAt K f now r).op = true) : (f r).open? = true := by
  have h9 := (H.told r hr).2
  simp only [gcAt, Bool.or_eq_true, decide_eq_true_eq] at ho
  rcases ho with ho | ho
  · omega
  · exact ho

theorem leafN_open (har : ∀ b, X b → ((K (f b).ks).length : Int) = (f b).nd.kids) (hmet : ∀ b, X b → (f b).nd.kind = 61 → K (f b).ks = []) {r : Nat} (hr : X r) (ho : (f r).open? = true) : leafN f r = (f r).nd := by
  have hk : (f r).nd.kind = 61 := by
    unfold CC.open? at ho
    simp only [Bool.and_eq_true, beq_iff_eq] at ho
    exact ho.1
  have h0 := har r hr
  rw [hmet r hr hk] at h0
  unfold leafN
  rw [if_pos ⟨hk, by simpa using h0.symm⟩]

theorem TimeM.solveOk (M : TimeM ps (N + 1) X f K U) (hN : ps.length = N + 1) (H : Hist X f lk (N : Int)) (hNum : NumOk X (U 1) f lk) (hps : ∀ p ∈ ps, (Leafy p.1 ∧ One p.1) ∧ Leafy p.2 ∧ One p.2) (hpl : ∀ r, X r → (f r).nd.plainb = true) (hwf : ∀ x c, U 1 x = some c → (Lit.int .i64 x).wf = true)
    (hin : ∀ b, X b → ∀ k ∈ K (f b).ks, X k) (har : ∀ b, X b → ((K (f b).ks).length : Int) = (f b).nd.kids) (hmet : ∀ b, X b → (f b).nd.kind = 61 → K (f b).ks = []) (hH : ∀ t k, Hd (tdAt Classical.propDecidable X f t) k (hf t k)) (hXH : ∀ t k, X k → X (hf t k)) (hc : NoCyc K f hf U (N : Int)) :
    ∃ σ : Int → List Nd, SolveOk ps σ ∧ ∀ x b, U 1 x = some b → ReadAt X (gcAt K f N) (tdAt Classical.propDecidable X f N) (leafN f) b (σ x) := by
  obtain ⟨σ, h1, h2, h3, h4⟩ := M.noCyc (Q := fun n => n.plainb = true) (leaf := leafN f) (fun t r hr => ⟨fun _ => by
    unfold leafN
    split
    · exact hpl r hr
    · exact meta_plainN 1 (by omega), hpl r hr⟩) (leafN_ok f) H.open' hwf hin har hH hXH (t := N) (by omega) hc
  rw [List.take_of_length_le (by omega)] at h2
  have hHd : ∀ {i r : Nat}, Hd lk i r ↔ Hd (tdAt Classical.propDecidable X f N) i r := fun {i r} => H.hd i r
  refine ⟨σ, ⟨h1, fun x hx => ?_, h2, fun θ' ho hs x => ?_, fun x y e => ?_⟩, fun x b e => (h4 x b e).1⟩
  · cases e : U 1 x with
    | none =>
      rw [h3 x e]
      simp [meta_plainN x hx]
    | some b => exact List.all_eq_true.2 fun n hn => (h4 x b e).2.2 n hn
  · obtain ⟨D, hD⟩ := Classical.axiomOfChoice fun x => ot_of (ho x)
    obtain ⟨θ, t1, t2⟩ := M.full N (by omega) D fun i hi hit => holds_solves hps hD (m := N + 1) (by rw [List.take_of_length_le (by omega)]; exact hs) i hi (by omega)
    cases e : U 1 x with
    | none =>
      rw [h3 x e]
      simp [fill, fillN, metaN]
    | some b =>
      have h9 := (h4 x b e).1 θ (fun n => D n.num) t1 (fun r hr hl hop => by
        have hop2 := H.op hr hop
        rw [leafN_open har hmet hr hop2]
        obtain ⟨b', u1, u2⟩ := hNum.has r hr (H.hd.symm.rootN hl) hop2
        rw [← t2 _ b' u1]
        exact (hd_same t1 (hHd.1 u2)).symm)
      have h8 := h9.written (ρ := θ') fun n _ _ => hD n.num
      rw [t2 x b e] at h8
      exact h8.same (hD x)
  · cases e2 : U 1 x with
    | none =>
      rw [h3 x e2] at e
      have := metaN_inj e
      omega
    | some b =>
      obtain ⟨p1, p2⟩ := (h4 x b e2).2.1 (metaN y) e rfl
      have hXr := hXH N b (M.inX x b e2)
      have hop := H.op hXr p1
      rw [leafN_open har hmet hXr hop] at p2
      have h9 := hNum.low x b _ e2 (hHd.2 (hH N b)) hop
      rw [← p2] at h9
      exact h9

end

end Go.Proofs.YtahdmflbdmlfhaaGreatDoor

namespace Go.Proofs.YtahdmflbdmlfhaaGreatDoor
open Go.RowKit

/-! How long the terms are that cells are read as. -/

/-- How much is written there. -/
def szT (ep : (List Nd → Prop) → List Nd) (th : Nat → DT) (h : Nat) : Nat := (ep fun xs => Ot xs (th h)).length

theorem szT_eq {θ : Nat → DT} {h : Nat} {xs : List Nd} (hx : Ot xs (θ h)) : szT Classical.epsilon θ h = xs.length := by
  have e : ∃ xs, Ot xs (θ h) := ⟨xs, hx⟩
  unfold szT
  rw [(Classical.epsilon_spec e).same hx]

theorem szT_con {θ : Nat → DT} {h : Nat} {n : Nd} {ks : List Nat} {hf : Nat → Nat} (he : θ h = con n (ks.map θ)) (hn : n.kids = (ks.length : Int)) (hr : ∀ k ∈ ks, θ (hf k) = θ k) {xs : List Nd} (hx : Ot xs (θ h)) : szT Classical.epsilon θ h = 1 + (ks.map fun k => szT Classical.epsilon θ (hf k)).sum := by
  rw [szT_eq hx]
  rw [he] at hx
  obtain ⟨m, xss, es, hm, hl, h1, rfl, e⟩ := hx.last
  obtain rfl := con_nd e
  have e2 := con_kids e (by simp; omega)
  subst e2
  have e3 : (ks.map fun k => szT Classical.epsilon θ (hf k)) = xss.map List.length := by
    apply List.ext_getElem (by simpa using hl)
    intro i i1 i2
    simp only [List.getElem_map]
    have hi : i < ks.length := by simpa using i1
    refine szT_eq ?_
    rw [hr _ (List.getElem_mem hi)]
    have h9 := h1 i (by simpa using i2) (by simpa using hi)
    simpa using h9
  rw [e3, List.length_append, List.length_flatten]
  simp only [List.length_cons, List.length_nil]
  omega

section
variable {X : Nat → Prop} {f : Nat → CC} {lk : Nat → Option Nat} {K : (Option Addr × Nat × Nat) → List Nat} {U : Int → Int → Option Nat} {hf : Int → Nat → Nat} {now : Int}

/-- The sizes that are counted at the end. -/
theorem NoCyc.sizes (hc : NoCyc K f hf U now) (H : Hist X f lk now) (hwf : ∀ x c, U 1 x = some c → (Lit.int .i64 x).wf = true) (hUX : ∀ x b, U 1 x = some b → X b)
    (hin : ∀ b, X b → ∀ k ∈ K (f b).ks, X k) (har : ∀ b, X b → ((K (f b).ks).length : Int) = (f b).nd.kids) (hmet : ∀ b, X b → (f b).nd.kind = 61 → K (f b).ks = []) (hH : ∀ t k, Hd (tdAt Classical.propDecidable X f t) k (hf t k)) (hXH : ∀ t k, X k → X (hf t k)) :
    ∃ (Lf : Nat → Prop) (rk sz : Nat → Nat), LeftOk (fun h => K (f h).ks) (hf now) Lf rk ∧ (∀ h, Lf h → sz h = 1 + ((K (f h).ks).map fun k => sz (hf now k)).sum) ∧ ∀ x b, U 1 x = some b → Lf (hf now b) ∧ ∀ xs, ReadAt X (gcAt K f now) (tdAt Classical.propDecidable X f now) (leafN f) b xs → xs.length = sz (hf now b) := by
  obtain ⟨Lf, rk, hL, hU⟩ := hc
  obtain ⟨s1, s2⟩ := self_sat (X := X) (leaf := leafN f) (gcAt K f now) (tdAt Classical.propDecidable X f now) (hf now) (hH now)
  generalize hθ : (fun (i : Nat) (p : List Nat) => val (gV (gcAt K f now) (leafN f)) (hf now) p i) = θ at s1
  have s3 : ∀ r, tdAt Classical.propDecidable X f now r = none → (gcAt K f now r).op = true → selfT (leafN f r) = θ r := by
    intro r h1 h2
    rw [s2 r h1 h2, ← hθ]
  have ek : ∀ h, X h → kidsT K f now h = K (f h).ks := by
    intro h hX
    have := (H.told h hX).2
    unfold kidsT
    rw [if_neg (by omega)]
  have hread : ∀ b xs, ReadAt X (gcAt K f now) (tdAt Classical.propDecidable X f now) (leafN f) b xs → Ot xs (θ b) := fun b xs h => (h θ selfT s1 fun r _ hl ho => s3 r hl ho).ot
  refine ⟨fun h => Lf h ∧ X h ∧ tdAt Classical.propDecidable X f now h = none, rk, szT Classical.epsilon θ, ⟨fun h hh k hk => ?_⟩, fun h hh => ?_, fun x b e => ⟨⟨hU 1 x b (by decide) (hwf x b e) e, hXH _ b (hUX x b e), hd_root (hH _ b)⟩, fun xs hx => ?_⟩⟩
  · have h9 := hL.down h hh.1 k (by rw [ek h hh.2.1]; exact hk)
    exact ⟨⟨h9.1, hXH _ k (hin h hh.2.1 k hk), hd_root (hH _ k)⟩, h9.2⟩
  · obtain ⟨h1, h2, h3⟩ := hh
    have hself : hf now h = h := (hH now h).fun (.root h3)
    obtain ⟨xs, r1, _⟩ := read_of (Q := fun _ => True) (leaf := leafN f) (fun _ _ _ => ⟨fun _ => trivial, trivial⟩) (leafN_ok f) H.open' hin har hH hXH hL _ h h2 (by rw [hself]; exact h1) (Nat.lt_succ_self _)
    have hx := hread h xs r1
    cases ho : (gcAt K f now h).op with
    | true =>
      have hop := H.op h2 ho
      have hk : (f h).nd.kind = 61 := by
        unfold CC.open? at hop
        simp only [Bool.and_eq_true, beq_iff_eq] at hop
        exact hop.1
      rw [hmet h h2 hk]
      exact szT_con (ks := []) (n := leafN f h) (hf := hf now) (s3 h h3 ho).symm (by simpa using (leafN_ok f h).2) (by simp) hx
    | false =>
      exact szT_con (ks := K (f h).ks) (n := (f h).nd) (hf := hf now) (s1.2 h h2 h3 ho) (har h h2).symm (fun k _ => hd_same s1 (hH now k)) hx
  · have h9 := hread b xs hx
    rw [← hd_same s1 (hH now b)] at h9
    exact (szT_eq h9).symm

end

end Go.Proofs.YtahdmflbdmlfhaaGreatDoor

namespace Go.Proofs.YtahdmflbdmlfhaaGreatDoor
open Go.RowKit

/-! What Solve answers, out of what the store says. -/

section
variable {ps : List (List Nd × List Nd)} {k : Nat} {X : Nat → Prop} {f : Nat → CC} {lk : Nat → Option Nat} {K : (Option Addr × Nat × Nat) → List Nat} {U : Int → Int → Option Nat} {hf : Int → Nat → Nat}

/-- There is a first pair that can't be met. -/
theorem TimeM.resNo (M : TimeM ps k X f K U) (hv : Valid ps) (hps : ∀ p ∈ ps, (Leafy p.1 ∧ One p.1) ∧ Leafy p.2 ∧ One p.2) (hU1 : ∀ l x c, U l x = some c → l = 1) (hopen : ∀ b, X b → (f b).nd.kind = 61 → (f b).lv = 1) (hwf : ∀ x c, U 1 x = some c → (Lit.int .i64 x).wf = true)
    (hin : ∀ b, X b → ∀ k ∈ K (f b).ks, X k) (har : ∀ b, X b → ((K (f b).ks).length : Int) = (f b).nd.kids) (hmet : ∀ b, X b → (f b).nd.kind = 61 → K (f b).ks = []) (hH : ∀ t k, Hd (tdAt Classical.propDecidable X f t) k (hf t k)) (hXH : ∀ t k, X k → X (hf t k))
    {r : Nat} (hr : r ≤ k) (hrl : r < ps.length) (hc : r < k → Cyc U K f hf (r : Int)) (hn : 0 < r → NoCyc K f hf U ((r : Int) - 1)) (hlast : r = k → ∀ ρ : Int → List Nd, (∀ x, One (ρ x)) → ¬ Solves ρ (ps.take (r + 1))) : SolveRes ps false r [] := by
  refine .no r hv hrl ?_ ?_
  · by_cases h0 : r = 0
    · subst h0
      exact ⟨fun x => [metaN x], metaN_one, fun p hp => by simp at hp⟩
    · have h9 := hn (by omega)
      have e : ((r : Int) - 1) = ((r - 1 : Nat) : Int) := by omega
      rw [e] at h9
      obtain ⟨ρ, h1, h2, _⟩ := M.noCyc (Q := fun _ => True) (leaf := fun _ => metaN 1) (fun _ _ _ => ⟨fun _ => trivial, trivial⟩) (fun _ => ⟨rfl, rfl⟩) hopen hwf hin har hH hXH (t := r - 1) (by omega) h9
      rw [show r - 1 + 1 = r by omega] at h2
      exact ⟨ρ, h1, h2⟩
  · intro ρ hρ hs
    by_cases h9 : r < k
    · exact M.cyc hps hU1 hin har hmet hH hXH h9 (hc h9) ρ hρ hs
    · exact hlast (by omega) ρ hρ hs

/-- A pair that nothing meets. -/
theorem LoopM.noSolves (M : LoopM ps k X f lk K U) (hps : ∀ p ∈ ps, (Leafy p.1 ∧ One p.1) ∧ Leafy p.2 ∧ One p.2) (hk : k < ps.length) (hkn : ∀ n, n ∈ ps[k].1 ∨ n ∈ ps[k].2 → n.kind = 61 → ∃ b, U 1 n.num = some b) {a b : Nat} (hA : ∀ θ, SatC X (gc K f) lk θ → Ev (sg U 1 θ) ps[k].1 (θ a)) (hB : ∀ θ, SatC X (gc K f) lk θ → Ev (sg U 1 θ) ps[k].2 (θ b))
    (hno : ∀ θ, SatC X (gc K f) lk θ → θ a ≠ θ b) (ρ : Int → List Nd) (hρ : ∀ x, One (ρ x)) : ¬ Solves ρ (ps.take (k + 1)) := by
  intro hs
  obtain ⟨D, hD⟩ := Classical.axiomOfChoice fun x => ot_of (hρ x)
  exact M.no hk hkn hA hB hno D fun i hi hik => holds_solves hps hD hs i hi (by omega)

/-- No pairs. -/
theorem solveOk_nil : SolveOk [] fun x => [metaN x] := by
  refine ⟨metaN_one, fun x hx => by simp [meta_plainN x hx], (fun p hp => by cases hp), fun θ _ _ x => by simp [fill, fillN, metaN], fun x y e => ?_⟩
  have := metaN_inj e
  omega

end

end Go.Proofs.YtahdmflbdmlfhaaGreatDoor
