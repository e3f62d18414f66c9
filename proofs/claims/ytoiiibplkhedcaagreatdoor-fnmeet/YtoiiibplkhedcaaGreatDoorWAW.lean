import Derived.Test.YtoiiibplkhedcaaGreatDoorWAV
set_option maxRecDepth 20000
set_option maxHeartbeats 8000000
namespace Go.Proofs.YtoiiibplkhedcaaGreatDoor
open Go.RowKit
def Pairs (w : World) (ao : Option Addr) (ps : List (List Nd × List Nd)) : Prop := ∀ i (h : i < ps.length), ∃ b o a1 c1 a2 c2, ao = some ⟨b, o, none⟩ ∧ w.cell? ⟨b, o + i * 2, none⟩ = some (.slice a1 ps[i].1.length c1) ∧ w.cell? ⟨b, o + i * 2 + 1, none⟩ = some (.slice a2 ps[i].2.length c2) ∧ Nodes w a1 ps[i].1 ∧ Nodes w a2 ps[i].2
theorem Pairs.below {w w' : World} {ao : Option Addr} {ps : List (List Nd × List Nd)} (h : Pairs w ao ps) (hb : Below w.heap.size w w') : Pairs w' ao ps := by
  intro i hi
  obtain ⟨b, o, a1, c1, a2, c2, e, h1, h2, h3, h4⟩ := h i hi
  exact ⟨b, o, a1, c1, a2, c2, e, (hb.cell (Qaa h1)).trans h1, (hb.cell (Qaa h2)).trans h2, h3.below hb, h4.below hb⟩
def pairSum (ps : List (List Nd × List Nd)) (i : Nat) : Nat := ((ps.take i).map fun p => p.1.length + p.2.length).sum
theorem Qdz {ps : List (List Nd × List Nd)} {i : Nat} (h : i < ps.length) : pairSum ps (i + 1) = pairSum ps i + ps[i].1.length + ps[i].2.length := by
  unfold pairSum
  rw [List.take_succ_eq_append_getElem h, List.map_append, List.sum_append]
  simp
  omega
theorem Qdl (ps : List (List Nd × List Nd)) (i : Nat) : pairSum ps i ≤ (ps.map fun p => p.1.length + p.2.length).sum := by
  unfold pairSum
  have h9 : ps.map (fun p => p.1.length + p.2.length) = (ps.take i).map (fun p => p.1.length + p.2.length) ++ (ps.drop i).map (fun p => p.1.length + p.2.length) := by rw [← List.map_append, List.take_append_drop]
  rw [h9, List.sum_append]
  omega
theorem Qkt {w : World} {z : Nat} {a b c a' b' c' : Value} (h : w.heap[z]? = some (.cells #[a, b, c] 46 (0, 0))) : w.cell? ⟨z, 0, none⟩ = some a ∧ w.cell? ⟨z, 1, none⟩ = some b ∧ w.cell? ⟨z, 2, none⟩ = some c ∧ w.frozen? ⟨z, 0, none⟩ = false ∧ w.frozen? ⟨z, 1, none⟩ = false ∧ w.frozen? ⟨z, 2, none⟩ = false ∧ z < w.heap.size ∧ But (fun i => i = z) w (((w.setCell ⟨z, 0, none⟩ a').setCell ⟨z, 1, none⟩ b').setCell ⟨z, 2, none⟩ c') := by
  refine ⟨?_, ?_, ?_, frozen_of_row w z 0 _ 46 h, frozen_of_row w z 1 _ 46 h, frozen_of_row w z 2 _ 46 h, (Array.getElem?_eq_some_iff.1 h).1, (((But.refl (fun i => i = z) w).setCell (p := ⟨z, 0, none⟩) rfl _).setCell (p := ⟨z, 1, none⟩) rfl _).setCell (p := ⟨z, 2, none⟩) rfl _⟩ <;> (rw [cell_of_row _ _ _ _ _ _ h]; rfl)
end Go.Proofs.YtoiiibplkhedcaaGreatDoor
namespace Go.Proofs.YtoiiibplkhedcaaGreatDoor
open Go.RowKit Go.Maps
/-! The state of solve's loop. -/
theorem Qyy (f : Nat → CC) (a h q : Nat) (r t : Int) (i : Nat) : (Qat f a h q r t i).sn = (f i).sn := by
  unfold Qat
  by_cases h1 : i = q
  · rw [if_pos h1, h1]
  · rw [if_neg h1]
    by_cases h2 : i = h
    · rw [if_pos h2, h2]
      split <;> rfl
    · rw [if_neg h2]
theorem Ties.seen {X : Nat → Prop} {t : Int} {f f' : Nat → CC} {lk lk' : Nat → Option Nat} (h : Ties X t f lk f' lk') : ∀ r, (f' r).sn = (f r).sn := by
  induction h using Ties.elim with
  | same _ => exact fun _ => rfl
  | step _ _ _ _ _ _ _ _ _ ih => exact fun i => (Qyy _ _ _ _ _ _ i).trans (ih i)
structure SolG (ps : List (List Nd × List Nd)) (i now q : Nat) (O : Int → Prop) (w : World) (sb mb n : Nat) (X : Nat → Prop) (f : Nat → CC) (lk : Nat → Option Nat) (d : Nat → Nat) (K : (Option Addr × Nat × Nat) → List Nat) (U : Int → Int → Option Nat) (D : DataW Value) (rt : List Nat) : Prop where
  stor : Stor w sb mb n (now : Int) X f lk d K U D
  blk : SBlk w sb mb (now : Int) 0 0 0 (none, 0, 0)
  loop : LoopM ps i X f lk K U
  hist : Hist X f lk (now : Int)
  num : NumOk X (U 1) f lk
  plain : ∀ r, X r → (f r).nd.plainb = true
  one : ∀ l x c, U l x = some c → l = 1
  wf : ∀ x c, U 1 x = some c → (Lit.int .i64 x).wf = true
  seen : ∀ r, X r → (f r).sn = 0
  occ : ∀ x c, U 1 x = some c → O x
  cnt : n ≤ q
  roots : (∀ r, X r → r ∈ rt) ∧ rt.length ≤ q
section
variable {ps : List (List Nd × List Nd)} {i now q : Nat} {O : Int → Prop} {w w' : World} {sb mb n : Nat} {X : Nat → Prop} {f : Nat → CC} {lk : Nat → Option Nat} {d : Nat → Nat} {K : (Option Addr × Nat × Nat) → List Nat} {U : Int → Int → Option Nat} {D : DataW Value} {rt : List Nat}
theorem SBlk.but {S : Nat → Prop} {t I L nw : Int} {s : Option Addr × Nat × Nat} (h : SBlk w sb mb nw t I L s) (hb : But S w w') (hn : ¬ S sb) : SBlk w' sb mb nw t I L s :=
  (hb.block sb (Array.getElem?_eq_some_iff.1 h).1 hn).trans h
theorem SolG.msb (h : SolG ps i now q O w sb mb n X f lk d K U D rt) : mb ≠ sb := by
  intro e
  obtain ⟨es, clock, h1, _⟩ := h.stor.map
  have h9 := h.blk
  unfold SBlk at h9
  rw [← e, h1] at h9
  cases h9
theorem SolG.below (h : SolG ps i now q O w sb mb n X f lk d K U D rt) (hb : Below w.heap.size w w') : SolG ps i now q O w' sb mb n X f lk d K U D rt :=
  ⟨h.stor.below hb, h.blk.but (S := fun _ => False) (But.ofBelow hb) (fun h => h), h.loop, h.hist, h.num, h.plain, h.one, h.wf, h.seen, h.occ, h.cnt, h.roots⟩
theorem SolG.time (h : SolG ps i now q O w sb mb n X f lk d K U D rt) {now' : Nat} (hn : now ≤ now') : SolG ps i now' q O (w.setCell ⟨sb, 1, none⟩ (.int .i64 (now' : Int))) sb mb n X f lk d K U D rt := by
  have hb : But (· = sb) w (w.setCell ⟨sb, 1, none⟩ (.int .i64 (now' : Int))) := (But.refl (· = sb) w).setCell (p := ⟨sb, 1, none⟩) rfl _
  have hblk : SBlk (w.setCell ⟨sb, 1, none⟩ (.int .i64 (now' : Int))) sb mb (now' : Int) 0 0 0 (none, 0, 0) := by
    have h9 := heap_setCell_same w sb 1 _ 107 (.int .i64 (now' : Int)) h.blk
    simpa [SBlk] using h9
  obtain ⟨s0, s1, _⟩ := hblk.cell
  have hX : ∀ b, X b → b ≠ sb := fun b hb e => h.stor.sX (e ▸ hb)
  have hbX : But (fun b => b = sb) w (w.setCell ⟨sb, 1, none⟩ (.int .i64 (now' : Int))) := hb
  refine ⟨⟨⟨h.stor.sto.cells.but hbX hX, h.stor.sto.acyc, fun b hb' => ?_, h.stor.sto.inX, h.stor.sto.arity, h.stor.sto.met, h.stor.sto.low⟩, s0, s1, h.stor.sX, Qbm h.stor.map hb h.msb, h.stor.ud, h.stor.inX, h.stor.nil⟩, hblk, h.loop, h.hist.later (by omega), h.num, h.plain, h.one, h.wf, h.seen, h.occ, h.cnt, h.roots⟩
  have h9 := h.stor.sto.rows b hb'
  refine ⟨h9.1, ?_⟩
  rcases h9.2 with e | ⟨g, cur, h1, h2, h3, h4, h5⟩
  · exact .inl e
  · refine .inr ⟨g, cur, h1, h2, by simpa using h3, ?_, h5⟩
    refine (hb.block g h3 ?_).trans h4
    rintro rfl
    have h8 := h.blk
    unfold SBlk at h8
    rw [h4] at h8
    simp at h8
theorem SolG.take (h : SolG ps i now q O w sb mb n X f lk d K U D rt) {ty : List Nd} {b n' : Nat} {X' : Nat → Prop} {f' : Nat → CC} {K' : (Option Addr × Nat × Nat) → List Nat} {U' : Int → Int → Option Nat} {D' : DataW Value} {rt' : List Nat} {L : Nat} (hL : L ≤ q)
    (T : Taken w w' sb mb n (now : Int) 1 (fun _ => True) X f lk d K U L ty b n' X' f' K' U' D' rt') (hpl : ty.all Nd.plainb = true) (hwf : ∀ x ∈ ty, (Lit.int .i64 x.num).wf = true) :
    SolG ps i now (q + ty.length) (fun x => O x ∨ x ∈ metas ty) w' sb mb n' X' f' lk d K' U' D' rt' := by
  have hmemM : ∀ {y : Nd}, y ∈ ty → y.kind = 61 → y.num ∈ metas ty := by
    intro y hy h61
    exact List.mem_map.2 ⟨y, List.mem_filter.2 ⟨hy, by simp [h61]⟩, rfl⟩
  refine ⟨T.stor, h.blk.but T.old h.msb.symm, h.loop.grow T.grow (fun _ => trivial) h.hist.inX (fun r hr k hk => h.stor.sto.inX r hr k hk) (fun x c e => T.stor.inX 1 x c e), T.grow.hist h.hist, T.grow.num h.num (fun x c e => h.stor.inX 1 x c e) T.um, T.plain (Q := fun n => n.plainb = true) h.plain (fun x hx => List.all_eq_true.1 hpl x hx), fun l x c e => ?_, fun x c e => ?_, fun r hr => ?_, fun x c e => ?_, ?_, T.roots.1, ?_⟩
  · by_cases hl : l = 1
    · exact hl
    · rw [T.grow.other l x hl] at e
      exact h.one l x c e
  · rcases T.src x c e with e | ⟨y, hy, h61, rfl⟩
    · exact h.wf x c e
    · exact hwf y hy
  · by_cases hx : X r
    · rw [T.grow.old r hx]
      exact h.seen r hx
    · exact (T.grow.new r hr hx).2.2.1
  · rcases T.src x c e with e | ⟨y, hy, h61, rfl⟩
    · exact .inl (h.occ x c e)
    · exact .inr (hmemM hy h61)
  · have := T.num
    have := h.cnt
    omega
  · have := T.roots.2
    omega
theorem CSto.storOf {f' : Nat → CC} {lk' : Nat → Option Nat} {d' : Nat → Nat} (h : SolG ps i now q O w sb mb n X f lk d K U D rt) (hC : CSto w' X f' lk' d' K) (hb : But X w w') : Stor w' sb mb n (now : Int) X f' lk' d' K U D := by
  have hmX := h.stor.mX
  exact ⟨hC, (hb.cell (Qaa h.stor.s0) h.stor.sX).trans h.stor.s0, (hb.cell (Qaa h.stor.s1) h.stor.sX).trans h.stor.s1, h.stor.sX, Qbm h.stor.map hb hmX, h.stor.ud, h.stor.inX, h.stor.nil⟩
theorem SolG.tie (h : SolG ps i i q O w sb mb n X f lk d K U D rt) (hi : i < ps.length) (hkn : ∀ n, n ∈ ps[i].1 ∨ n ∈ ps[i].2 → n.kind = 61 → ∃ b, U 1 n.num = some b) {a b : Nat} (hA : ∀ θ, SatC X (gc K f) lk θ → Ev (sg U 1 θ) ps[i].1 (θ a)) (hB : ∀ θ, SatC X (gc K f) lk θ → Ev (sg U 1 θ) ps[i].2 (θ b))
    (hb : But X w w') {f' : Nat → CC} {lk' : Nat → Option Nat} {d' : Nat → Nat} (hC : CSto w' X f' lk' d' K) (hT : Ties X (i : Int) f lk f' lk') (hiff : ∀ θ, SatC X (gc K f') lk' θ ↔ SatC X (gc K f) lk θ ∧ θ a = θ b) :
    SolG ps (i + 1) i q O w' sb mb n X f' lk' d' K U D rt :=
  ⟨hC.storOf h hb, h.blk.but hb h.stor.sX, h.loop.next h.hist hi hkn hA hB hT hC.acyc hiff, (hT.hist h.hist).1, hT.num h.hist h.num, hT.nds (Q := fun n => n.plainb = true) h.plain, h.one, h.wf, fun r hr => (hT.seen r).trans (h.seen r hr), h.occ, h.cnt, h.roots⟩
end
structure SolE (ps : List (List Nd × List Nd)) (k now q : Nat) (w : World) (sb mb n : Nat) (X : Nat → Prop) (f : Nat → CC) (lk : Nat → Option Nat) (d : Nat → Nat) (K : (Option Addr × Nat × Nat) → List Nat) (U : Int → Int → Option Nat) (D : DataW Value) (rt : List Nat) : Prop where
  stor : Stor w sb mb n (now : Int) X f lk d K U D
  blk : SBlk w sb mb (now : Int) 0 0 0 (none, 0, 0)
  times : TimeM ps k X f K U
  hist : Hist X f lk (now : Int)
  one : ∀ l x c, U l x = some c → l = 1
  wf : ∀ x c, U 1 x = some c → (Lit.int .i64 x).wf = true
  seen : ∀ r, X r → (f r).sn = 0
  roots : (∀ r, X r → r ∈ rt) ∧ rt.length ≤ q
section
variable {ps : List (List Nd × List Nd)} {i now q : Nat} {O : Int → Prop} {w w' : World} {sb mb n : Nat} {X : Nat → Prop} {f : Nat → CC} {lk : Nat → Option Nat} {d : Nat → Nat} {K : (Option Addr × Nat × Nat) → List Nat} {U : Int → Int → Option Nat} {D : DataW Value} {rt : List Nat}
theorem SolG.toE (h : SolG ps i now q O w sb mb n X f lk d K U D rt) : SolE ps i now q w sb mb n X f lk d K U D rt :=
  ⟨h.stor, h.blk, h.loop.times, h.hist, h.one, h.wf, h.seen, h.roots⟩
theorem SolG.fail (h : SolG ps i i q O w sb mb n X f lk d K U D rt) (hb : But X w w') {f' : Nat → CC} {lk' : Nat → Option Nat} {d' : Nat → Nat} (hC : CSto w' X f' lk' d' K) (hT : Ties X (i : Int) f lk f' lk') :
    SolE ps i i q w' sb mb n X f' lk' d' K U D rt :=
  ⟨hC.storOf h hb, h.blk.but hb h.stor.sX, h.loop.times.ties hT h.hist, (hT.hist h.hist).1, h.one, h.wf, fun r hr => (hT.seen r).trans (h.seen r hr), h.roots⟩
theorem SolE.heads (h : SolE ps i now q w sb mb n X f lk d K U D rt) : ∃ (dt : Int → Nat → Nat) (hf : Int → Nat → Nat), (∀ t, Acyc (tdAt Classical.propDecidable X f t) (dt t)) ∧ (∀ t k, Hd (tdAt Classical.propDecidable X f t) k (hf t k)) ∧ ∀ t k, X k → X (hf t k) := by
  obtain ⟨dn, hdn⟩ := h.hist.acyc
  have hac : ∀ t, Acyc (tdAt Classical.propDecidable X f t) dn := by
    intro t a b e
    obtain ⟨h1, h2, h3⟩ := tdAt_some.1 e
    exact hdn a b (tdAt_some.2 ⟨h1, h.hist.si a b h1 h3, h3⟩)
  have hk : ∀ t k, ∃ r, Hd (tdAt Classical.propDecidable X f t) k r := fun t k => (hac t).head _ k (Nat.lt_succ_self _)
  obtain ⟨hf, hhf⟩ := Classical.axiomOfChoice fun p : Int × Nat => hk p.1 p.2
  refine ⟨fun _ => dn, fun t k => hf (t, k), hac, fun t k => hhf (t, k), fun t k hX => ?_⟩
  exact Jbh (lk := tdAt Classical.propDecidable X f t) (fun a b e => ⟨(tdAt_some.1 e).1, h.hist.inX a b (tdAt_some.1 e).1 (tdAt_some.1 e).2.2⟩) (hhf (t, k)) hX
theorem SolE.kidsX (h : SolE ps i now q w sb mb n X f lk d K U D rt) : ∀ t r, X r → (∀ k ∈ Qbc K f t r, X k) ∧ (Qbc K f t r).length ≤ 20000 := by
  intro t r hr
  unfold Qbc
  split
  · exact ⟨by simp, by simp⟩
  · exact ⟨h.stor.sto.inX r hr, (h.stor.sto.rows r hr).1.2.1⟩
theorem SolE.walk (h : SolE ps i now q w sb mb n X f lk d K U D rt) : JW X f lk d K sb mb n (now : Int) none D w 0 w := by
  refine ⟨But.refl _ w, h.stor.map, fun _ => 0, none, 0, 0, [], 0, 0, 0, ⟨?_, h.blk, ?_, rfl, by simp⟩, fun _ _ => Int.le_refl _, Int.le_refl _, Int.le_refl _, ?_⟩
  · have e : ∀ r, X r → mkF f (fun _ => 0) r = f r := by
      intro r hr
      unfold mkF
      rw [← h.seen r hr]
    have hs := h.stor.sto
    refine ⟨⟨fun b hb => by rw [e b hb]; exact hs.cells.at' b hb, hs.cells.link⟩, hs.acyc, fun b hb => by rw [e b hb]; exact hs.rows b hb, fun b hb => by rw [e b hb]; exact hs.inX b hb, fun b hb => by rw [e b hb]; exact hs.arity b hb, fun b hb => by rw [e b hb]; exact hs.met b hb, fun b hb => by rw [e b hb]; exact hs.low b hb⟩
  · exact ⟨rfl, .inl ⟨rfl, rfl⟩⟩
  · exact .inl rfl
end
end Go.Proofs.YtoiiibplkhedcaaGreatDoor
namespace Go.Proofs.YtoiiibplkhedcaaGreatDoor
open Go.RowKit Go.Maps
/-! The first state of solve's store, and what a pair does to it. -/
theorem Quu {w w1 w2 : World} {sb mb n n1 n2 : Nat} {t : Int} {ok : (Int → DT) → Prop} {X X1 X2 : Nat → Prop} {f f1 f2 : Nat → CC} {lk : Nat → Option Nat} {d : Nat → Nat} {K K1 K2 : (Option Addr × Nat × Nat) → List Nat} {U U1 U2 : Int → Int → Option Nat} {L L' : Nat} {A B : List Nd} {a b : Nat} {D1 D2 : DataW Value} {rt1 rt2 : List Nat}
    (T1 : Taken w w1 sb mb n t 1 ok X f lk d K U L A a n1 X1 f1 K1 U1 D1 rt1) (T2 : Taken w1 w2 sb mb n1 t 1 ok X1 f1 lk d K1 U1 L' B b n2 X2 f2 K2 U2 D2 rt2) :
    (∀ n, n ∈ A ∨ n ∈ B → n.kind = 61 → ∃ c, U2 1 n.num = some c) ∧ (∀ θ, SatC X2 (gc K2 f2) lk θ → Ev (sg U2 1 θ) A (θ a)) ∧ (∀ θ, SatC X2 (gc K2 f2) lk θ → Ev (sg U2 1 θ) B (θ b)) ∧ X2 a ∧ X2 b := by
  refine ⟨fun n hn h61 => ?_, fun θ hs => ?_, T2.mean, T2.grow.sub a T1.inX, T2.inX⟩
  · rcases hn with hn | hn
    · obtain ⟨c, hc⟩ := T1.known n hn h61
      exact ⟨c, T2.grow.keep _ _ _ hc⟩
    · exact T2.known n hn h61
  · exact Qvm T2.grow T1.known (T1.mean θ (T2.grow.back hs))
theorem Qzx {ps : List (List Nd × List Nd)} {i : Nat} (hi : i < ps.length) {x : Int} (h : (Occ (ps.take i) x ∨ x ∈ metas ps[i].1) ∨ x ∈ metas ps[i].2) : Occ (ps.take (i + 1)) x := by
  rw [List.take_succ_eq_append_getElem hi]
  rcases h with (⟨p, hp, h⟩ | h) | h
  · exact ⟨p, List.mem_append_left _ hp, h⟩
  · exact ⟨ps[i], List.mem_append_right _ (List.mem_singleton.2 rfl), .inl h⟩
  · exact ⟨ps[i], List.mem_append_right _ (List.mem_singleton.2 rfl), .inr h⟩
theorem SolG.to {ps : List (List Nd × List Nd)} {i now q q' : Nat} {O O' : Int → Prop} {w : World} {sb mb n : Nat} {X : Nat → Prop} {f : Nat → CC} {lk : Nat → Option Nat} {d : Nat → Nat} {K : (Option Addr × Nat × Nat) → List Nat} {U : Int → Int → Option Nat} {D : DataW Value} {rt : List Nat} (h : SolG ps i now q O w sb mb n X f lk d K U D rt) (hq : q ≤ q') (hO : ∀ x, O x → O' x) : SolG ps i now q' O' w sb mb n X f lk d K U D rt :=
  ⟨h.stor, h.blk, h.loop, h.hist, h.num, h.plain, h.one, h.wf, h.seen, fun x c e => hO x (h.occ x c e), Nat.le_trans h.cnt hq, h.roots.1, Nat.le_trans h.roots.2 hq⟩
theorem Qtn (ps : List (List Nd × List Nd)) (w : World) : Calls Tryz.prog 28 #[] w fun e w' => ∃ sb mb, e = .returned (.pointer (some ⟨sb, 0, none⟩)) ∧ w.heap.size ≤ sb ∧ w.heap.size ≤ mb ∧ SolG ps 0 0 0 (fun _ => False) w' sb mb 0 (fun _ => False) (fun _ => Qdd Nd.zero 0) (fun _ => none) (fun _ => 0) (fun _ => []) (fun _ _ => none) (.map []) [] ∧ Below w.heap.size w w' := by
  have hmm := @run_makeMap Tryz.prog
  go_enter Tryz.func28, Tryz.ntmps28
  go_wp2
  go_ret
  have hb : Below w.heap.size w ((w.alloc (.map #[] 0)).alloc (.cells #[.map (some w.heap.size), .int .i64 0, .int .i64 0, .int .i64 0, .int .i64 0, .slice none 0 0] 107)) := ((Below.refl _ w).alloc (Nat.le_refl _) _).alloc (by simp) _
  have k1 : ((w.alloc (.map #[] 0)).alloc (.cells #[.map (some w.heap.size), .int .i64 0, .int .i64 0, .int .i64 0, .int .i64 0, .slice none 0 0] 107)).heap[w.heap.size + 1]? = some (.cells #[.map (some w.heap.size), .int .i64 0, .int .i64 0, .int .i64 0, .int .i64 0, .slice none 0 0] 107 (0, 0)) := by
    have h9 := heap_alloc_new (w.alloc (.map #[] 0)) (.cells #[.map (some w.heap.size), .int .i64 0, .int .i64 0, .int .i64 0, .int .i64 0, .slice none 0 0] 107)
    simpa using h9
  have hst : Stor ((w.alloc (.map #[] 0)).alloc (.cells #[.map (some w.heap.size), .int .i64 0, .int .i64 0, .int .i64 0, .int .i64 0, .slice none 0 0] 107)) (w.heap.size + 1) w.heap.size 0 ((0 : Nat) : Int) (fun _ => False) (fun _ => Qdd Nd.zero 0) (fun _ => none) (fun _ => 0) (fun _ => []) (fun _ _ => none) (.map []) := by
    refine ⟨⟨⟨fun b h => h.elim, fun _ _ e => (by cases e)⟩, fun _ _ e => (by cases e), fun b h => h.elim, fun b h => h.elim, fun b h => h.elim, fun b h => h.elim, fun b h => h.elim⟩, ?_, ?_, fun h => h, (World.ownsMap_made w Tryz.prog 127 Qce).alloc _, UD.start, fun _ _ _ e => (by cases e), rfl⟩
    · rw [cell_of_row _ _ _ _ 107 (0, 0) k1]; rfl
    · rw [cell_of_row _ _ _ _ 107 (0, 0) k1]; rfl
  refine ⟨w.heap.size + 1, w.heap.size, rfl, by omega, Nat.le_refl _, ⟨hst, k1, LoopM.start (fun _ h => h) (fun _ => rfl) (fun _ => rfl), ⟨Int.le_refl _, ?_, ⟨fun _ => 0, ?_⟩, fun b _ h => h.elim, fun b _ h => h.elim, fun b h => h.elim, fun b h => h.elim⟩, ⟨fun x b r e => (by cases e), fun r h => h.elim⟩, fun r h => h.elim, fun l x c e => (by cases e), fun x c e => (by cases e), fun r h => h.elim, fun x c e => (by cases e), Nat.le_refl _, fun r h => h.elim, Nat.le_refl _⟩, hb⟩
  · intro i r
    have e : tdAt Classical.propDecidable (fun _ => False) (fun _ => Qdd Nd.zero 0) ((0 : Nat) : Int) = fun _ => none := by
      funext b
      exact tdAt_none.2 fun h => h.elim
    rw [e]
  · intro a b e
    obtain ⟨h, _⟩ := tdAt_some.1 e
    exact h.elim
def gcv (K : (Option Addr × Nat × Nat) → List Nat) (f : Nat → CC) : Nat → GC := fun i => ⟨(f i).nd, K (f i).ks, false⟩
def WRes (X : Nat → Prop) (f : Nat → CC) (lk : Nat → Option Nat) (d : Nat → Nat) (K : (Option Addr × Nat × Nat) → List Nat) (B g0 k : Nat) (zs xs : List Nd) (w : World) (e : Ending) (w' : World) : Prop :=
  ∃ g c lk', e = .returned (.slice (some ⟨g, 0, none⟩) (k + xs.length) c) ∧ OwnN w' B g c (k + xs.length) (zs ++ xs) ∧ CSto w' X f lk' d K ∧ SameHd lk lk' ∧ But (fun i => X i ∨ i = g0) w w' ∧ (g = g0 ∨ w.heap.size ≤ g)
theorem Qzg {X : Nat → Prop} {f : Nat → CC} {lk : Nat → Option Nat} {d : Nat → Nat} {K : (Option Addr × Nat × Nat) → List Nat} {w : World} (h : CSto w X f lk d K) {θ : Nat → DT} (hs : SatC X (gcv K f) lk θ) {i : Nat} (hi : X i) : ∃ k, θ i [] = some k := by
  obtain ⟨r, hr⟩ := h.acyc.head _ i (Nat.lt_succ_self _)
  have e := hr.sat hs
  have e2 := hs.2 r (hr.inX h.cells hi) hr.is_root rfl
  rw [e, e2]
  exact ⟨_, rfl⟩
theorem OwnN.tag {w : World} {B g c k : Nat} {zs : List Nd} (h : OwnN w B g c k zs) : ∃ cur, w.heap[g]? = some (.cells cur 43 (0, 0)) := (Qhb h.2).2
theorem Qsi {X : Nat → Prop} {g g2 : Nat} {w wr w3 : World} (h : But (fun i => X i ∨ i = g) w wr) (h' : But (fun i => X i ∨ i = g2) wr w3) (hg : g2 = g ∨ w.heap.size ≤ g2) : But (fun i => X i ∨ i = g) w w3 := by
  refine ⟨h'.os.trans h.os, h'.tape.trans h.tape, h'.output.trans h.output, Nat.le_trans h.size h'.size, fun i hi hn => ?_⟩
  refine (h'.block i (Nat.lt_of_lt_of_le hi h.size) ?_).trans (h.block i hi hn)
  rintro (h9 | h9)
  · exact hn (.inl h9)
  · rcases hg with h8 | h8
    · exact hn (.inr (h9.trans h8))
    · omega
theorem Quo (X : Nat → Prop) (f : Nat → CC) (d : Nat → Nat) (K : (Option Addr × Nat × Nat) → List Nat) (θ : Nat → DT) (B : Nat) (HXB : Hid (∀ i, X i → i < B)) : ∀ (N : Nat) (xs : List Nd) (lk : Nat → Option Nat) (w : World) (b g c k : Nat) (zs : List Nd), xs.length ≤ N → CSto w X f lk d K → SatC X (gcv K f) lk θ → X b → Ev Qbh xs (θ b) → OwnN w B g c k zs → k + xs.length ≤ 1000000000 →
    Calls Tryz.prog 67 #[.pointer (some ⟨b, 0, none⟩), .slice (some ⟨g, 0, none⟩) k c] w fun e w' => WRes X f lk d K B g k zs xs w e w' := by
  intro N
  induction N with
  | zero =>
    intro xs lk w b g c k zs hN _ _ _ hE
    have := List.length_pos_iff.2 hE.one.ne
    omega
  | succ N ih =>
    intro xs lk w b g c k zs hN hS hs hXb hE hO hk
    obtain ⟨i0, hi, hz0, hz1, hz2⟩ := info_parts Tryz.infoN
    obtain ⟨r, hr⟩ := hS.acyc.head _ b (Nat.lt_succ_self _)
    have hXr : X r := hr.inX hS.cells hXb
    have e1 := hr.sat hs
    have e2 := hs.2 r hXr hr.is_root rfl
    rw [e1, e2] at hE
    have hroot : ∀ dd ∈ (gcv K f r).ks.map θ, ∃ kk, dd [] = some kk := by
      intro dd hd
      obtain ⟨i, hi, rfl⟩ := List.mem_map.1 hd
      exact Qzg hS hs (hS.inX r hXr i hi)
    obtain ⟨xss, hxl, hxe, rfl, hnk⟩ := hE.kids hroot
    have HIH : Hid (∀ (xs : List Nd) (lk : Nat → Option Nat) (w : World) (b g c k : Nat) (zs : List Nd), xs.length ≤ N → CSto w X f lk d K → SatC X (gcv K f) lk θ → X b → Ev Qbh xs (θ b) → OwnN w B g c k zs → k + xs.length ≤ 1000000000 →
      Calls Tryz.prog 67 #[.pointer (some ⟨b, 0, none⟩), .slice (some ⟨g, 0, none⟩) k c] w fun e w' => WRes X f lk d K B g k zs xs w e w') := ih
    clear ih
    have HA : Hid (Acyc lk d) := hS.acyc
    have HS : Hid (CSto w X f lk d K) := hS
    have HSA : Hid (SatC X (gcv K f) lk θ) := hs
    have HC := hS.cells
    have HXE : Hid (∀ i (h1 : i < xss.length) (h2 : i < ((gcv K f r).ks.map θ).length), Ev Qbh xss[i] ((gcv K f r).ks.map θ)[i]) := hxe
    have HN : Hid ((xss.flatten ++ [(gcv K f r).nd]).length ≤ N + 1) := hN
    have HO : Hid (OwnN w B g c k zs) := hO
    have HK : Hid (k + (xss.flatten ++ [(gcv K f r).nd]).length ≤ 1000000000) := hk
    obtain ⟨sy, L, cy, hky⟩ : ∃ s l c, (f r).ks = (s, l, c) := ⟨_, _, _, rfl⟩
    obtain ⟨kk, hkk⟩ : ∃ l, K (f r).ks = l := ⟨_, rfl⟩
    have hRR := hS.rows r hXr
    rw [hkk, hky] at hRR
    have hL : L = kk.length := hRR.1.1
    have hL2 : L ≤ 20000 := by rw [hL]; exact hRR.1.2.1
    have HKK : Hid (K (f r).ks = kk) := hkk
    have HKY : Hid ((f r).ks = (sy, L, cy)) := hky
    have hxl2 : xss.length = kk.length := by rw [hxl]; simp [gcv, hkk]
    have HLL : Hid (xss.length = L ∧ kk.length = L) := ⟨by omega, hL.symm⟩
    have HKX : Hid (∀ i ∈ kk, X i) := by
      intro i hi
      exact hS.inX r hXr i (by rw [hkk]; exact hi)
    clear hS hs hE hroot hxe hN hO hk e1 e2 hRR hL hkk hxl hxl2 hnk
    go_enter Tryz.func67, Tryz.ntmps67
    go_wp2_with (go_at_call 60; refine (Qhh X f lk d HA w HC b r hXb hr).mono ?_; rintro e w1 ⟨rfl, lk1, hC1, hS1, hA1, hB1, _⟩; obtain ⟨a0, a1, a2, a3, a4, a5, a6, a7, a8, a9, a10, a11, a12, a13⟩ := (hC1.at' r hXr).cell; rw [hky] at a6; simp only at a6)
    have HSS1 : Hid (CSto w1 X f lk1 d K) := HS.out.short hC1 hA1 hB1
    have HB1 : Hid (But (fun i => X i ∨ i = g) w w1) := hB1.mono (fun _ h => .inl h)
    have HSH : Hid (SameHd lk lk1) := hS1
    have hgX : ¬ X g := fun h => by
      have h1 := HXB.out g h
      have h2 := (Qad HO.out.2).1
      omega
    have HO1 : Hid (OwnN w1 B g c k zs) := ⟨HO.out.1, Qah HO.out.2 hB1 hgX⟩
    clear hC1 hA1 hB1 hS1 a0 a1 a2 a3 a4 a5 a6 a7 a8 a9 a10 a11 a12 a13 hky HC
    go_loopw [1, 14] (fun v i wr => ∃ (j g2 c2 : Nat) (lk2 : Nat → Option Nat), j ≤ L ∧ i = .int .i64 (j : Int) ∧ v = .slice (some ⟨g2, 0, none⟩) (k + (xss.take j).flatten.length) c2 ∧ OwnN wr B g2 c2 (k + (xss.take j).flatten.length) (zs ++ (xss.take j).flatten) ∧ CSto wr X f lk2 d K ∧ SameHd lk lk2 ∧ But (fun i => X i ∨ i = g) w wr ∧ (g2 = g ∨ w.heap.size ≤ g2)) (fun _ i _ => L - (intOf i).toNat)
    case atStart => exact ⟨0, g, c, lk1, Nat.zero_le _, rfl, by simp, by simpa using HO1.out, HSS1.out, HSH.out, HB1.out, .inl rfl⟩
    case round =>
      clear HO1 HSS1 HSH HB1
      obtain ⟨j, g2, c2, lk2, hj, rfl, rfl, hO2, hS2, hSH2, hB2, hg2w⟩ := hrel
      obtain ⟨hl1, hl2⟩ := HLL.out
      by_cases hjL : j < L
      · have hRR := hS2.rows r hXr
        rw [HKK.out, HKY.out] at hRR
        have hjk : j < kk.length := by omega
        have hjx : j < xss.length := by omega
        obtain ⟨gk, cur, hsy, _, _, hcur, hall⟩ := hRR.2.resolve_left (fun e9 => by rw [e9] at hjk; simp at hjk)
        simp only at hsy
        subst hsy
        have ek : wr.cell? ⟨gk, j, none⟩ = some (.pointer (some ⟨kk[j], 0, none⟩)) := by
          rw [cell_of_row wr gk j cur 64 (0, 0) hcur]
          exact hall j hjk
        have hXk : X kk[j] := HKX.out _ (List.getElem_mem hjk)
        have hE2 : Ev Qbh xss[j] (θ kk[j]) := by
          have h9 := HXE.out j hjx (by simp only [gcv, List.length_map, HKK.out]; exact hjk)
          have e9 : ((gcv K f r).ks.map θ)[j]'(by simp only [gcv, List.length_map, HKK.out]; exact hjk) = θ kk[j] := by simp [gcv, HKK.out]
          rw [e9] at h9
          exact h9
        have htk : (xss.take (j + 1)).flatten = (xss.take j).flatten ++ xss[j] := by
          rw [List.take_succ_eq_append_getElem hjx, List.flatten_append]
          simp
        have hlt : (xss.take (j + 1)).flatten.length ≤ xss.flatten.length := by
          have h9 : xss.flatten = (xss.take (j + 1)).flatten ++ (xss.drop (j + 1)).flatten := by rw [← List.flatten_append, List.take_append_drop]
          rw [h9, List.length_append]
          omega
        have hHK := HK.out
        have hHN := HN.out
        simp only [List.length_append, List.length_cons, List.length_nil] at hHK hHN
        have hsat2 : SatC X (gcv K f) lk2 θ := (hSH2.sat HA.out hS2.acyc θ).2 HSA.out
        have hlsum : (xss.take (j + 1)).flatten.length = (xss.take j).flatten.length + xss[j].length := by rw [htk, List.length_append]
        have hle : xss[j].length ≤ xss.flatten.length := by omega
        have HCALL : Hid (Calls Tryz.prog 67 #[.pointer (some ⟨kk[j], 0, none⟩), .slice (some ⟨g2, 0, none⟩) (k + (xss.take j).flatten.length) c2] wr fun e w' => WRes X f lk2 d K B g2 (k + (xss.take j).flatten.length) (zs ++ (xss.take j).flatten) xss[j] wr e w') :=
          HIH.out xss[j] lk2 wr kk[j] g2 c2 (k + (xss.take j).flatten.length) (zs ++ (xss.take j).flatten) (by omega) hS2 hsat2 hXk hE2 hO2 (by omega)
        obtain ⟨kj, hkj⟩ : ∃ t, kk[j] = t := ⟨_, rfl⟩
        obtain ⟨P, hP⟩ : ∃ P, k + (xss.take j).flatten.length = P := ⟨_, rfl⟩
        rw [hkj] at ek HCALL
        rw [hP] at HCALL ⊢
        have HFIN : Hid (∀ (g3 c3 : Nat) (w3 : World), OwnN w3 B g3 c3 (P + xss[j].length) (zs ++ (xss.take j).flatten ++ xss[j]) → P + xss[j].length = k + (xss.take (j + 1)).flatten.length ∧ OwnN w3 B g3 c3 (k + (xss.take (j + 1)).flatten.length) (zs ++ (xss.take (j + 1)).flatten)) := by
          intro g3 c3 w3 h9
          have e9 : P + xss[j].length = k + (xss.take (j + 1)).flatten.length := by omega
          refine ⟨e9, ?_⟩
          rw [htk, ← List.append_assoc, ← htk, ← e9]
          exact h9
        have HB2 : Hid (But (fun i => X i ∨ i = g) w wr) := hB2
        have HSH2 : Hid (SameHd lk lk2) := hSH2
        clear hRR hcur hall hO2 hS2 hSH2 hB2 hsat2 hE2 htk hle hlt hHK hHN hkj hP hlsum
        go_wp2_with (go_at_call 67; refine HCALL.out.mono ?_; rintro e w3 ⟨g3, c3, lk3, rfl, hO3, hS3, hSH3, hB3, hg3⟩)
        obtain ⟨e9, hO4⟩ := HFIN.out g3 c3 w3 hO3
        go_roundw
        case rel => exact ⟨j + 1, g3, c3, lk3, by omega, by go_num, by rw [← e9], hO4, hS3, HSH2.out.trans hSH3, Qsi HB2.out hB3 hg2w, by have := HB2.out.size; omega⟩
        case measure => simp [intOf]; omega
      · have hjL2 : j = L := by omega
        subst hjL2
        have hxt : xss.take j = xss := List.take_of_length_le (by omega)
        rw [hxt] at hO2 ⊢
        obtain ⟨b0, b1, b2, b3, b4, b5, b6, b7, b8, b9, b10, b11, b12, b13⟩ := (hS2.cells.at' r hXr).cell
        have hrl : r < wr.heap.size := (hS2.cells.at' r hXr).lt
        obtain ⟨nd, hnd⟩ : ∃ nd, (f r).nd = nd := ⟨_, rfl⟩
        rw [hnd] at b1 b2 b3 b4 b5
        have HND : Hid ((gcv K f r).nd = nd) := hnd
        have hOb := Qad hO2.2
        have hHK := HK.out
        simp only [List.length_append, List.length_cons, List.length_nil] at hHK
        obtain ⟨P, hP⟩ : ∃ P, k + xss.flatten.length = P := ⟨_, rfl⟩
        rw [hP] at hO2 ⊢
        have hPb : P + 1 ≤ 1000000000 := by omega
        have HS2 : Hid (CSto wr X f lk2 d K) := hS2
        have HB2 : Hid (But (fun i => X i ∨ i = g) w wr) := hB2
        have hown1 := hO2.2.alloc (.cells #[.int .i64 nd.kind, .int .i64 nd.num, .string nd.text, .int .i64 nd.kids, .int .i64 nd.place] 43)
        have hcells := Qbj wr nd
        have hbA : Below wr.heap.size wr (wr.alloc (.cells #[.int .i64 nd.kind, .int .i64 nd.num, .string nd.text, .int .i64 nd.kids, .int .i64 nd.place] 43)) := (Below.refl _ _).alloc (Nat.le_refl _) _
        obtain ⟨cur, hcur⟩ := OwnN.tag hO2
        have hcur1 : (wr.alloc (.cells #[.int .i64 nd.kind, .int .i64 nd.num, .string nd.text, .int .i64 nd.kids, .int .i64 nd.place] 43)).heap[g2]? = some (.cells cur 43 (0, 0)) := (hbA.block g2 hOb.2).trans hcur
        have HSH2 : Hid (SameHd lk lk2) := hSH2
        have hlz := hO2.1
        have hg2X : ¬ X g2 := fun h => by
          have h1 := HXB.out g2 h
          omega
        clear hS2 hB2 hHK b0 b6 b7 b8 b9 b10 b11 b12 b13 hnd hO2 hcur hSH2
        go_wp2_with (at_builtin; refine Qac _ rfl (.tmp 22) (.tmp 27) 23 rfl B 43 i0 _ 5 48 Tryz.underlying23 hi hz0 hz1 hz2 rfl (by decide) g2 P c2 _ rfl hown1 ⟨_, 0, none⟩ 1 1 (Nd.row nd) rfl rfl hcells (Qbp _) ?a3 ?a4 ?a5 ?_)
        case a3 => unfold maxLen; omega
        case a4 => omega
        case a5 => (try simp); omega
        intro g5 c5 w5 hown5 hgrow5 hwh
        have hO5 := OwnN.push hown5 hlz rfl
        have hb5 := Qcj hgrow5
        have HS5 : Hid (CSto w5 X f lk2 d K) := by
          have h1 := HS2.out.short (HS2.out.cells.but (But.ofBelow (S := fun _ => False) hbA) (fun _ _ h => h)) HS2.out.acyc (But.ofBelow hbA)
          refine h1.aside hb5 hg2X (fun cu h => ?_)
          rw [hcur1] at h
          simp at h
        have HB5 : Hid (But (fun i => X i ∨ i = g) w w5) := Qsi HB2.out ((But.ofBelow hbA).trans (hb5.mono (T := fun i => X i ∨ i = g2) (fun i h => .inr h))) hg2w
        have hg5w : g5 = g ∨ w.heap.size ≤ g5 := by
          have h1 := HB2.out.size
          rcases hwh with h | h
          · omega
          · right
            rw [h]
            have h2 := hbA.size
            omega
        have HO5 : Hid (OwnN w5 B g5 c5 (k + (xss.flatten ++ [(gcv K f r).nd]).length) (zs ++ (xss.flatten ++ [(gcv K f r).nd]))) := by
          have e9 : k + (xss.flatten ++ [(gcv K f r).nd]).length = P + 1 := by rw [List.length_append, List.length_singleton]; omega
          rw [Hid, e9, HND.out, ← List.append_assoc]
          exact hO5
        have e9 : P + 1 = k + (xss.flatten ++ [(gcv K f r).nd]).length := by rw [List.length_append, List.length_singleton]; omega
        clear hown5 hgrow5 hwh hown1 hcells hb5 hbA hO5 hcur1 b1 b2 b3 b4 b5
        go_wp2
        go_ret
        exact ⟨g5, c5, lk2, (by rw [← e9]; rfl), HO5.out, HS5.out, HSH2.out, HB5.out, hg5w⟩
end Go.Proofs.YtoiiibplkhedcaaGreatDoor
namespace Go.Proofs.YtoiiibplkhedcaaGreatDoor
open Go.RowKit Go.Maps
def Jbe (x : Int) : Nd := ⟨61, x, ByteArray.empty, 0, 0⟩
theorem Qds {n : Nd} (h : n.plainb = true) (h61 : n.kind = 61) : n = Jbe n.num := by
  obtain ⟨kd, nm, tx, ks, pl⟩ := n
  simp only at h61
  subst h61
  unfold Nd.plainb at h
  simp only [Bool.and_eq_true, Bool.or_eq_true, beq_iff_eq, decide_eq_true_eq] at h
  obtain ⟨h1, h2⟩ := h
  subst h1
  have h3 : ks = 0 ∧ tx.size = 0 := by
    rcases h2 with (h2 | h2) | h2
    · exact ⟨h2.1.1.2, h2.2⟩
    · omega
    · omega
  obtain ⟨rfl, h4⟩ := h3
  have h5 : tx = ByteArray.empty := by
    obtain ⟨dt⟩ := tx
    have : dt = #[] := Array.eq_empty_of_size_eq_zero h4
    subst this
    rfl
  subst h5
  rfl
theorem Qzf {X : Nat → Prop} {f : Nat → CC} {lk : Nat → Option Nat} {K : (Option Addr × Nat × Nat) → List Nat} {θ : Nat → DT} (h : SatC X (gcv K f) lk θ) : SatC X (gc K f) lk θ :=
  ⟨h.1, fun i hi hl _ => h.2 i hi hl rfl⟩
section
variable {w0 w1 w2 : World} {sb mb : Nat} {t0 : Int} {ok1 ok2 : (Int → DT) → Prop} {d : Nat → Nat} {f0 : Nat → CC} {K0 : (Option Addr × Nat × Nat) → List Nat} {L : Nat} {g t : List Nd} {b1 n1 b2 n2 L2 : Nat} {X1 X2 : Nat → Prop} {f1 f2 f' : Nat → CC} {K1 K2 : (Option Addr × Nat × Nat) → List Nat} {U1 U2 : Int → Int → Option Nat} {D1 D2 : DataW Value} {rt1 rt2 : List Nat} {lk' : Nat → Option Nat}
theorem Qot (T1 : Taken w0 w1 sb mb 0 t0 1 ok1 (fun _ => False) f0 (fun _ => none) d K0 (fun _ _ => none) L g b1 n1 X1 f1 K1 U1 D1 rt1) (T2 : Taken w1 w2 sb mb n1 t0 0 ok2 X1 f1 (fun _ => none) d K1 U1 L2 t b2 n2 X2 f2 K2 U2 D2 rt2) {θ : Nat → DT} (hs : SatC X2 (gc K2 f2) (fun _ => none) θ) : Ev Qbh t (θ b2) := by
  refine (T2.mean θ hs).asSelf (fun n hn h61 => ?_)
  have hu : U1 0 n.num = none := by rw [T1.grow.other 0 n.num (by omega)]
  obtain ⟨b, h1, h2, h3, h4⟩ := T2.leaf n hn h61 hu
  unfold sg
  rw [h1]
  have h9 := hs.2 b h4 h3 (by rw [h2]; rfl)
  rw [h2] at h9
  exact h9
theorem Qwx (T1 : Taken w0 w1 sb mb 0 t0 1 ok1 (fun _ => False) f0 (fun _ => none) d K0 (fun _ _ => none) L g b1 n1 X1 f1 K1 U1 D1 rt1) (T2 : Taken w1 w2 sb mb n1 t0 0 ok2 X1 f1 (fun _ => none) d K1 U1 L2 t b2 n2 X2 f2 K2 U2 D2 rt2)
    (hE : ∀ θ, SatC X2 (gc K2 f') lk' θ ↔ SatC X2 (gc K2 f2) (fun _ => none) θ ∧ θ b1 = θ b2) {θ : Nat → DT} (hs : SatC X2 (gcv K2 f') lk' θ) :
    ∃ ρ : Int → List Nd, (∀ x b, U2 1 x = some b → Ev Qbh (ρ x) (θ b)) ∧ fill ρ g = t ∧ ∀ x, (∃ b, U2 1 x = some b) ↔ x ∈ metas g := by
  obtain ⟨s2, e12⟩ := (hE θ).1 (Qzf hs)
  have m2 := Qot T1 T2 s2
  have s1 := T2.grow.back s2
  have m1 := T1.mean θ s1
  rw [e12] at m1
  obtain ⟨c1, c2⟩ := m1.back m2
  have hU : ∀ x, U2 1 x = U1 1 x := fun x => T2.grow.other 1 x (by omega)
  have hk : ∀ x, ∃ xs, ∀ b, U2 1 x = some b → Ev Qbh xs (θ b) := by
    intro x
    cases e : U2 1 x with
    | none => exact ⟨[], fun b h => by cases h⟩
    | some b =>
      have e1 := e
      rw [hU] at e1
      rcases T1.src x b e1 with h9 | ⟨y, hy, h61, rfl⟩
      · cases h9
      · obtain ⟨xs, hxs⟩ := c1 y hy h61
        unfold sg at hxs
        rw [e1] at hxs
        exact ⟨xs, fun b' h => by cases h; exact hxs⟩
  obtain ⟨ρ, hρ⟩ := Classical.axiomOfChoice hk
  refine ⟨ρ, hρ, c2 ρ (fun n hn h61 => ?_), fun x => ⟨?_, fun hx => ?_⟩⟩
  · obtain ⟨b, hb⟩ := T1.known n hn h61
    unfold sg
    rw [hb]
    exact hρ n.num b (by rw [hU]; exact hb)
  · rintro ⟨b, hb⟩
    rw [hU] at hb
    rcases T1.src x b hb with h9 | ⟨y, hy, h61, rfl⟩
    · cases h9
    · exact List.mem_map.2 ⟨y, List.mem_filter.2 ⟨hy, by simpa using h61⟩, rfl⟩
  · obtain ⟨y, hy, rfl⟩ := List.mem_map.1 hx
    obtain ⟨hy1, hy2⟩ := List.mem_filter.1 hy
    obtain ⟨b, hb⟩ := T1.known y hy1 (by simpa using hy2)
    exact ⟨b, by rw [hU]; exact hb⟩
theorem Jal (T1 : Taken w0 w1 sb mb 0 t0 1 ok1 (fun _ => False) f0 (fun _ => none) d K0 (fun _ _ => none) L g b1 n1 X1 f1 K1 U1 D1 rt1) (T2 : Taken w1 w2 sb mb n1 t0 0 ok2 X1 f1 (fun _ => none) d K1 U1 L2 t b2 n2 X2 f2 K2 U2 D2 rt2) (hok1 : ∀ ρ, ok1 ρ) (hok2 : ∃ ρ, ok2 ρ)
    (hno : ∀ θ, SatC X2 (gc K2 f2) (fun _ => none) θ → θ b1 ≠ θ b2) : Jbj g t := by
  intro ρ hρ hfill
  have hk : ∀ x, ∃ dd : DT, ∀ e, Ev Qbh (ρ x) e → Ev Qbh (ρ x) dd := by
    intro x
    by_cases h : ∃ e, Ev Qbh (ρ x) e
    · obtain ⟨e, he⟩ := h
      exact ⟨e, fun _ _ => he⟩
    · exact ⟨fun _ => none, fun e he => absurd ⟨e, he⟩ h⟩
  obtain ⟨ρ1, hρ1⟩ := Classical.axiomOfChoice hk
  obtain ⟨ρ2, hρ2⟩ := hok2
  obtain ⟨θ1, s1, _, v1⟩ := T1.grow.on (fun _ _ => none) ⟨(fun i j e => by cases e), fun i (hi : False) => hi.elim⟩ ρ1 (hok1 ρ1)
  obtain ⟨θ2, s2, a2, _⟩ := T2.grow.on θ1 s1 ρ2 hρ2
  have m2 := Qot T1 T2 s2
  have m1 := T1.mean θ1 s1
  have hD : Ev Qbh (fill ρ g) (θ2 b2) := by rw [hfill]; exact m2
  have hcut := m1.cut hρ hD
  have m3 := m1.forth (ρ := ρ) (fun n hn h61 => by
    obtain ⟨b, hb⟩ := T1.known n hn h61
    obtain ⟨e, he⟩ := hcut n hn h61
    unfold sg
    rw [hb]
    simp only
    rw [v1 n.num b rfl hb]
    exact hρ1 n.num e he)
  rw [hfill] at m3
  have e9 := m3.fun m2
  exact hno θ2 s2 (by rw [a2 b1 T1.inX]; exact e9)
end
end Go.Proofs.YtoiiibplkhedcaaGreatDoor
