import Derived.Test.YtoiiibplkhedcaaGreatDoorGO
import Derived.Test.YtoiiibplkhedcaaGreatDoorGP
import Derived.Test.YtoiiibplkhedcaaGreatDoorGL
import Derived.Test.YtoiiibplkhedcaaGreatDoorGC
import Derived.Test.YtoiiibplkhedcaaGreatDoorGE
import Derived.Test.YtoiiibplkhedcaaGreatDoorGR
namespace Go.Proofs.YtoiiibplkhedcaaGreatDoor
open Go.RowKit Go.Maps
/-! The state of solve's loop. -/
theorem tiedF_sn (f : Nat → CC) (a h q : Nat) (r t : Int) (i : Nat) : (tiedF f a h q r t i).sn = (f i).sn := by
  unfold tiedF
  by_cases h1 : i = q
  · rw [if_pos h1, h1]
  · rw [if_neg h1]
    by_cases h2 : i = h
    · rw [if_pos h2, h2]
      split <;> rfl
    · rw [if_neg h2]
theorem Ties.seen {X : Nat → Prop} {t : Int} {f f' : Nat → CC} {lk lk' : Nat → Option Nat} (h : Ties X t f lk f' lk') : ∀ r, (f' r).sn = (f r).sn := by
  induction h with
  | same _ => exact fun _ => rfl
  | step _ _ _ _ _ _ _ _ _ ih => exact fun i => (tiedF_sn _ _ _ _ _ _ i).trans (ih i)
structure SolG (ps : List (List Nd × List Nd)) (i now q : Nat) (O : Int → Prop) (w : World) (sb mb n : Nat) (X : Nat → Prop) (f : Nat → CC) (lk : Nat → Option Nat) (d : Nat → Nat) (K : (Option Addr × Nat × Nat) → List Nat) (U : Int → Int → Option Nat) (D : DataW Value) (rt : List Nat) : Prop where
  stor : Stor w sb mb n (now : Int) X f lk d K U D
  blk : SBlk w sb mb (now : Int) 0 0 0 (none, 0, 0)
  loop : LoopM ps i X f lk K U
  hist : Hist X f lk (now : Int)
  num : NumOk X (U 1) f lk
  plain : ∀ r, X r → (f r).nd.plainb = true
  one : ∀ l x c, U l x = some c → l = 1
  wf : ∀ x c, U 1 x = some c → (Lit.int .i64 x).wf = true
  seen : ∀ r, X r → (f r).sn = 0
  occ : ∀ x c, U 1 x = some c → O x
  cnt : n ≤ q
  roots : (∀ r, X r → r ∈ rt) ∧ rt.length ≤ q
section
variable {ps : List (List Nd × List Nd)} {i now q : Nat} {O : Int → Prop} {w w' : World} {sb mb n : Nat} {X : Nat → Prop} {f : Nat → CC} {lk : Nat → Option Nat} {d : Nat → Nat} {K : (Option Addr × Nat × Nat) → List Nat} {U : Int → Int → Option Nat} {D : DataW Value} {rt : List Nat}
theorem SBlk.but {S : Nat → Prop} {t I L nw : Int} {s : Option Addr × Nat × Nat} (h : SBlk w sb mb nw t I L s) (hb : But S w w') (hn : ¬ S sb) : SBlk w' sb mb nw t I L s :=
  (hb.block sb (Array.getElem?_eq_some_iff.1 h).1 hn).trans h
theorem SolG.msb (h : SolG ps i now q O w sb mb n X f lk d K U D rt) : mb ≠ sb := by
  intro e
  obtain ⟨es, clock, h1, _⟩ := h.stor.map
  have h9 := h.blk
  unfold SBlk at h9
  rw [← e, h1] at h9
  cases h9
theorem SolG.below (h : SolG ps i now q O w sb mb n X f lk d K U D rt) (hb : Below w.heap.size w w') : SolG ps i now q O w' sb mb n X f lk d K U D rt :=
  ⟨h.stor.below hb, h.blk.but (S := fun _ => False) (But.ofBelow hb) (fun h => h), h.loop, h.hist, h.num, h.plain, h.one, h.wf, h.seen, h.occ, h.cnt, h.roots⟩
theorem SolG.time (h : SolG ps i now q O w sb mb n X f lk d K U D rt) {now' : Nat} (hn : now ≤ now') : SolG ps i now' q O (w.setCell ⟨sb, 1, none⟩ (.int .i64 (now' : Int))) sb mb n X f lk d K U D rt := by
  have hb : But (· = sb) w (w.setCell ⟨sb, 1, none⟩ (.int .i64 (now' : Int))) := (But.refl (· = sb) w).setCell (p := ⟨sb, 1, none⟩) rfl _
  have hblk : SBlk (w.setCell ⟨sb, 1, none⟩ (.int .i64 (now' : Int))) sb mb (now' : Int) 0 0 0 (none, 0, 0) := by
    have h9 := heap_setCell_same w sb 1 _ 107 (.int .i64 (now' : Int)) h.blk
    simpa [SBlk] using h9
  obtain ⟨s0, s1, _⟩ := hblk.cell
  have hX : ∀ b, X b → b ≠ sb := fun b hb e => h.stor.sX (e ▸ hb)
  have hbX : But (fun b => b = sb) w (w.setCell ⟨sb, 1, none⟩ (.int .i64 (now' : Int))) := hb
  refine ⟨⟨⟨h.stor.sto.cells.but hbX hX, h.stor.sto.acyc, fun b hb' => ?_, h.stor.sto.inX, h.stor.sto.arity, h.stor.sto.met, h.stor.sto.low⟩, s0, s1, h.stor.sX, ownsMap_but h.stor.map hb h.msb, h.stor.ud, h.stor.inX, h.stor.nil⟩, hblk, h.loop, h.hist.later (by omega), h.num, h.plain, h.one, h.wf, h.seen, h.occ, h.cnt, h.roots⟩
  have h9 := h.stor.sto.rows b hb'
  refine ⟨h9.1, ?_⟩
  rcases h9.2 with e | ⟨g, cur, h1, h2, h3, h4, h5⟩
  · exact .inl e
  · refine .inr ⟨g, cur, h1, h2, by simpa using h3, ?_, h5⟩
    refine (hb.block g h3 ?_).trans h4
    rintro rfl
    have h8 := h.blk
    unfold SBlk at h8
    rw [h4] at h8
    simp at h8
theorem SolG.take (h : SolG ps i now q O w sb mb n X f lk d K U D rt) {ty : List Nd} {b n' : Nat} {X' : Nat → Prop} {f' : Nat → CC} {K' : (Option Addr × Nat × Nat) → List Nat} {U' : Int → Int → Option Nat} {D' : DataW Value} {rt' : List Nat} {L : Nat} (hL : L ≤ q)
    (T : Taken w w' sb mb n (now : Int) 1 (fun _ => True) X f lk d K U L ty b n' X' f' K' U' D' rt') (hpl : ty.all Nd.plainb = true) (hwf : ∀ x ∈ ty, (Lit.int .i64 x.num).wf = true) :
    SolG ps i now (q + ty.length) (fun x => O x ∨ x ∈ metas ty) w' sb mb n' X' f' lk d K' U' D' rt' := by
  have hmemM : ∀ {y : Nd}, y ∈ ty → y.kind = 61 → y.num ∈ metas ty := by
    intro y hy h61
    exact List.mem_map.2 ⟨y, List.mem_filter.2 ⟨hy, by simp [h61]⟩, rfl⟩
  refine ⟨T.stor, h.blk.but T.old h.msb.symm, h.loop.grow T.grow (fun _ => trivial) h.hist.inX (fun r hr k hk => h.stor.sto.inX r hr k hk) (fun x c e => T.stor.inX 1 x c e), T.grow.hist h.hist, T.grow.num h.num (fun x c e => h.stor.inX 1 x c e) T.um, T.plain (Q := fun n => n.plainb = true) h.plain (fun x hx => List.all_eq_true.1 hpl x hx), fun l x c e => ?_, fun x c e => ?_, fun r hr => ?_, fun x c e => ?_, ?_, T.roots.1, ?_⟩
  · by_cases hl : l = 1
    · exact hl
    · rw [T.grow.other l x hl] at e
      exact h.one l x c e
  · rcases T.src x c e with e | ⟨y, hy, h61, rfl⟩
    · exact h.wf x c e
    · exact hwf y hy
  · by_cases hx : X r
    · rw [T.grow.old r hx]
      exact h.seen r hx
    · exact (T.grow.new r hr hx).2.2.1
  · rcases T.src x c e with e | ⟨y, hy, h61, rfl⟩
    · exact .inl (h.occ x c e)
    · exact .inr (hmemM hy h61)
  · have := T.num
    have := h.cnt
    omega
  · have := T.roots.2
    omega
theorem CSto.storOf {f' : Nat → CC} {lk' : Nat → Option Nat} {d' : Nat → Nat} (h : SolG ps i now q O w sb mb n X f lk d K U D rt) (hC : CSto w' X f' lk' d' K) (hb : But X w w') : Stor w' sb mb n (now : Int) X f' lk' d' K U D := by
  have hmX := h.stor.mX
  exact ⟨hC, (hb.cell (lt_of_cell h.stor.s0) h.stor.sX).trans h.stor.s0, (hb.cell (lt_of_cell h.stor.s1) h.stor.sX).trans h.stor.s1, h.stor.sX, ownsMap_but h.stor.map hb hmX, h.stor.ud, h.stor.inX, h.stor.nil⟩
theorem SolG.tie (h : SolG ps i i q O w sb mb n X f lk d K U D rt) (hi : i < ps.length) (hkn : ∀ n, n ∈ ps[i].1 ∨ n ∈ ps[i].2 → n.kind = 61 → ∃ b, U 1 n.num = some b) {a b : Nat} (hA : ∀ θ, SatC X (gc K f) lk θ → Ev (sg U 1 θ) ps[i].1 (θ a)) (hB : ∀ θ, SatC X (gc K f) lk θ → Ev (sg U 1 θ) ps[i].2 (θ b))
    (hb : But X w w') {f' : Nat → CC} {lk' : Nat → Option Nat} {d' : Nat → Nat} (hC : CSto w' X f' lk' d' K) (hT : Ties X (i : Int) f lk f' lk') (hiff : ∀ θ, SatC X (gc K f') lk' θ ↔ SatC X (gc K f) lk θ ∧ θ a = θ b) :
    SolG ps (i + 1) i q O w' sb mb n X f' lk' d' K U D rt :=
  ⟨hC.storOf h hb, h.blk.but hb h.stor.sX, h.loop.next h.hist hi hkn hA hB hT hC.acyc hiff, (hT.hist h.hist).1, hT.num h.hist h.num, hT.nds (Q := fun n => n.plainb = true) h.plain, h.one, h.wf, fun r hr => (hT.seen r).trans (h.seen r hr), h.occ, h.cnt, h.roots⟩
end
structure SolE (ps : List (List Nd × List Nd)) (k now q : Nat) (w : World) (sb mb n : Nat) (X : Nat → Prop) (f : Nat → CC) (lk : Nat → Option Nat) (d : Nat → Nat) (K : (Option Addr × Nat × Nat) → List Nat) (U : Int → Int → Option Nat) (D : DataW Value) (rt : List Nat) : Prop where
  stor : Stor w sb mb n (now : Int) X f lk d K U D
  blk : SBlk w sb mb (now : Int) 0 0 0 (none, 0, 0)
  times : TimeM ps k X f K U
  hist : Hist X f lk (now : Int)
  one : ∀ l x c, U l x = some c → l = 1
  wf : ∀ x c, U 1 x = some c → (Lit.int .i64 x).wf = true
  seen : ∀ r, X r → (f r).sn = 0
  roots : (∀ r, X r → r ∈ rt) ∧ rt.length ≤ q
section
variable {ps : List (List Nd × List Nd)} {i now q : Nat} {O : Int → Prop} {w w' : World} {sb mb n : Nat} {X : Nat → Prop} {f : Nat → CC} {lk : Nat → Option Nat} {d : Nat → Nat} {K : (Option Addr × Nat × Nat) → List Nat} {U : Int → Int → Option Nat} {D : DataW Value} {rt : List Nat}
theorem SolG.toE (h : SolG ps i now q O w sb mb n X f lk d K U D rt) : SolE ps i now q w sb mb n X f lk d K U D rt :=
  ⟨h.stor, h.blk, h.loop.times, h.hist, h.one, h.wf, h.seen, h.roots⟩
theorem SolG.fail (h : SolG ps i i q O w sb mb n X f lk d K U D rt) (hb : But X w w') {f' : Nat → CC} {lk' : Nat → Option Nat} {d' : Nat → Nat} (hC : CSto w' X f' lk' d' K) (hT : Ties X (i : Int) f lk f' lk') :
    SolE ps i i q w' sb mb n X f' lk' d' K U D rt :=
  ⟨hC.storOf h hb, h.blk.but hb h.stor.sX, h.loop.times.ties hT h.hist, (hT.hist h.hist).1, h.one, h.wf, fun r hr => (hT.seen r).trans (h.seen r hr), h.roots⟩
theorem SolE.heads (h : SolE ps i now q w sb mb n X f lk d K U D rt) : ∃ (dt : Int → Nat → Nat) (hf : Int → Nat → Nat), (∀ t, Acyc (tdAt X f t) (dt t)) ∧ (∀ t k, Hd (tdAt X f t) k (hf t k)) ∧ ∀ t k, X k → X (hf t k) := by
  obtain ⟨dn, hdn⟩ := h.hist.acyc
  have hac : ∀ t, Acyc (tdAt X f t) dn := by
    intro t a b e
    obtain ⟨h1, h2, h3⟩ := tdAt_some.1 e
    exact hdn a b (tdAt_some.2 ⟨h1, h.hist.si a b h1 h3, h3⟩)
  have hk : ∀ t k, ∃ r, Hd (tdAt X f t) k r := fun t k => (hac t).head _ k (Nat.lt_succ_self _)
  obtain ⟨hf, hhf⟩ := Classical.axiomOfChoice fun p : Int × Nat => hk p.1 p.2
  refine ⟨fun _ => dn, fun t k => hf (t, k), hac, fun t k => hhf (t, k), fun t k hX => ?_⟩
  exact hd_inX (lk := tdAt X f t) (fun a b e => ⟨(tdAt_some.1 e).1, h.hist.inX a b (tdAt_some.1 e).1 (tdAt_some.1 e).2.2⟩) (hhf (t, k)) hX
theorem SolE.kidsX (h : SolE ps i now q w sb mb n X f lk d K U D rt) : ∀ t r, X r → (∀ k ∈ kidsT K f t r, X k) ∧ (kidsT K f t r).length ≤ 20000 := by
  intro t r hr
  unfold kidsT
  split
  · exact ⟨by simp, by simp⟩
  · exact ⟨h.stor.sto.inX r hr, (h.stor.sto.rows r hr).1.2.1⟩
theorem SolE.walk (h : SolE ps i now q w sb mb n X f lk d K U D rt) : JW X f lk d K sb mb n (now : Int) none D w 0 w := by
  refine ⟨But.refl _ w, h.stor.map, fun _ => 0, none, 0, 0, [], 0, 0, 0, ⟨?_, h.blk, ?_, rfl, by simp⟩, fun _ _ => Int.le_refl _, Int.le_refl _, Int.le_refl _, ?_⟩
  · have e : ∀ r, X r → mkF f (fun _ => 0) r = f r := by
      intro r hr
      unfold mkF
      rw [← h.seen r hr]
    have hs := h.stor.sto
    refine ⟨⟨fun b hb => by rw [e b hb]; exact hs.cells.at' b hb, hs.cells.link⟩, hs.acyc, fun b hb => by rw [e b hb]; exact hs.rows b hb, fun b hb => by rw [e b hb]; exact hs.inX b hb, fun b hb => by rw [e b hb]; exact hs.arity b hb, fun b hb => by rw [e b hb]; exact hs.met b hb, fun b hb => by rw [e b hb]; exact hs.low b hb⟩
  · exact ⟨rfl, .inl ⟨rfl, rfl⟩⟩
  · exact .inl rfl
end
end Go.Proofs.YtoiiibplkhedcaaGreatDoor

namespace Go.Proofs.YtoiiibplkhedcaaGreatDoor
open Go.RowKit Go.Maps
/-! The first state of solve's store, and what a pair does to it. -/
theorem two_taken {w w1 w2 : World} {sb mb n n1 n2 : Nat} {t : Int} {ok : (Int → DT) → Prop} {X X1 X2 : Nat → Prop} {f f1 f2 : Nat → CC} {lk : Nat → Option Nat} {d : Nat → Nat} {K K1 K2 : (Option Addr × Nat × Nat) → List Nat} {U U1 U2 : Int → Int → Option Nat} {L L' : Nat} {A B : List Nd} {a b : Nat} {D1 D2 : DataW Value} {rt1 rt2 : List Nat}
    (T1 : Taken w w1 sb mb n t 1 ok X f lk d K U L A a n1 X1 f1 K1 U1 D1 rt1) (T2 : Taken w1 w2 sb mb n1 t 1 ok X1 f1 lk d K1 U1 L' B b n2 X2 f2 K2 U2 D2 rt2) :
    (∀ n, n ∈ A ∨ n ∈ B → n.kind = 61 → ∃ c, U2 1 n.num = some c) ∧ (∀ θ, SatC X2 (gc K2 f2) lk θ → Ev (sg U2 1 θ) A (θ a)) ∧ (∀ θ, SatC X2 (gc K2 f2) lk θ → Ev (sg U2 1 θ) B (θ b)) ∧ X2 a ∧ X2 b := by
  refine ⟨fun n hn h61 => ?_, fun θ hs => ?_, T2.mean, T2.grow.sub a T1.inX, T2.inX⟩
  · rcases hn with hn | hn
    · obtain ⟨c, hc⟩ := T1.known n hn h61
      exact ⟨c, T2.grow.keep _ _ _ hc⟩
    · exact T2.known n hn h61
  · exact sg_keep T2.grow T1.known (T1.mean θ (T2.grow.back hs))
theorem occ_succ {ps : List (List Nd × List Nd)} {i : Nat} (hi : i < ps.length) {x : Int} (h : (Occ (ps.take i) x ∨ x ∈ metas ps[i].1) ∨ x ∈ metas ps[i].2) : Occ (ps.take (i + 1)) x := by
  rw [List.take_succ_eq_append_getElem hi]
  rcases h with (⟨p, hp, h⟩ | h) | h
  · exact ⟨p, List.mem_append_left _ hp, h⟩
  · exact ⟨ps[i], List.mem_append_right _ (List.mem_singleton.2 rfl), .inl h⟩
  · exact ⟨ps[i], List.mem_append_right _ (List.mem_singleton.2 rfl), .inr h⟩
theorem SolG.to {ps : List (List Nd × List Nd)} {i now q q' : Nat} {O O' : Int → Prop} {w : World} {sb mb n : Nat} {X : Nat → Prop} {f : Nat → CC} {lk : Nat → Option Nat} {d : Nat → Nat} {K : (Option Addr × Nat × Nat) → List Nat} {U : Int → Int → Option Nat} {D : DataW Value} {rt : List Nat} (h : SolG ps i now q O w sb mb n X f lk d K U D rt) (hq : q ≤ q') (hO : ∀ x, O x → O' x) : SolG ps i now q' O' w sb mb n X f lk d K U D rt :=
  ⟨h.stor, h.blk, h.loop, h.hist, h.num, h.plain, h.one, h.wf, h.seen, fun x c e => hO x (h.occ x c e), Nat.le_trans h.cnt hq, h.roots.1, Nat.le_trans h.roots.2 hq⟩
set_option maxRecDepth 20000 in
set_option maxHeartbeats 2000000 in
theorem newStore_S (ps : List (List Nd × List Nd)) (w : World) : Calls Tryz.prog 28 #[] w fun e w' => ∃ sb mb, e = .returned (.pointer (some ⟨sb, 0, none⟩)) ∧ w.heap.size ≤ sb ∧ w.heap.size ≤ mb ∧ SolG ps 0 0 0 (fun _ => False) w' sb mb 0 (fun _ => False) (fun _ => leafC Nd.zero 0) (fun _ => none) (fun _ => 0) (fun _ => []) (fun _ _ => none) (.map []) [] ∧ Below w.heap.size w w' := by
  have hmm := @run_makeMap Tryz.prog
  go_enter Tryz.func28, Tryz.ntmps28
  go_wp2
  go_ret
  have hb : Below w.heap.size w ((w.alloc (.map #[] 0)).alloc (.cells #[.map (some w.heap.size), .int .i64 0, .int .i64 0, .int .i64 0, .int .i64 0, .slice none 0 0] 107)) := ((Below.refl _ w).alloc (Nat.le_refl _) _).alloc (by simp) _
  have k1 : ((w.alloc (.map #[] 0)).alloc (.cells #[.map (some w.heap.size), .int .i64 0, .int .i64 0, .int .i64 0, .int .i64 0, .slice none 0 0] 107)).heap[w.heap.size + 1]? = some (.cells #[.map (some w.heap.size), .int .i64 0, .int .i64 0, .int .i64 0, .int .i64 0, .slice none 0 0] 107 (0, 0)) := by
    have h9 := heap_alloc_new (w.alloc (.map #[] 0)) (.cells #[.map (some w.heap.size), .int .i64 0, .int .i64 0, .int .i64 0, .int .i64 0, .slice none 0 0] 107)
    simpa using h9
  have hst : Stor ((w.alloc (.map #[] 0)).alloc (.cells #[.map (some w.heap.size), .int .i64 0, .int .i64 0, .int .i64 0, .int .i64 0, .slice none 0 0] 107)) (w.heap.size + 1) w.heap.size 0 ((0 : Nat) : Int) (fun _ => False) (fun _ => leafC Nd.zero 0) (fun _ => none) (fun _ => 0) (fun _ => []) (fun _ _ => none) (.map []) := by
    refine ⟨⟨⟨fun b h => h.elim, fun _ _ e => (by cases e)⟩, fun _ _ e => (by cases e), fun b h => h.elim, fun b h => h.elim, fun b h => h.elim, fun b h => h.elim, fun b h => h.elim⟩, ?_, ?_, fun h => h, (World.ownsMap_made w Tryz.prog 127 heldP).alloc _, UD.start, fun _ _ _ e => (by cases e), rfl⟩
    · rw [cell_of_row _ _ _ _ 107 (0, 0) k1]; rfl
    · rw [cell_of_row _ _ _ _ 107 (0, 0) k1]; rfl
  refine ⟨w.heap.size + 1, w.heap.size, rfl, by omega, Nat.le_refl _, ⟨hst, k1, LoopM.start (fun _ h => h) (fun _ => rfl) (fun _ => rfl), ⟨Int.le_refl _, ?_, ⟨fun _ => 0, ?_⟩, fun b _ h => h.elim, fun b _ h => h.elim, fun b h => h.elim, fun b h => h.elim⟩, ⟨fun x b r e => (by cases e), fun r h => h.elim⟩, fun r h => h.elim, fun l x c e => (by cases e), fun x c e => (by cases e), fun r h => h.elim, fun x c e => (by cases e), Nat.le_refl _, fun r h => h.elim, Nat.le_refl _⟩, hb⟩
  · intro i r
    have e : tdAt (fun _ => False) (fun _ => leafC Nd.zero 0) ((0 : Nat) : Int) = fun _ => none := by
      funext b
      exact tdAt_none.2 fun h => h.elim
    rw [e]
  · intro a b e
    obtain ⟨h, _⟩ := tdAt_some.1 e
    exact h.elim
end Go.Proofs.YtoiiibplkhedcaaGreatDoor

namespace Go.Proofs.YtoiiibplkhedcaaGreatDoor
open Go.RowKit Go.Maps
/-! What solve does with one pair. -/
theorem type_oneS {t : List Nd} (h : typeb t = true) : One t := by
  obtain ⟨S, ys, s, hS, h0, hs, hf, hsp, _⟩ := type_side rfl h
  have h9 := sub_one hS.run (i := t.length - 1) (by omega) hs
  rw [hsp] at h9
  exact h9
theorem uniq_metaS {t : List Nd} (h : t.all Nd.plainb = true) : ∀ a ∈ t, ∀ b ∈ t, a.kind = 61 → b.kind = 61 → a.num = b.num → a = b := by
  intro a ha b hb h1 h2 e
  have h9 := List.all_eq_true.1 h
  rw [plain_metaQ (h9 a ha) h1, plain_metaQ (h9 b hb) h2, e]
section
variable {ps : List (List Nd × List Nd)} {i now q : Nat} {O : Int → Prop} {W : World} {sb mb n : Nat} {X : Nat → Prop} {f : Nat → CC} {lk : Nat → Option Nat} {d : Nat → Nat} {K : (Option Addr × Nat × Nat) → List Nat} {U : Int → Int → Option Nat} {D : DataW Value} {rt : List Nat}
theorem SolG.callTake (hG : SolG ps i now q O W sb mb n X f lk d K U D rt) (hq : q ≤ 400000) (ty : List Nd) (m : Nat) (HM : Hid (ty.length = m)) (ht : typeb ty = true) (HW : Hid (∀ x ∈ ty, (Lit.int .i64 x.num).wf = true)) (ao : Option Addr) (cap : Nat) (hx : Nodes W ao ty) :
    Calls Tryz.prog 30 #[.pointer (some ⟨sb, 0, none⟩), .slice ao m cap, .int .i64 1] W fun e w' => ∃ b n' X' f' K' U' D' rt', e = .returned (.pointer (some ⟨b, 0, none⟩)) ∧ Taken W w' sb mb n (now : Int) 1 (fun _ => True) X f lk d K U q ty b n' X' f' K' U' D' rt' := by
  obtain ⟨Sg, yg, xg, hSg, h0g, _⟩ := type_side HM.out ht
  have hg3 := hSg.m300
  have HG1 : Sg.length = 1 := by
    have h1 := after_wt hSg.run
    rw [List.take_of_length_le (by have := HM.out; omega), (type_oneS ht).wt] at h1
    omega
  exact take_any W sb mb n (by have := hG.cnt; omega) (now : Int) 1 (fun _ => True) X f lk d K U D hG.stor (by decide) (.inr rfl) ty m HM hg3 h0g HW (plain_leafy hSg.plain) (uniq_metaS hSg.plain) Sg yg hSg.run HG1 (fun _ _ h => absurd h (by decide)) q rt hG.roots ao cap hx
end
def PairRes (ps : List (List Nd × List Nd)) (i z q : Nat) (w : World) (sb mb : Nat) (e : Ending) (w' : World) : Prop :=
  Below z w w' ∧ ∃ (n : Nat) (X : Nat → Prop) (f : Nat → CC) (lk : Nat → Option Nat) (d : Nat → Nat) (K : (Option Addr × Nat × Nat) → List Nat) (U : Int → Int → Option Nat) (D : DataW Value) (rt : List Nat), (∀ r, X r → z ≤ r) ∧
    ((e = .returned .nilIface ∧ SolG ps (i + 1) i q (Occ (ps.take (i + 1))) w' sb mb n X f lk d K U D rt) ∨ ((∃ v, e = .returned (.iface 143 (.pointer (some v)))) ∧ SolE ps i i q w' sb mb n X f lk d K U D rt ∧ ∀ ρ : Int → List Nd, (∀ x, One (ρ x)) → ¬ Solves ρ (ps.take (i + 1))))
theorem below_but {S : Nat → Prop} {z : Nat} {w w1 w2 : World} (h0 : Below z w w1) (h : But S w1 w2) (hw : z ≤ w.heap.size) (hS : ∀ i, S i → z ≤ i) : Below z w w2 := by
  refine ⟨h.os.trans h0.os, h.tape.trans h0.tape, h.output.trans h0.output, Nat.le_trans h0.size h.size, fun i hi => ?_⟩
  have hz := h0.size
  exact (h.block i (by omega) (fun h9 => by have := hS i h9; omega)).trans (h0.block i hi)
theorem pair_calls {ps : List (List Nd × List Nd)} {i z : Nat} {w W : World} {sb mb n : Nat} {X : Nat → Prop} {f : Nat → CC} {lk : Nat → Option Nat} {d : Nat → Nat} {K : (Option Addr × Nat × Nat) → List Nat} {U : Int → Int → Option Nat} {D : DataW Value} {rt : List Nat} (hi : i < ps.length) (hv : Valid ps) (hwf : ∀ p ∈ ps, (∀ x ∈ p.1, (Lit.int .i64 x.num).wf = true) ∧ ∀ x ∈ p.2, (Lit.int .i64 x.num).wf = true)
    (hG : SolG ps i i (pairSum ps i) (Occ (ps.take i)) W sb mb n X f lk d K U D rt) (hw : w.heap.size = z) (hb : Below z w W) (hXz : ∀ r, X r → z ≤ r) (hmb : z ≤ mb)
    (la lc : Nat) (hla : ps[i].1.length = la) (hlc : ps[i].2.length = lc) (a1 a2 : Option Addr) (c1 c2 : Nat) (hn1 : Nodes w a1 ps[i].1) (hn2 : Nodes w a2 ps[i].2) :
    ∃ (R1 : Nat → World → Prop) (R2 : Nat → Nat → World → Prop),
      (Calls Tryz.prog 30 #[.pointer (some ⟨sb, 0, none⟩), .slice a1 la c1, .int .i64 1] W fun e w4 => ∃ a, e = .returned (.pointer (some ⟨a, 0, none⟩)) ∧ R1 a w4) ∧
      (∀ a w4, R1 a w4 → Calls Tryz.prog 30 #[.pointer (some ⟨sb, 0, none⟩), .slice a2 lc c2, .int .i64 1] w4 fun e w5 => ∃ b, e = .returned (.pointer (some ⟨b, 0, none⟩)) ∧ R2 a b w5) ∧
      (∀ a b w5, R2 a b w5 → Calls Tryz.prog 29 #[.pointer (some ⟨sb, 0, none⟩), .pointer (some ⟨a, 0, none⟩), .pointer (some ⟨b, 0, none⟩)] w5 fun e w6 => PairRes ps i z (pairSum ps (i + 1)) w sb mb e w6) ∧
      (∀ a w4, R1 a w4 → But (fun k => k = mb) W w4) := by
  have hmem := List.getElem_mem hi
  obtain ⟨tA, tC⟩ := hv.2 _ hmem
  obtain ⟨wA, wC⟩ := hwf _ hmem
  have hsum : ∀ j, pairSum ps j ≤ 20000 := fun j => by have := pairSum_le ps j; have := hv.1; omega
  have hs1 := hsum i
  have hs2 := hsum (i + 1)
  have hss := pairSum_succ hi
  refine ⟨fun a w4 => ∃ n1 X1 f1 K1 U1 D1 rt1, Taken W w4 sb mb n (i : Int) 1 (fun _ => True) X f lk d K U (pairSum ps i) ps[i].1 a n1 X1 f1 K1 U1 D1 rt1,
    fun a b w5 => ∃ w4 n1 X1 f1 K1 U1 D1 rt1 n2 X2 f2 K2 U2 D2 rt2, Taken W w4 sb mb n (i : Int) 1 (fun _ => True) X f lk d K U (pairSum ps i) ps[i].1 a n1 X1 f1 K1 U1 D1 rt1 ∧ Taken w4 w5 sb mb n1 (i : Int) 1 (fun _ => True) X1 f1 lk d K1 U1 (pairSum ps i + la) ps[i].2 b n2 X2 f2 K2 U2 D2 rt2, ?_, ?_, ?_, ?_⟩
  · refine (hG.callTake (by omega) ps[i].1 la hla tA wA a1 c1 (hn1.below (by rw [hw]; exact hb))).mono ?_
    rintro e w4 ⟨b, n1, X1, f1, K1, U1, D1, rt1, rfl, T⟩
    exact ⟨b, rfl, n1, X1, f1, K1, U1, D1, rt1, T⟩
  · rintro a w4 ⟨n1, X1, f1, K1, U1, D1, rt1, T⟩
    have hG1 := hG.take (Nat.le_refl _) T (typeb_plain tA) wA
    have hb4 := below_but hb T.old (by omega) (fun k hk => by omega)
    have h9 := hG1.callTake (by omega) ps[i].2 lc hlc tC wC a2 c2 (hn2.below (by rw [hw]; exact hb4))
    rw [hla] at h9
    refine h9.mono ?_
    rintro e w5 ⟨b, n2, X2, f2, K2, U2, D2, rt2, rfl, T2⟩
    exact ⟨b, rfl, w4, n1, X1, f1, K1, U1, D1, rt1, n2, X2, f2, K2, U2, D2, rt2, T, T2⟩
  · rintro a b w5 ⟨w4, n1, X1, f1, K1, U1, D1, rt1, n2, X2, f2, K2, U2, D2, rt2, T1, T2⟩
    have hG1 := hG.take (Nat.le_refl _) T1 (typeb_plain tA) wA
    have hb4 := below_but hb T1.old (by omega) (fun k hk => by omega)
    have hG2 := hG1.take (by omega) T2 (typeb_plain tC) wC
    have hb5 := below_but hb4 T2.old (by omega) (fun k hk => by omega)
    have hG3 := hG2.to (q' := pairSum ps (i + 1)) (O' := Occ (ps.take (i + 1))) (by omega) (fun x hx => occ_succ hi hx)
    obtain ⟨hkn, hA, hB, hXa, hXb⟩ := two_taken T1 T2
    have hX2 : ∀ r, X2 r → z ≤ r := by
      intro r hr
      rcases T2.fresh r hr with h | h
      · rcases T1.fresh r h with h | h
        · exact hXz r h
        · have := hb.size; omega
      · have := hb4.size; omega
    refine (equate_any X2 f2 lk d K2 w5 a b rt2 hG3.stor.sto (fun r hr _ => hG3.roots.1 r hr) (by have := hG3.roots.2; omega) hXa hXb sb (i : Int) hG3.stor.sX hG3.stor.s1).mono ?_
    rintro e w6 ⟨hB6, hres⟩
    have hb6 := below_but hb5 hB6 (by omega) hX2
    rcases hres with ⟨rfl, f', lk', d', hS6, hT6, hE⟩ | ⟨⟨v, rfl⟩, ⟨f', lk', d', hS6, hT6⟩, hno⟩
    · exact ⟨hb6, n2, X2, f', lk', d', K2, U2, D2, rt2, hX2, .inl ⟨rfl, hG3.tie hi hkn hA hB hB6 hS6 hT6 hE⟩⟩
    · refine ⟨hb6, n2, X2, f', lk', d', K2, U2, D2, rt2, hX2, .inr ⟨⟨v, rfl⟩, hG3.fail hB6 hS6 hT6, fun ρ hρ => ?_⟩⟩
      exact hG3.loop.noSolves (fun p hp => ⟨⟨plain_leafy (typeb_plain (hv.2 p hp).1), type_oneS (hv.2 p hp).1⟩, plain_leafy (typeb_plain (hv.2 p hp).2), type_oneS (hv.2 p hp).2⟩) hi hkn hA hB hno ρ hρ
  · rintro a w4 ⟨n1, X1, f1, K1, U1, D1, rt1, T⟩
    exact T.old
end Go.Proofs.YtoiiibplkhedcaaGreatDoor
