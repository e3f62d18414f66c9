import Derived.Test.YthioecjcnajmgaaGreatDoorWAA
import Derived.WalkKit
import Derived.Test.YthioecjcnajmgaaGreatDoorNU
import Derived.Test.YthioecjcnajmgaaGreatDoorWAC
import Derived.Test.YthioecjcnajmgaaGreatDoorWAY
import Derived.Test.YthioecjcnajmgaaGreatDoorWAX
import Derived.Test.YthioecjcnajmgaaGreatDoorWAV
import Derived.Test.YthioecjcnajmgaaGreatDoorWAR
namespace Go.Proofs.YthioecjcnajmgaaGreatDoor

open Go.RowKit

/-- Pairs in memory. -/
def Pairs (w : World) (ao : Option Addr) (ps : List (List Nd × List Nd)) : Prop := ∀ i (h : i < ps.length), ∃ b o a1 c1 a2 c2, ao = some ⟨b, o, none⟩ ∧ w.cell? ⟨b, o + i * 2, none⟩ = some (.slice a1 ps[i].1.length c1) ∧ w.cell? ⟨b, o + i * 2 + 1, none⟩ = some (.slice a2 ps[i].2.length c2) ∧ Nodes w a1 ps[i].1 ∧ Nodes w a2 ps[i].2

theorem Pairs.below {w w' : World} {ao : Option Addr} {ps : List (List Nd × List Nd)} (h : Pairs w ao ps) (hb : Below w.heap.size w w') : Pairs w' ao ps := by
  intro i hi
  obtain ⟨b, o, a1, c1, a2, c2, e, h1, h2, h3, h4⟩ := h i hi
  exact ⟨b, o, a1, c1, a2, c2, e, (hb.cell (lt_of_cell h1)).trans h1, (hb.cell (lt_of_cell h2)).trans h2, h3.below hb, h4.below hb⟩

def pairSum (ps : List (List Nd × List Nd)) (i : Nat) : Nat := ((ps.take i).map fun p => p.1.length + p.2.length).sum

theorem pairSum_succ {ps : List (List Nd × List Nd)} {i : Nat} (h : i < ps.length) : pairSum ps (i + 1) = pairSum ps i + ps[i].1.length + ps[i].2.length := by
  unfold pairSum
  rw [List.take_succ_eq_append_getElem h, List.map_append, List.sum_append]
  simp
  omega

theorem pairSum_le (ps : List (List Nd × List Nd)) (i : Nat) : pairSum ps i ≤ (ps.map fun p => p.1.length + p.2.length).sum := by
  unfold pairSum
  have h9 : ps.map (fun p => p.1.length + p.2.length) = (ps.take i).map (fun p => p.1.length + p.2.length) ++ (ps.drop i).map (fun p => p.1.length + p.2.length) := by rw [← List.map_append, List.take_append_drop]
  rw [h9, List.sum_append]
  omega

theorem rbox3 {w : World} {z : Nat} {a b c a' b' c' : Value} (h : w.heap[z]? = some (.cells #[a, b, c] 42 (0, 0))) : w.cell? ⟨z, 0, none⟩ = some a ∧ w.cell? ⟨z, 1, none⟩ = some b ∧ w.cell? ⟨z, 2, none⟩ = some c ∧ w.frozen? ⟨z, 0, none⟩ = false ∧ w.frozen? ⟨z, 1, none⟩ = false ∧ w.frozen? ⟨z, 2, none⟩ = false ∧ z < w.heap.size ∧ But (fun i => i = z) w (((w.setCell ⟨z, 0, none⟩ a').setCell ⟨z, 1, none⟩ b').setCell ⟨z, 2, none⟩ c') := by
  refine ⟨?_, ?_, ?_, frozen_of_row w z 0 _ 42 h, frozen_of_row w z 1 _ 42 h, frozen_of_row w z 2 _ 42 h, (Array.getElem?_eq_some_iff.1 h).1, (((But.refl (fun i => i = z) w).setCell (p := ⟨z, 0, none⟩) rfl _).setCell (p := ⟨z, 1, none⟩) rfl _).setCell (p := ⟨z, 2, none⟩) rfl _⟩ <;> (rw [cell_of_row _ _ _ _ _ _ h]; rfl)

end Go.Proofs.YthioecjcnajmgaaGreatDoor

namespace Go.Proofs.YthioecjcnajmgaaGreatDoor

open Go.RowKit Go.Maps

/-- What take leaves. -/
structure Taken (w w' : World) (sb mb n : Nat) (t lv : Int) (ok : (Int → DT) → Prop) (X : Nat → Prop) (f : Nat → CC) (lk : Nat → Option Nat) (d : Nat → Nat) (K : (Option Addr × Nat × Nat) → List Nat) (U : Int → Int → Option Nat) (L : Nat) (ty : List Nd) (b n' : Nat) (X' : Nat → Prop) (f' : Nat → CC) (K' : (Option Addr × Nat × Nat) → List Nat) (U' : Int → Int → Option Nat) (D' : DataW Value) (rt : List Nat) : Prop where
  num : n' ≤ n + ty.length
  stor : Stor w' sb mb n' t X' f' lk d K' U' D'
  grow : Grow lv ok X f lk K U X' f' lk K' U'
  inX : X' b
  mean : ∀ θ, SatC X' (gc K' f') lk θ → Ev (sg U' lv θ) ty (θ b)
  known : ∀ x ∈ ty, x.kind = 61 → ∃ b, U' lv x.num = some b
  roots : (∀ i, X' i → i ∈ rt) ∧ rt.length ≤ L + ty.length
  old : But (fun i => i = mb) w w'
  src : ∀ x c, U' lv x = some c → U lv x = some c ∨ ∃ y ∈ ty, y.kind = 61 ∧ y.num = x
  leaf : ∀ y ∈ ty, y.kind = 61 → U lv y.num = none → ∃ b, U' lv y.num = some b ∧ gc K' f' b = ⟨y, [], decide (1 ≤ lv)⟩ ∧ lk b = none ∧ X' b
  fresh : ∀ i, X' i → X i ∨ w.heap.size ≤ i
  nds : ∀ i, X' i → X i ∨ (f' i).nd ∈ ty
  um : ∀ i, X' i → ¬ X i → (f' i).nd.kind = 61 → U' lv (f' i).nd.num = some i

set_option maxRecDepth 20000 in
set_option maxHeartbeats 8000000 in
theorem take_any (w : World) (sb mb n : Nat) (hn : n ≤ 500000) (t lv : Int) (ok : (Int → DT) → Prop) (X : Nat → Prop) (f : Nat → CC) (lk : Nat → Option Nat) (d : Nat → Nat) (K : (Option Addr × Nat × Nat) → List Nat) (U : Int → Int → Option Nat) (D : DataW Value) (hS : Stor w sb mb n t X f lk d K U D) (w1 : (Lit.int .i64 lv).wf = true) (hlv0 : lv = 0 ∨ lv = 1)
    (ty : List Nd) (m : Nat) (HM : Hid (ty.length = m)) (hm : m ≤ 300) (hm0 : 0 < m) (HW : Hid (∀ x ∈ ty, (Lit.int .i64 x.num).wf = true)) (HL : Hid (Leafy ty)) (HUQ : Hid (∀ a ∈ ty, ∀ b ∈ ty, a.kind = 61 → b.kind = 61 → a.num = b.num → a = b)) (S : List Sp) (ys : List Sp) (HA : Hid (after ty m = some (S, ys))) (hS1 : S.length = 1) (HOK : Hid (∀ ρ, ok ρ → lv = 0 → ∀ x ∈ ty, x.kind = 61 → ρ x.num = selfT x)) (L : Nat) (rt : List Nat) (hrt : (∀ i, X i → i ∈ rt) ∧ rt.length ≤ L) (ao : Option Addr) (cap : Nat) (hx : Nodes w ao ty) :
    Calls Tryz.prog 28 #[.pointer (some ⟨sb, 0, none⟩), .slice ao m cap, .int .i64 lv] w fun e w' => ∃ b n' X' f' K' U' D' rt', e = .returned (.pointer (some ⟨b, 0, none⟩)) ∧ Taken w w' sb mb n t lv ok X f lk d K U L ty b n' X' f' K' U' D' rt' := by
  have hb0 : Below w.heap.size w (w.alloc (.cells #[.pointer (some ⟨sb, 0, none⟩)] 64)) := (Below.refl _ w).alloc (Nat.le_refl _) _
  have hb1 := hb0.alloc hb0.size (.cells #[.int .i64 lv] 3)
  have k0 : ((w.alloc (.cells #[.pointer (some ⟨sb, 0, none⟩)] 64)).alloc (.cells #[.int .i64 lv] 3)).heap[w.heap.size]? = some (.cells #[.pointer (some ⟨sb, 0, none⟩)] 64 (0, 0)) := by
    rw [heap_alloc_old _ _ (by simp)]
    exact heap_alloc_new _ _
  have k1 : ((w.alloc (.cells #[.pointer (some ⟨sb, 0, none⟩)] 64)).alloc (.cells #[.int .i64 lv] 3)).heap[w.heap.size + 1]? = some (.cells #[.int .i64 lv] 3 (0, 0)) := by
    have h9 := heap_alloc_new (w.alloc (.cells #[.pointer (some ⟨sb, 0, none⟩)] 64)) (.cells #[.int .i64 lv] 3)
    simpa using h9
  have HF := fold_any _ sb mb n hn t lv ok X f lk d K U D (hS.below hb1) w.heap.size (w.heap.size + 1) ⟨k0, k1⟩ w1 hlv0 ty m HM hm hm0 HW HL HUQ S ys HA hS1 HOK L rt hrt ao cap (hx.below hb1)
  have HB : Hid (But (fun i => i = mb) w ((w.alloc (.cells #[.pointer (some ⟨sb, 0, none⟩)] 64)).alloc (.cells #[.int .i64 lv] 3))) := But.ofBelow hb1
  have HZ : Hid (w.heap.size ≤ ((w.alloc (.cells #[.pointer (some ⟨sb, 0, none⟩)] 64)).alloc (.cells #[.int .i64 lv] 3)).heap.size) := hb1.size
  clear hS hx k0 k1 hb0 hb1
  go_enter Tryz.func28, Tryz.ntmps28
  go_wp2_with fail
  refine HF.mono ?_
  rintro e w2 ⟨g, c, b, n', X', f', K', U', D', rt', rfl, hst⟩
  have HT : Hid (Taken w w2 sb mb n t lv ok X f lk d K U L ty b n' X' f' K' U' D' rt') := by
    have hmt : ty.take m = ty := List.take_of_length_le (by have := HM.out; omega)
    have hl := HM.out
    refine ⟨by have := hst.num; omega, hst.stor, hst.grow, hst.inX b (by simp), fun θ hs => by simpa using hst.mean θ hs 0 (by simp) (by simp), fun x hx => hst.known x (by rw [hmt]; exact hx), ⟨hst.roots.1, by have := hst.roots.2; omega⟩, ?_, (by have h9 := hst.src; rw [hmt] at h9; exact h9), (by have h9 := hst.leaf; rw [hmt] at h9; exact h9), fun i hi => (hst.fresh i hi).imp id (fun h => Nat.le_trans HZ.out h), hst.nds, hst.um⟩
    refine ⟨hst.old.os.trans HB.out.os, hst.old.tape.trans HB.out.tape, hst.old.output.trans HB.out.output, Nat.le_trans HB.out.size hst.old.size, fun i hi hne => ?_⟩
    refine (hst.old.block i (Nat.lt_of_lt_of_le hi HB.out.size) ?_).trans (HB.out.block i hi hne)
    rintro (h | h)
    · exact hne h
    · have := HZ.out; omega
  clear hst HF
  go_wp2
  go_ret
  exact ⟨b, n', X', f', K', U', D', rt', rfl, HT.out⟩

end Go.Proofs.YthioecjcnajmgaaGreatDoor

namespace Go.Proofs.YthioecjcnajmgaaGreatDoor
open Go.RowKit

/-! What holds of the nodes of all cells stays. -/

section
variable {Q : Nd → Prop} {X X' : Nat → Prop} {f f' : Nat → CC} {lk lk' : Nat → Option Nat} {t : Int}

theorem tiedF_nd (f : Nat → CC) (a h q : Nat) (r t : Int) (i : Nat) : (tiedF f a h q r t i).nd = (f i).nd ∨ (tiedF f a h q r t i).nd = (f a).nd := by
  unfold tiedF
  by_cases h1 : i = q
  · rw [if_pos h1, h1]
    exact .inl rfl
  · rw [if_neg h1]
    by_cases h2 : i = h
    · rw [if_pos h2, h2]
      split
      · exact .inr rfl
      · exact .inl rfl
    · rw [if_neg h2]
      exact .inl rfl

theorem Ties.nds (h : Ties X t f lk f' lk') (hQ : ∀ r, X r → Q (f r).nd) : ∀ r, X r → Q (f' r).nd := by
  induction h using Ties.elim with
  | same _ => exact hQ
  | step _ ha _ _ _ _ _ _ _ ih =>
    intro i hi
    rcases tiedF_nd _ _ _ _ _ _ i with e | e
    · rw [e]; exact ih i hi
    · rw [e]; exact ih _ ha

theorem Taken.plain {w w' : World} {sb mb n : Nat} {lv : Int} {ok : (Int → DT) → Prop} {d : Nat → Nat} {K K' : (Option Addr × Nat × Nat) → List Nat} {U U' : Int → Int → Option Nat} {L : Nat} {ty : List Nd} {b n' : Nat} {D' : DataW Value} {rt : List Nat} (T : Taken w w' sb mb n t lv ok X f lk d K U L ty b n' X' f' K' U' D' rt) (hQ : ∀ r, X r → Q (f r).nd) (hty : ∀ x ∈ ty, Q x) : ∀ r, X' r → Q (f' r).nd := by
  intro r hr
  by_cases hx : X r
  · rw [T.grow.old r hx]
    exact hQ r hx
  · exact hty _ ((T.nds r hr).resolve_left hx)

end

end Go.Proofs.YthioecjcnajmgaaGreatDoor

namespace Go.Proofs.YthioecjcnajmgaaGreatDoor
open Go.RowKit Go.Maps

/-! The state of solve's loop. -/

theorem tiedF_sn (f : Nat → CC) (a h q : Nat) (r t : Int) (i : Nat) : (tiedF f a h q r t i).sn = (f i).sn := by
  unfold tiedF
  by_cases h1 : i = q
  · rw [if_pos h1, h1]
  · rw [if_neg h1]
    by_cases h2 : i = h
    · rw [if_pos h2, h2]
      split <;> rfl
    · rw [if_neg h2]

theorem Ties.seen {X : Nat → Prop} {t : Int} {f f' : Nat → CC} {lk lk' : Nat → Option Nat} (h : Ties X t f lk f' lk') : ∀ r, (f' r).sn = (f r).sn := by
  induction h using Ties.elim with
  | same _ => exact fun _ => rfl
  | step _ _ _ _ _ _ _ _ _ ih => exact fun i => (tiedF_sn _ _ _ _ _ _ i).trans (ih i)

/-- What solve's store is, where i pairs are taken in and the time is now; q bounds its cells, O tells its unknowns. -/
structure SolG (ps : List (List Nd × List Nd)) (i now q : Nat) (O : Int → Prop) (w : World) (sb mb n : Nat) (X : Nat → Prop) (f : Nat → CC) (lk : Nat → Option Nat) (d : Nat → Nat) (K : (Option Addr × Nat × Nat) → List Nat) (U : Int → Int → Option Nat) (D : DataW Value) (rt : List Nat) : Prop where
  stor : Stor w sb mb n (now : Int) X f lk d K U D
  blk : SBlk w sb mb (now : Int) 0 0 0 (none, 0, 0)
  loop : LoopM ps i X f lk K U
  hist : Hist X f lk (now : Int)
  num : NumOk X (U 1) f lk
  plain : ∀ r, X r → (f r).nd.plainb = true
  one : ∀ l x c, U l x = some c → l = 1
  wf : ∀ x c, U 1 x = some c → (Lit.int .i64 x).wf = true
  seen : ∀ r, X r → (f r).sn = 0
  occ : ∀ x c, U 1 x = some c → O x
  cnt : n ≤ q
  roots : (∀ r, X r → r ∈ rt) ∧ rt.length ≤ q

section
variable {ps : List (List Nd × List Nd)} {i now q : Nat} {O : Int → Prop} {w w' : World} {sb mb n : Nat} {X : Nat → Prop} {f : Nat → CC} {lk : Nat → Option Nat} {d : Nat → Nat} {K : (Option Addr × Nat × Nat) → List Nat} {U : Int → Int → Option Nat} {D : DataW Value} {rt : List Nat}

theorem SBlk.but {S : Nat → Prop} {t I L nw : Int} {s : Option Addr × Nat × Nat} (h : SBlk w sb mb nw t I L s) (hb : But S w w') (hn : ¬ S sb) : SBlk w' sb mb nw t I L s :=
  (hb.block sb (Array.getElem?_eq_some_iff.1 h).1 hn).trans h

theorem SolG.msb (h : SolG ps i now q O w sb mb n X f lk d K U D rt) : mb ≠ sb := by
  intro e
  obtain ⟨es, clock, h1, _⟩ := h.stor.map
  have h9 := h.blk
  unfold SBlk at h9
  rw [← e, h1] at h9
  cases h9

theorem SolG.below (h : SolG ps i now q O w sb mb n X f lk d K U D rt) (hb : Below w.heap.size w w') : SolG ps i now q O w' sb mb n X f lk d K U D rt :=
  ⟨h.stor.below hb, h.blk.but (S := fun _ => False) (But.ofBelow hb) (fun h => h), h.loop, h.hist, h.num, h.plain, h.one, h.wf, h.seen, h.occ, h.cnt, h.roots⟩

/-- Another time. -/
theorem SolG.time (h : SolG ps i now q O w sb mb n X f lk d K U D rt) {now' : Nat} (hn : now ≤ now') : SolG ps i now' q O (w.setCell ⟨sb, 1, none⟩ (.int .i64 (now' : Int))) sb mb n X f lk d K U D rt := by
  have hb : But (· = sb) w (w.setCell ⟨sb, 1, none⟩ (.int .i64 (now' : Int))) := (But.refl (· = sb) w).setCell (p := ⟨sb, 1, none⟩) rfl _
  have hblk : SBlk (w.setCell ⟨sb, 1, none⟩ (.int .i64 (now' : Int))) sb mb (now' : Int) 0 0 0 (none, 0, 0) := by
    have h9 := heap_setCell_same w sb 1 _ 96 (.int .i64 (now' : Int)) h.blk
    simpa [SBlk] using h9
  obtain ⟨s0, s1, _⟩ := hblk.cell
  have hX : ∀ b, X b → b ≠ sb := fun b hb e => h.stor.sX (e ▸ hb)
  have hbX : But (fun b => b = sb) w (w.setCell ⟨sb, 1, none⟩ (.int .i64 (now' : Int))) := hb
  refine ⟨⟨⟨h.stor.sto.cells.but hbX hX, h.stor.sto.acyc, fun b hb' => ?_, h.stor.sto.inX, h.stor.sto.arity, h.stor.sto.met, h.stor.sto.low⟩, s0, s1, h.stor.sX, ownsMap_but h.stor.map hb h.msb, h.stor.ud, h.stor.inX, h.stor.nil⟩, hblk, h.loop, h.hist.later (by omega), h.num, h.plain, h.one, h.wf, h.seen, h.occ, h.cnt, h.roots⟩
  have h9 := h.stor.sto.rows b hb'
  refine ⟨h9.1, ?_⟩
  rcases h9.2 with e | ⟨g, cur, h1, h2, h3, h4, h5⟩
  · exact .inl e
  · refine .inr ⟨g, cur, h1, h2, by simpa using h3, ?_, h5⟩
    refine (hb.block g h3 ?_).trans h4
    rintro rfl
    have h8 := h.blk
    unfold SBlk at h8
    rw [h4] at h8
    simp at h8

/-- A type is taken in. -/
theorem SolG.take (h : SolG ps i now q O w sb mb n X f lk d K U D rt) {ty : List Nd} {b n' : Nat} {X' : Nat → Prop} {f' : Nat → CC} {K' : (Option Addr × Nat × Nat) → List Nat} {U' : Int → Int → Option Nat} {D' : DataW Value} {rt' : List Nat} {L : Nat} (hL : L ≤ q)
    (T : Taken w w' sb mb n (now : Int) 1 (fun _ => True) X f lk d K U L ty b n' X' f' K' U' D' rt') (hpl : ty.all Nd.plainb = true) (hwf : ∀ x ∈ ty, (Lit.int .i64 x.num).wf = true) :
    SolG ps i now (q + ty.length) (fun x => O x ∨ x ∈ metas ty) w' sb mb n' X' f' lk d K' U' D' rt' := by
  have hmemM : ∀ {y : Nd}, y ∈ ty → y.kind = 61 → y.num ∈ metas ty := by
    intro y hy h61
    exact List.mem_map.2 ⟨y, List.mem_filter.2 ⟨hy, by simp [h61]⟩, rfl⟩
  refine ⟨T.stor, h.blk.but T.old h.msb.symm, h.loop.grow T.grow (fun _ => trivial) h.hist.inX (fun r hr k hk => h.stor.sto.inX r hr k hk) (fun x c e => T.stor.inX 1 x c e), T.grow.hist h.hist, T.grow.num h.num (fun x c e => h.stor.inX 1 x c e) T.um, T.plain (Q := fun n => n.plainb = true) h.plain (fun x hx => List.all_eq_true.1 hpl x hx), fun l x c e => ?_, fun x c e => ?_, fun r hr => ?_, fun x c e => ?_, ?_, T.roots.1, ?_⟩
  · by_cases hl : l = 1
    · exact hl
    · rw [T.grow.other l x hl] at e
      exact h.one l x c e
  · rcases T.src x c e with e | ⟨y, hy, h61, rfl⟩
    · exact h.wf x c e
    · exact hwf y hy
  · by_cases hx : X r
    · rw [T.grow.old r hx]
      exact h.seen r hx
    · exact (T.grow.new r hr hx).2.2.1
  · rcases T.src x c e with e | ⟨y, hy, h61, rfl⟩
    · exact .inl (h.occ x c e)
    · exact .inr (hmemM hy h61)
  · have := T.num
    have := h.cnt
    omega
  · have := T.roots.2
    omega

theorem CSto.storOf {f' : Nat → CC} {lk' : Nat → Option Nat} {d' : Nat → Nat} (h : SolG ps i now q O w sb mb n X f lk d K U D rt) (hC : CSto w' X f' lk' d' K) (hb : But X w w') : Stor w' sb mb n (now : Int) X f' lk' d' K U D := by
  have hmX := h.stor.mX
  exact ⟨hC, (hb.cell (lt_of_cell h.stor.s0) h.stor.sX).trans h.stor.s0, (hb.cell (lt_of_cell h.stor.s1) h.stor.sX).trans h.stor.s1, h.stor.sX, ownsMap_but h.stor.map hb hmX, h.stor.ud, h.stor.inX, h.stor.nil⟩

/-- What a pair asks is done. -/
theorem SolG.tie (h : SolG ps i i q O w sb mb n X f lk d K U D rt) (hi : i < ps.length) (hkn : ∀ n, n ∈ ps[i].1 ∨ n ∈ ps[i].2 → n.kind = 61 → ∃ b, U 1 n.num = some b) {a b : Nat} (hA : ∀ θ, SatC X (gc K f) lk θ → Ev (sg U 1 θ) ps[i].1 (θ a)) (hB : ∀ θ, SatC X (gc K f) lk θ → Ev (sg U 1 θ) ps[i].2 (θ b))
    (hb : But X w w') {f' : Nat → CC} {lk' : Nat → Option Nat} {d' : Nat → Nat} (hC : CSto w' X f' lk' d' K) (hT : Ties X (i : Int) f lk f' lk') (hiff : ∀ θ, SatC X (gc K f') lk' θ ↔ SatC X (gc K f) lk θ ∧ θ a = θ b) :
    SolG ps (i + 1) i q O w' sb mb n X f' lk' d' K U D rt :=
  ⟨hC.storOf h hb, h.blk.but hb h.stor.sX, h.loop.next h.hist hi hkn hA hB hT hC.acyc hiff, (hT.hist h.hist).1, hT.num h.hist h.num, hT.nds (Q := fun n => n.plainb = true) h.plain, h.one, h.wf, fun r hr => (hT.seen r).trans (h.seen r hr), h.occ, h.cnt, h.roots⟩

end

/-- What is known of a store when solve ends without an answer: the state, but for its loop. -/
structure SolE (ps : List (List Nd × List Nd)) (k now q : Nat) (w : World) (sb mb n : Nat) (X : Nat → Prop) (f : Nat → CC) (lk : Nat → Option Nat) (d : Nat → Nat) (K : (Option Addr × Nat × Nat) → List Nat) (U : Int → Int → Option Nat) (D : DataW Value) (rt : List Nat) : Prop where
  stor : Stor w sb mb n (now : Int) X f lk d K U D
  blk : SBlk w sb mb (now : Int) 0 0 0 (none, 0, 0)
  times : TimeM ps k X f K U
  hist : Hist X f lk (now : Int)
  one : ∀ l x c, U l x = some c → l = 1
  wf : ∀ x c, U 1 x = some c → (Lit.int .i64 x).wf = true
  seen : ∀ r, X r → (f r).sn = 0
  roots : (∀ r, X r → r ∈ rt) ∧ rt.length ≤ q

section
variable {ps : List (List Nd × List Nd)} {i now q : Nat} {O : Int → Prop} {w w' : World} {sb mb n : Nat} {X : Nat → Prop} {f : Nat → CC} {lk : Nat → Option Nat} {d : Nat → Nat} {K : (Option Addr × Nat × Nat) → List Nat} {U : Int → Int → Option Nat} {D : DataW Value} {rt : List Nat}

theorem SolG.toE (h : SolG ps i now q O w sb mb n X f lk d K U D rt) : SolE ps i now q w sb mb n X f lk d K U D rt :=
  ⟨h.stor, h.blk, h.loop.times, h.hist, h.one, h.wf, h.seen, h.roots⟩

/-- A pair was not done. -/
theorem SolG.fail (h : SolG ps i i q O w sb mb n X f lk d K U D rt) (hb : But X w w') {f' : Nat → CC} {lk' : Nat → Option Nat} {d' : Nat → Nat} (hC : CSto w' X f' lk' d' K) (hT : Ties X (i : Int) f lk f' lk') :
    SolE ps i i q w' sb mb n X f' lk' d' K U D rt :=
  ⟨hC.storOf h hb, h.blk.but hb h.stor.sX, h.loop.times.ties hT h.hist, (hT.hist h.hist).1, h.one, h.wf, fun r hr => (hT.seen r).trans (h.seen r hr), h.roots⟩

/-- Heads at every time. -/
theorem SolE.heads (h : SolE ps i now q w sb mb n X f lk d K U D rt) : ∃ (dt : Int → Nat → Nat) (hf : Int → Nat → Nat), (∀ t, Acyc (tdAt Classical.propDecidable X f t) (dt t)) ∧ (∀ t k, Hd (tdAt Classical.propDecidable X f t) k (hf t k)) ∧ ∀ t k, X k → X (hf t k) := by
  obtain ⟨dn, hdn⟩ := h.hist.acyc
  have hac : ∀ t, Acyc (tdAt Classical.propDecidable X f t) dn := by
    intro t a b e
    obtain ⟨h1, h2, h3⟩ := tdAt_some.1 e
    exact hdn a b (tdAt_some.2 ⟨h1, h.hist.si a b h1 h3, h3⟩)
  have hk : ∀ t k, ∃ r, Hd (tdAt Classical.propDecidable X f t) k r := fun t k => (hac t).head _ k (Nat.lt_succ_self _)
  obtain ⟨hf, hhf⟩ := Classical.axiomOfChoice fun p : Int × Nat => hk p.1 p.2
  refine ⟨fun _ => dn, fun t k => hf (t, k), hac, fun t k => hhf (t, k), fun t k hX => ?_⟩
  exact hd_inX (lk := tdAt Classical.propDecidable X f t) (fun a b e => ⟨(tdAt_some.1 e).1, h.hist.inX a b (tdAt_some.1 e).1 (tdAt_some.1 e).2.2⟩) (hhf (t, k)) hX

theorem SolE.kidsX (h : SolE ps i now q w sb mb n X f lk d K U D rt) : ∀ t r, X r → (∀ k ∈ kidsT K f t r, X k) ∧ (kidsT K f t r).length ≤ 20000 := by
  intro t r hr
  unfold kidsT
  split
  · exact ⟨by simp, by simp⟩
  · exact ⟨h.stor.sto.inX r hr, (h.stor.sto.rows r hr).1.2.1⟩

/-- The memory of the walk, as it is first. -/
theorem SolE.walk (h : SolE ps i now q w sb mb n X f lk d K U D rt) : JW X f lk d K sb mb n (now : Int) none D w 0 w := by
  refine ⟨But.refl _ w, h.stor.map, fun _ => 0, none, 0, 0, [], 0, 0, 0, ⟨?_, h.blk, ?_, rfl, by simp⟩, fun _ _ => Int.le_refl _, Int.le_refl _, Int.le_refl _, ?_⟩
  · have e : ∀ r, X r → mkF f (fun _ => 0) r = f r := by
      intro r hr
      unfold mkF
      rw [← h.seen r hr]
    have hs := h.stor.sto
    refine ⟨⟨fun b hb => by rw [e b hb]; exact hs.cells.at' b hb, hs.cells.link⟩, hs.acyc, fun b hb => by rw [e b hb]; exact hs.rows b hb, fun b hb => by rw [e b hb]; exact hs.inX b hb, fun b hb => by rw [e b hb]; exact hs.arity b hb, fun b hb => by rw [e b hb]; exact hs.met b hb, fun b hb => by rw [e b hb]; exact hs.low b hb⟩
  · exact ⟨rfl, .inl ⟨rfl, rfl⟩⟩
  · exact .inl rfl

end

end Go.Proofs.YthioecjcnajmgaaGreatDoor

namespace Go.Proofs.YthioecjcnajmgaaGreatDoor

open Go.RowKit Go.Maps

/-! The first state of solve's store, and what a pair does to it. -/

theorem two_taken {w w1 w2 : World} {sb mb n n1 n2 : Nat} {t : Int} {ok : (Int → DT) → Prop} {X X1 X2 : Nat → Prop} {f f1 f2 : Nat → CC} {lk : Nat → Option Nat} {d : Nat → Nat} {K K1 K2 : (Option Addr × Nat × Nat) → List Nat} {U U1 U2 : Int → Int → Option Nat} {L L' : Nat} {A B : List Nd} {a b : Nat} {D1 D2 : DataW Value} {rt1 rt2 : List Nat}
    (T1 : Taken w w1 sb mb n t 1 ok X f lk d K U L A a n1 X1 f1 K1 U1 D1 rt1) (T2 : Taken w1 w2 sb mb n1 t 1 ok X1 f1 lk d K1 U1 L' B b n2 X2 f2 K2 U2 D2 rt2) :
    (∀ n, n ∈ A ∨ n ∈ B → n.kind = 61 → ∃ c, U2 1 n.num = some c) ∧ (∀ θ, SatC X2 (gc K2 f2) lk θ → Ev (sg U2 1 θ) A (θ a)) ∧ (∀ θ, SatC X2 (gc K2 f2) lk θ → Ev (sg U2 1 θ) B (θ b)) ∧ X2 a ∧ X2 b := by
  refine ⟨fun n hn h61 => ?_, fun θ hs => ?_, T2.mean, T2.grow.sub a T1.inX, T2.inX⟩
  · rcases hn with hn | hn
    · obtain ⟨c, hc⟩ := T1.known n hn h61
      exact ⟨c, T2.grow.keep _ _ _ hc⟩
    · exact T2.known n hn h61
  · exact sg_keep T2.grow T1.known (T1.mean θ (T2.grow.back hs))

theorem occ_succ {ps : List (List Nd × List Nd)} {i : Nat} (hi : i < ps.length) {x : Int} (h : (Occ (ps.take i) x ∨ x ∈ metas ps[i].1) ∨ x ∈ metas ps[i].2) : Occ (ps.take (i + 1)) x := by
  rw [List.take_succ_eq_append_getElem hi]
  rcases h with (⟨p, hp, h⟩ | h) | h
  · exact ⟨p, List.mem_append_left _ hp, h⟩
  · exact ⟨ps[i], List.mem_append_right _ (List.mem_singleton.2 rfl), .inl h⟩
  · exact ⟨ps[i], List.mem_append_right _ (List.mem_singleton.2 rfl), .inr h⟩

theorem SolG.to {ps : List (List Nd × List Nd)} {i now q q' : Nat} {O O' : Int → Prop} {w : World} {sb mb n : Nat} {X : Nat → Prop} {f : Nat → CC} {lk : Nat → Option Nat} {d : Nat → Nat} {K : (Option Addr × Nat × Nat) → List Nat} {U : Int → Int → Option Nat} {D : DataW Value} {rt : List Nat} (h : SolG ps i now q O w sb mb n X f lk d K U D rt) (hq : q ≤ q') (hO : ∀ x, O x → O' x) : SolG ps i now q' O' w sb mb n X f lk d K U D rt :=
  ⟨h.stor, h.blk, h.loop, h.hist, h.num, h.plain, h.one, h.wf, h.seen, fun x c e => hO x (h.occ x c e), Nat.le_trans h.cnt hq, h.roots.1, Nat.le_trans h.roots.2 hq⟩

set_option maxRecDepth 20000 in
set_option maxHeartbeats 2000000 in
theorem newStore_S (ps : List (List Nd × List Nd)) (w : World) : Calls Tryz.prog 26 #[] w fun e w' => ∃ sb mb, e = .returned (.pointer (some ⟨sb, 0, none⟩)) ∧ w.heap.size ≤ sb ∧ w.heap.size ≤ mb ∧ SolG ps 0 0 0 (fun _ => False) w' sb mb 0 (fun _ => False) (fun _ => leafC Nd.zero 0) (fun _ => none) (fun _ => 0) (fun _ => []) (fun _ _ => none) (.map []) [] ∧ Below w.heap.size w w' := by
  have hmm := @run_makeMap Tryz.prog
  go_enter Tryz.func26, Tryz.ntmps26
  go_wp2
  go_ret
  have hb : Below w.heap.size w ((w.alloc (.map #[] 0)).alloc (.cells #[.map (some w.heap.size), .int .i64 0, .int .i64 0, .int .i64 0, .int .i64 0, .slice none 0 0] 96)) := ((Below.refl _ w).alloc (Nat.le_refl _) _).alloc (by simp) _
  have k1 : ((w.alloc (.map #[] 0)).alloc (.cells #[.map (some w.heap.size), .int .i64 0, .int .i64 0, .int .i64 0, .int .i64 0, .slice none 0 0] 96)).heap[w.heap.size + 1]? = some (.cells #[.map (some w.heap.size), .int .i64 0, .int .i64 0, .int .i64 0, .int .i64 0, .slice none 0 0] 96 (0, 0)) := by
    have h9 := heap_alloc_new (w.alloc (.map #[] 0)) (.cells #[.map (some w.heap.size), .int .i64 0, .int .i64 0, .int .i64 0, .int .i64 0, .slice none 0 0] 96)
    simpa using h9
  have hst : Stor ((w.alloc (.map #[] 0)).alloc (.cells #[.map (some w.heap.size), .int .i64 0, .int .i64 0, .int .i64 0, .int .i64 0, .slice none 0 0] 96)) (w.heap.size + 1) w.heap.size 0 ((0 : Nat) : Int) (fun _ => False) (fun _ => leafC Nd.zero 0) (fun _ => none) (fun _ => 0) (fun _ => []) (fun _ _ => none) (.map []) := by
    refine ⟨⟨⟨fun b h => h.elim, fun _ _ e => (by cases e)⟩, fun _ _ e => (by cases e), fun b h => h.elim, fun b h => h.elim, fun b h => h.elim, fun b h => h.elim, fun b h => h.elim⟩, ?_, ?_, fun h => h, (World.ownsMap_made w Tryz.prog 116 heldP).alloc _, UD.start, fun _ _ _ e => (by cases e), rfl⟩
    · rw [cell_of_row _ _ _ _ 96 (0, 0) k1]; rfl
    · rw [cell_of_row _ _ _ _ 96 (0, 0) k1]; rfl
  refine ⟨w.heap.size + 1, w.heap.size, rfl, by omega, Nat.le_refl _, ⟨hst, k1, LoopM.start (fun _ h => h) (fun _ => rfl) (fun _ => rfl), ⟨Int.le_refl _, ?_, ⟨fun _ => 0, ?_⟩, fun b _ h => h.elim, fun b _ h => h.elim, fun b h => h.elim, fun b h => h.elim⟩, ⟨fun x b r e => (by cases e), fun r h => h.elim⟩, fun r h => h.elim, fun l x c e => (by cases e), fun x c e => (by cases e), fun r h => h.elim, fun x c e => (by cases e), Nat.le_refl _, fun r h => h.elim, Nat.le_refl _⟩, hb⟩
  · intro i r
    have e : tdAt Classical.propDecidable (fun _ => False) (fun _ => leafC Nd.zero 0) ((0 : Nat) : Int) = fun _ => none := by
      funext b
      exact tdAt_none.2 fun h => h.elim
    rw [e]
  · intro a b e
    obtain ⟨h, _⟩ := tdAt_some.1 e
    exact h.elim

end Go.Proofs.YthioecjcnajmgaaGreatDoor
