import Derived.Test.YtoiiibplkhedcaaGreatDoorGJ
import Derived.Test.YtoiiibplkhedcaaGreatDoorGK
import Derived.Test.YtoiiibplkhedcaaGreatDoorGG
import Derived.Test.YtoiiibplkhedcaaGreatDoorGL
namespace Go.Proofs.YtoiiibplkhedcaaGreatDoor
open Go.RowKit
def mkF (f : Nat → CC) (sn : Nat → Int) : Nat → CC := fun i => { f i with sn := sn i }
def kidsT (K : (Option Addr × Nat × Nat) → List Nat) (f : Nat → CC) (t : Int) (h : Nat) : List Nat := if t < (f h).told then [] else K (f h).ks
def RestAt (w : World) (s : Option Addr × Nat × Nat) (l : List Nat) : Prop :=
  s.2.1 = l.length ∧ l.length ≤ 20000 ∧ l.length ≤ s.2.2 ∧ (l = [] ∨ ∃ g o cur, s.1 = some ⟨g, o, none⟩ ∧ w.heap[g]? = some (.cells cur 64 (0, 0)) ∧ ∀ i (h : i < l.length), cur[o + i]? = some (.pointer (some ⟨l[i], 0, none⟩)))
abbrev PSt := Nat × (Option Addr × Nat × Nat) × List Nat
def pstCells (P : List PSt) : List Value := P.flatMap fun x => [.pointer (some ⟨x.1, 0, none⟩), .slice x.2.1.1 x.2.1.2.1 x.2.1.2.2]
def SBlk (w : World) (sb mb : Nat) (now t I L : Int) (s : Option Addr × Nat × Nat) : Prop :=
  w.heap[sb]? = some (.cells #[.map (some mb), .int .i64 now, .int .i64 t, .int .i64 I, .int .i64 L, .slice s.1 s.2.1 s.2.2] 107 (0, 0))
theorem SBlk.cell {w : World} {sb mb : Nat} {now t I L : Int} {s : Option Addr × Nat × Nat} (h : SBlk w sb mb now t I L s) :
    w.cell? ⟨sb, 0, none⟩ = some (.map (some mb)) ∧ w.cell? ⟨sb, 1, none⟩ = some (.int .i64 now) ∧ w.cell? ⟨sb, 2, none⟩ = some (.int .i64 t) ∧ w.cell? ⟨sb, 3, none⟩ = some (.int .i64 I) ∧ w.cell? ⟨sb, 4, none⟩ = some (.int .i64 L) ∧ w.cell? ⟨sb, 5, none⟩ = some (.slice s.1 s.2.1 s.2.2) ∧ w.frozen? ⟨sb, 5, none⟩ = false ∧ sb < w.heap.size := by
  refine ⟨?_, ?_, ?_, ?_, ?_, ?_, frozen_of_row w sb 5 _ 107 h, (Array.getElem?_eq_some_iff.1 h).1⟩ <;> (rw [cell_of_row _ sb _ _ 107 (0, 0) h]; rfl)
theorem pstCells_append (P R : List PSt) : pstCells (P ++ R) = pstCells P ++ pstCells R := by simp [pstCells]
theorem pst_one (x : PSt) : ∀ u ∈ pstCells [x], u.oneCell' = true := by
  intro u hu
  simp only [pstCells, List.flatMap_cons, List.flatMap_nil, List.append_nil, List.mem_cons, List.not_mem_nil, or_false] at hu
  rcases hu with rfl | rfl <;> rfl
theorem pst_cells (w : World) (x : PSt) : ∀ j u, (pstCells [x])[j]? = some u → (w.alloc (.cells #[.pointer (some ⟨x.1, 0, none⟩), .slice x.2.1.1 x.2.1.2.1 x.2.1.2.2] 206)).cell? (Addr.add ⟨w.heap.size, 0, none⟩ j) = some u := by
  intro j u hj
  rw [add0, cell_of_row _ w.heap.size j _ 206 (0, 0) (heap_alloc_new _ _), ← hj]
  simp [pstCells]
theorem Tryz.infoSt : (Tryz.prog.info? 206).map (fun i => (i.zero, i.size, i.bytes)) = some (some (.agg #[.pointer none, .slice none 0 0]), 2, 32) := by kernel_rfl
def mark1 (sn : Nat → Int) (r : Nat) (v : Int) : Nat → Int := fun i => if i = r then v else sn i
theorem CellAt.remark {w : World} {b : Nat} {c : CC} {l : Option Nat} (h : CellAt w b c l) (v : Int) : CellAt (w.setCell ⟨b, 13, none⟩ (.int .i64 v)) b { c with sn := v } l := by
  have h9 := heap_setCell_same w b 13 _ 120 (.int .i64 v) h
  simpa [CellAt] using h9
theorem CSto.remark {w : World} {X : Nat → Prop} {f : Nat → CC} {sn : Nat → Int} {lk : Nat → Option Nat} {d : Nat → Nat} {K : (Option Addr × Nat × Nat) → List Nat} (h : CSto w X (mkF f sn) lk d K) {r : Nat} (hr : X r) (v : Int) : CSto (w.setCell ⟨r, 13, none⟩ (.int .i64 v)) X (mkF f (mark1 sn r v)) lk d K := by
  have hb : But (· = r) w (w.setCell ⟨r, 13, none⟩ (.int .i64 v)) := (But.refl (· = r) w).setCell (p := ⟨r, 13, none⟩) rfl _
  refine ⟨⟨fun b hb' => ?_, h.cells.link⟩, h.acyc, fun b hb' => (h.rows b hb').but (hb.mono (fun i e => e ▸ hr)), h.inX, h.arity, h.met, h.low⟩
  by_cases e : b = r
  · subst e
    have h9 := (h.cells.at' b hb').remark v
    simpa [mkF, mark1] using h9
  · have h9 := (h.cells.at' b hb').but hb e
    simpa [mkF, mark1, e] using h9
theorem RestAt.but {S : Nat → Prop} {w w' : World} {s : Option Addr × Nat × Nat} {l : List Nat} (h : RestAt w s l) (hb : But S w w') (hS : ∀ g, S g → ∀ cur, w.heap[g]? ≠ some (.cells cur 64 (0, 0))) : RestAt w' s l := by
  refine ⟨h.1, h.2.1, h.2.2.1, ?_⟩
  rcases h.2.2.2 with e | ⟨g, o, cur, h1, h2, h3⟩
  · exact .inl e
  · exact .inr ⟨g, o, cur, h1, (hb.block g (Array.getElem?_eq_some_iff.1 h2).1 (fun hs => hS g hs cur h2)).trans h2, h3⟩
structure WMem (w : World) (X : Nat → Prop) (f : Nat → CC) (sn : Nat → Int) (lk : Nat → Option Nat) (d : Nat → Nat) (K : (Option Addr × Nat × Nat) → List Nat) (sb mb : Nat) (now t I L : Int) (s : Option Addr × Nat × Nat) (P : List PSt) : Prop where
  sto : CSto w X (mkF f sn) lk d K
  blk : SBlk w sb mb now t I L s
  row : w.ownsRow 0 206 2 (.slice s.1 s.2.1 s.2.2) s.2.1 (pstCells P)
  len : P.length = s.2.1
  rest : ∀ x ∈ P, RestAt w x.2.1 x.2.2
section
variable {w : World} {X : Nat → Prop} {f : Nat → CC} {sn : Nat → Int} {lk : Nat → Option Nat} {d : Nat → Nat} {K : (Option Addr × Nat × Nat) → List Nat} {sb mb : Nat} {now t I L : Int} {s : Option Addr × Nat × Nat} {P : List PSt}
theorem WMem.sbX (h : WMem w X f sn lk d K sb mb now t I L s P) : ¬ X sb := by
  intro hx
  have h1 := h.sto.cells.at' sb hx
  have h2 := h.blk
  unfold CellAt at h1
  unfold SBlk at h2
  rw [h1] at h2
  simp at h2
theorem WMem.own (h : WMem w X f sn lk d K sb mb now t I L s P) {g : Nat} (hg : (Value.slice s.1 s.2.1 s.2.2).ownBlock = some g) : ∃ cur, w.heap[g]? = some (.cells cur 206 (0, 0)) := by
  rcases h.row.2 with ⟨e, _⟩ | ⟨g2, cap, cur, e, _, hh, _⟩
  · rw [e] at hg; cases hg
  · rw [e] at hg
    simp only [Value.ownBlock, Option.some.injEq] at hg
    subst hg
    exact ⟨cur, hh⟩
theorem WMem.ownX (h : WMem w X f sn lk d K sb mb now t I L s P) {g : Nat} (hg : (Value.slice s.1 s.2.1 s.2.2).ownBlock = some g) : ¬ X g ∧ g ≠ sb ∧ g < w.heap.size := by
  obtain ⟨cur, hc⟩ := h.own hg
  refine ⟨fun hx => ?_, fun e => ?_, (Array.getElem?_eq_some_iff.1 hc).1⟩
  · have h1 := h.sto.cells.at' g hx
    unfold CellAt at h1
    rw [h1] at hc
    simp at hc
  · have h2 := h.blk
    unfold SBlk at h2
    rw [← e, hc] at h2
    simp at h2
theorem owns_butV {S : Nat → Prop} {w w' : World} {B e size n : Nat} {v : Value} {xs : List Value} (h : w.ownsRow B e size v n xs) (hb : But S w w') (hS : ∀ g, v.ownBlock = some g → ¬ S g) : w'.ownsRow B e size v n xs := by
  rcases h.2 with ⟨e1, e2⟩ | ⟨g, cap, cur, e1, h2, h3, h4⟩
  · exact ⟨h.1, .inl ⟨e1, e2⟩⟩
  · refine ⟨h.1, .inr ⟨g, cap, cur, e1, h2, (hb.block g (Array.getElem?_eq_some_iff.1 h3).1 (hS g (by rw [e1]; rfl))).trans h3, h4⟩⟩
theorem WMem.still (h : WMem w X f sn lk d K sb mb now t I L s P) {w' : World} (hb : But (fun _ => False) w w') : WMem w' X f sn lk d K sb mb now t I L s P :=
  ⟨h.sto.still hb, (hb.block sb (Array.getElem?_eq_some_iff.1 h.blk).1 (fun h => h)).trans h.blk, owns_butV h.row hb (fun _ _ h => h), h.len, fun x hx => (h.rest x hx).but hb (fun _ h => h.elim)⟩
theorem WMem.mark (h : WMem w X f sn lk d K sb mb now t I L s P) {r : Nat} (hr : X r) (v : Int) : WMem (w.setCell ⟨r, 13, none⟩ (.int .i64 v)) X f (mark1 sn r v) lk d K sb mb now t I L s P := by
  have hb : But (· = r) w (w.setCell ⟨r, 13, none⟩ (.int .i64 v)) := (But.refl (· = r) w).setCell (p := ⟨r, 13, none⟩) rfl _
  refine ⟨h.sto.remark hr v, (hb.block sb (Array.getElem?_eq_some_iff.1 h.blk).1 (fun e => h.sbX (e ▸ hr))).trans h.blk, owns_butV h.row hb (fun g hg e => (h.ownX hg).1 (e ▸ hr)), h.len, fun x hx => (h.rest x hx).but hb (fun g e cur => ?_)⟩
  have h1 := h.sto.cells.at' r hr
  unfold CellAt at h1
  rw [e, h1]
  simp
theorem SBlk.path {w : World} {sb mb : Nat} {now t I L : Int} {s s' : Option Addr × Nat × Nat} (h : SBlk w sb mb now t I L s) : SBlk (w.setCell ⟨sb, 5, none⟩ (.slice s'.1 s'.2.1 s'.2.2)) sb mb now t I L s' := by
  have h9 := heap_setCell_same w sb 5 _ 107 (.slice s'.1 s'.2.1 s'.2.2) h
  simpa [SBlk] using h9
theorem WMem.setPath {w2 : World} {s' : Option Addr × Nat × Nat} {P' : List PSt} (hS : CSto w2 X (mkF f sn) lk d K) (hB : SBlk w2 sb mb now t I L s) (hsX : ¬ X sb) (hR : w2.ownsRow 0 206 2 (.slice s'.1 s'.2.1 s'.2.2) s'.2.1 (pstCells P')) (hl : P'.length = s'.2.1) (hr : ∀ x ∈ P', RestAt w2 x.2.1 x.2.2) (hne : (Value.slice s'.1 s'.2.1 s'.2.2).ownBlock ≠ some sb) : WMem (w2.setCell ⟨sb, 5, none⟩ (.slice s'.1 s'.2.1 s'.2.2)) X f sn lk d K sb mb now t I L s' P' := by
  have hb : But (· = sb) w2 (w2.setCell ⟨sb, 5, none⟩ (.slice s'.1 s'.2.1 s'.2.2)) := (But.refl (· = sb) w2).setCell (p := ⟨sb, 5, none⟩) rfl _
  have hty : ∀ cur, w2.heap[sb]? ≠ some (.cells cur 64 (0, 0)) := by
    intro cur e
    unfold SBlk at hB
    rw [hB] at e
    simp at e
  exact ⟨hS.aside hb hsX hty, hB.path, owns_butV hR hb (fun g hg e => hne (by rw [hg, e])), hl, fun x hx => (hr x hx).but hb (fun g e => by rw [e]; exact hty)⟩
theorem WMem.push (h : WMem w X f sn lk d K sb mb now t I L s P) {w1 w2 : World} (hb1 : Below w.heap.size w w1) {g2 c2 : Nat} {x : PSt} (hown : w2.ownsRow 0 206 2 (.slice (some ⟨g2, 0, none⟩) (s.2.1 + 1) c2) (s.2.1 + 1) (pstCells P ++ pstCells [x])) (hg : w1.grownBy w2 (Value.slice s.1 s.2.1 s.2.2).ownBlock) (hwh : (Value.slice s.1 s.2.1 s.2.2).ownBlock = some g2 ∨ w1.heap.size ≤ g2) (hx : RestAt w x.2.1 x.2.2) :
    WMem (w2.setCell ⟨sb, 5, none⟩ (.slice (some ⟨g2, 0, none⟩) (s.2.1 + 1) c2)) X f sn lk d K sb mb now t I L (some ⟨g2, 0, none⟩, s.2.1 + 1, c2) (P ++ [x]) := by
  have h1 := h.still (But.ofBelow (S := fun _ => False) hb1)
  have hx1 := hx.but (But.ofBelow (S := fun _ => False) hb1) (fun _ h => h.elim)
  have hbu : But (fun i => (Value.slice s.1 s.2.1 s.2.2).ownBlock = some i) w1 w2 := ⟨hg.os, hg.tape, hg.output, hg.size, fun i hi hne => hg.block i hi (fun e => hne e.symm)⟩
  have hsl : sb < w1.heap.size := (Array.getElem?_eq_some_iff.1 h1.blk).1
  have hty : ∀ g, (Value.slice s.1 s.2.1 s.2.2).ownBlock = some g → ∀ cur, w1.heap[g]? ≠ some (.cells cur 64 (0, 0)) := by
    intro g hg9 cur e
    obtain ⟨cur2, h2⟩ := h1.own hg9
    rw [h2] at e
    simp at e
  have hS2 : CSto w2 X (mkF f sn) lk d K := by
    cases ho : (Value.slice s.1 s.2.1 s.2.2).ownBlock with
    | none =>
      rw [ho] at hbu
      exact h1.sto.still (hbu.mono (fun i e => by cases e))
    | some g =>
      rw [ho] at hbu
      exact h1.sto.aside (eb := g) (hbu.mono (fun i e => by simp only [Option.some.injEq] at e; exact e.symm)) (h1.ownX ho).1 (hty g ho)
  refine WMem.setPath (s := s) (s' := (some ⟨g2, 0, none⟩, s.2.1 + 1, c2)) hS2 ((hbu.block sb hsl (fun e => (h1.ownX e).2.1 rfl)).trans h1.blk) h.sbX (by rw [pstCells_append]; exact hown) (by simp [h.len]) ?_ ?_
  · intro y hy
    rcases List.mem_append.1 hy with hy | hy
    · exact (h1.rest y hy).but hbu hty
    · simp only [List.mem_singleton] at hy
      subst hy
      exact hx1.but hbu hty
  · intro e
    simp only [Value.ownBlock, Option.some.injEq] at e
    rcases hwh with h9 | h9
    · exact (h1.ownX h9).2.1 e
    · omega
end
end Go.Proofs.YtoiiibplkhedcaaGreatDoor

namespace Go.Proofs.YtoiiibplkhedcaaGreatDoor
open Go.RowKit
def EntRes (X : Nat → Prop) (f : Nat → CC) (sn : Nat → Int) (lk : Nat → Option Nat) (d : Nat → Nat) (K : (Option Addr × Nat × Nat) → List Nat) (sb mb : Nat) (now t I L : Int) (s : Option Addr × Nat × Nat) (P : List PSt) (r : Nat) (w : World) (b : Bool) (w' : World) : Prop :=
  But (fun i => X i ∨ i = sb ∨ (Value.slice s.1 s.2.1 s.2.2).ownBlock = some i) w w' ∧
    ((sn r = I ∧ b = true ∧ WMem w' X f sn lk d K sb mb now t I L s P) ∨ (sn r ≠ I ∧ sn r = L ∧ b = false ∧ WMem w' X f sn lk d K sb mb now t I L s P) ∨
      (sn r ≠ I ∧ sn r ≠ L ∧ b = false ∧ ∃ s' x, WMem w' X f (mark1 sn r I) lk d K sb mb now t I L s' (P ++ [(r, x, kidsT K f t r)]) ∧ ((Value.slice s.1 s.2.1 s.2.2).ownBlock = (Value.slice s'.1 s'.2.1 s'.2.2).ownBlock ∨ ∃ g, (Value.slice s'.1 s'.2.1 s'.2.2).ownBlock = some g ∧ w.heap.size ≤ g)))
set_option maxRecDepth 20000 in
set_option maxHeartbeats 2000000 in
theorem enter_any (X : Nat → Prop) (f : Nat → CC) (sn : Nat → Int) (lk : Nat → Option Nat) (d dt : Nat → Nat) (K : (Option Addr × Nat × Nat) → List Nat) (sb mb : Nat) (now t I L : Int) (sa : Option Addr) (sl sc : Nat) (P : List PSt) (w : World) (hW : WMem w X f sn lk d K sb mb now t I L (sa, sl, sc) P) (hsl : sl ≤ 1000000) (HA : Hid (Acyc (tdAt X f t) dt)) (HI : Hid (∀ b j, X b → (f b).td = some j → X j)) (c r : Nat) (hX : X c) (hr : Hd (tdAt X f t) c r) (hXr : X r) :
    Calls Tryz.prog 112 #[.pointer (some ⟨sb, 2, none⟩), .pointer (some ⟨c, 0, none⟩)] w fun e w' => ∃ b, e = .returned (.bool b) ∧ EntRes X f sn lk d K sb mb now t I L (sa, sl, sc) P r w b w' := by
  obtain ⟨i0, hi, hz0, hz1, hz2⟩ := info_parts Tryz.infoSt
  obtain ⟨s0, s1, s2, s3, s4, s5, s6, s7⟩ := hW.blk.cell
  obtain ⟨a0, a1, a2, a3, a4, a5, a6, a7, a8, a9, a10, a11, a12, a13⟩ := (hW.sto.cells.at' r hXr).cell
  have fr := (hW.sto.cells.at' r hXr).frozen 13
  have hrl := (hW.sto.cells.at' r hXr).lt
  have hHE := headAt_any X (mkF f sn) lk t dt HA HI w hW.sto.cells c r hX hr
  have hsr : sb ≠ r := fun e => hW.sbX (e ▸ hXr)
  have hrs : r ≠ sb := fun e => hsr e.symm
  have HW : Hid (WMem w X f sn lk d K sb mb now t I L (sa, sl, sc) P) := hW
  simp only at s5
  have e13 : (mkF f sn r).sn = sn r := rfl
  have e7 : (mkF f sn r).told = (f r).told := rfl
  have e6 : (mkF f sn r).ks = (f r).ks := rfl
  rw [e13] at a13
  rw [e7] at a7
  rw [e6] at a6
  obtain ⟨ka, kl, kc, hks⟩ : ∃ a l c, (f r).ks = (a, l, c) := ⟨_, _, _, rfl⟩
  have HKS : Hid ((f r).ks = (ka, kl, kc)) := hks
  rw [hks] at a6
  simp only at a6
  have hStill : ∀ m, But (fun _ => False) w (w.drewN m) := fun m => (But.refl (fun _ => False) w).drewN m
  have HST : Hid (∀ m, WMem (w.drewN m) X f sn lk d K sb mb now t I L (sa, sl, sc) P ∧ ∀ S, But S w (w.drewN m)) := fun m => ⟨hW.still (hStill m), fun S => (But.refl S w).drewN m⟩
  clear hStill hW a0 a1 a2 a3 a4 a5 a8 a9 a10 a11 a12 e13 e7 e6 s0 s1
  go_enter Tryz.func112, Tryz.ntmps112
  go_wp2_with fail
  refine hHE.mono ?_
  rintro e w1 ⟨rfl, e9⟩
  obtain rfl : w = w1 := e9.symm
  clear hHE e9
  by_cases h1 : sn r = I
  · have H1 : Hid (sn r = I) := h1
    rw [h1] at a13
    clear h1
    go_wp2_with fail
    go_quiet (fail)
    go_wp2_with fail
    go_quiet (fail)
    go_wp2
    go_ret
    refine ⟨true, rfl, ?_⟩
    exact ⟨((HST.out _).2 _).drewN _, .inl ⟨H1.out, rfl, (HST.out _).1.still ((But.refl _ _).drewN _)⟩⟩
  · by_cases h2 : sn r = L
    · have H1 : Hid (sn r ≠ I) := h1
      have H2 : Hid (sn r = L) := h2
      rw [h2] at a13 h1
      have t1 : (L == I) = false := by simpa using h1
      clear h1 h2
      go_wp2_with fail
      go_quiet (fail)
      go_wp2_with fail
      go_quiet (fail)
      go_wp2
      go_ret
      refine ⟨false, ?_, ?_⟩
      · simp
      · exact ⟨((HST.out _).2 _).drewN _, .inr (.inl ⟨H1.out, H2.out, rfl, (HST.out _).1.still ((But.refl _ _).drewN _)⟩)⟩
    · have t1 : (sn r == I) = false := by simpa using h1
      have t2 : (sn r == L) = false := by simpa using h2
      have H1 : Hid (sn r ≠ I ∧ sn r ≠ L) := ⟨h1, h2⟩
      clear h1 h2
      go_wp2_with fail
      go_quiet (fail)
      obtain ⟨hM0, hB0⟩ := HST.out nq
      have hM1 := hM0.mark hXr I
      have HB1 : Hid (But (fun i => X i ∨ i = sb ∨ (Value.slice sa sl sc).ownBlock = some i) w ((w.drewN nq).setCell ⟨r, 13, none⟩ (.int .i64 I))) := (hB0 _).setCell (p := ⟨r, 13, none⟩) (.inl hXr) _
      have HROW : Hid (KidRow ((w.drewN nq).setCell ⟨r, 13, none⟩ (.int .i64 I)) X (ka, kl, kc) (K (f r).ks)) := by
        have h9 := hM1.sto.rows r hXr
        have e9 : (mkF f (mark1 sn r I) r).ks = (f r).ks := rfl
        rw [e9] at h9
        have h8 := HKS.out
        show KidRow _ X (ka, kl, kc) _
        rw [← h8]
        exact h9
      have b5 : (w.drewN nq).cell? ⟨sb, 5, none⟩ = some (.slice sa sl sc) := s5
      have b2 : (w.drewN nq).cell? ⟨sb, 2, none⟩ = some (.int .i64 t) := s2
      have b3 : (w.drewN nq).cell? ⟨sb, 3, none⟩ = some (.int .i64 I) := s3
      have d6 : (w.drewN nq).cell? ⟨r, 6, none⟩ = some (.slice ka kl kc) := a6
      have d7 : (w.drewN nq).cell? ⟨r, 7, none⟩ = some (.int .i64 (f r).told) := a7
      have d13 : (w.drewN nq).cell? ⟨r, 13, none⟩ = some (.int .i64 (sn r)) := a13
      have fr2 : (w.drewN nq).frozen? ⟨r, 13, none⟩ = false := fr
      have fs2 : (w.drewN nq).frozen? ⟨sb, 5, none⟩ = false := s6
      have hl1 : r < (w.drewN nq).heap.size := hrl
      have hl2 : sb < (w.drewN nq).heap.size := s7
      clear s2 s3 s4 s5 s6 s7 a6 a7 a13 fr hM0 hB0 HST hrl HW
      generalize w.drewN nq = W at *
      by_cases h3 : t < (f r).told
      · have t3 : decide ((f r).told > t) = true := decide_eq_true h3
        have HKT : Hid (kidsT K f t r = []) := if_pos h3
        clear h3
        go_wp2_with fail
        go_quiet (fail)
        have hM2 := hM1.still ((But.refl (fun _ => False) (W.setCell ⟨r, 13, none⟩ (.int .i64 I))).drewN nq)
        have HB2 := HB1.out.drewN nq
        have hx2 : RestAt ((W.setCell ⟨r, 13, none⟩ (.int .i64 I)).drewN nq) (none, 0, 0) (kidsT K f t r) := by
          rw [HKT.out]
          exact ⟨rfl, by simp, by simp, .inl rfl⟩
        obtain ⟨_, _, _, _, _, q5, q6, q7⟩ := hM2.blk.cell
        simp only at q5
        have HBB : Hid (But (fun i => X i ∨ i = sb ∨ (Value.slice sa sl sc).ownBlock = some i) w ((W.setCell ⟨r, 13, none⟩ (.int .i64 I)).drewN nq)) := HB2
        clear b2 b3 b5 d6 d7 d13 fr2 fs2 hl1 hl2 hM1 HB1 HROW HB2
        generalize (W.setCell ⟨r, 13, none⟩ (.int .i64 I)).drewN nq = W2 at *
        have hal : Below W2.heap.size W2 (W2.alloc (.cells #[.pointer (some ⟨r, 0, none⟩), .slice none 0 0] 206)) := (Below.refl _ W2).alloc (Nat.le_refl _) _
        go_wp2_with (at_builtin; refine wpList_append3 rfl (.tmp 65) (.tmp 69) 103 rfl 0 206 i0 _ 2 32 Tryz.underlying103 hi hz0 hz1 hz2 rfl (by decide) (.slice sa sl sc) sl _ rfl (hM2.row.alloc _) ⟨_, 0, none⟩ 1 1 (pstCells [(r, (none, 0, 0), kidsT K f t r)]) rfl rfl (pst_cells W2 (r, (none, 0, 0), kidsT K f t r)) (pst_one _) (by omega) ?a3 ?a4 (Nat.zero_le _) ?_)
        case a3 => unfold maxLen; omega
        case a4 => omega
        intro g5 c5 w5 hown5 hgrow5 hwh5
        have hM5 := hM2.push (x := (r, (none, 0, 0), kidsT K f t r)) hal hown5 hgrow5 (hwh5.imp id (fun h => by rw [World.size_alloc]; exact h)) hx2
        have hbu : But (fun i => (Value.slice sa sl sc).ownBlock = some i) W2 w5 := (But.ofBelow hal).trans ⟨hgrow5.os, hgrow5.tape, hgrow5.output, hgrow5.size, fun i hi hne => hgrow5.block i hi (fun e => hne e.symm)⟩
        have hB5 : SBlk w5 sb mb now t I L (sa, sl, sc) := (hbu.block sb q7 (fun e => (hM2.ownX e).2.1 rfl)).trans hM2.blk
        have HBF : Hid (But (fun i => X i ∨ i = sb ∨ (Value.slice sa sl sc).ownBlock = some i) w (w5.setCell ⟨sb, 5, none⟩ (.slice (some ⟨g5, 0, none⟩) (sl + 1) c5))) := (HBB.out.trans (hbu.mono (fun i e => .inr (.inr e)))).setCell (p := ⟨sb, 5, none⟩) (.inr (.inl rfl)) _
        have HWH : Hid ((Value.slice sa sl sc).ownBlock = some g5 ∨ w.heap.size ≤ g5) := hwh5.imp id (fun h => by have h8 := HBB.out.size; omega)
        obtain ⟨_, _, _, _, _, p5, p6, p7⟩ := hB5.cell
        simp only at p5
        clear hown5 hgrow5 hwh5 hM2 hbu hB5 HBB q5 q6 q7 hal hx2
        go_wp2
        go_ret
        refine .inl ⟨rfl, ?_⟩
        refine ⟨HBF.out, .inr (.inr ⟨H1.out.1, H1.out.2, rfl, (some ⟨g5, 0, none⟩, sl + 1, c5), (none, 0, 0), hM5, ?_⟩)⟩
        rcases HWH.out with h9 | h9
        · exact .inl h9
        · exact .inr ⟨g5, rfl, h9⟩
      · have t3 : decide ((f r).told > t) = false := decide_eq_false h3
        have HKT : Hid (kidsT K f t r = K (f r).ks) := if_neg h3
        clear h3
        go_wp2_with fail
        go_quiet (fail)
        have hM2 := hM1.still ((But.refl (fun _ => False) (W.setCell ⟨r, 13, none⟩ (.int .i64 I))).drewN nq)
        have HB2 := HB1.out.drewN nq
        have hx2 : RestAt ((W.setCell ⟨r, 13, none⟩ (.int .i64 I)).drewN nq) (ka, kl, kc) (kidsT K f t r) := by
          rw [HKT.out]
          obtain ⟨⟨r1, r2, r3⟩, r4⟩ := HROW.out.but ((But.refl X (W.setCell ⟨r, 13, none⟩ (.int .i64 I))).drewN nq)
          refine ⟨r1, r2, r3, ?_⟩
          rcases r4 with e9 | ⟨g9, cur9, u1, _, _, u4, u5⟩
          · exact .inl e9
          · exact .inr ⟨g9, 0, cur9, u1, u4, fun i h9 => by rw [Nat.zero_add]; exact u5 i h9⟩
        obtain ⟨_, _, _, _, _, q5, q6, q7⟩ := hM2.blk.cell
        simp only at q5
        have HBB : Hid (But (fun i => X i ∨ i = sb ∨ (Value.slice sa sl sc).ownBlock = some i) w ((W.setCell ⟨r, 13, none⟩ (.int .i64 I)).drewN nq)) := HB2
        clear b2 b3 b5 d6 d7 d13 fr2 fs2 hl1 hl2 hM1 HB1 HROW HB2
        generalize (W.setCell ⟨r, 13, none⟩ (.int .i64 I)).drewN nq = W2 at *
        have hal : Below W2.heap.size W2 (W2.alloc (.cells #[.pointer (some ⟨r, 0, none⟩), .slice ka kl kc] 206)) := (Below.refl _ W2).alloc (Nat.le_refl _) _
        go_wp2_with (at_builtin; refine wpList_append3 rfl (.tmp 65) (.tmp 69) 103 rfl 0 206 i0 _ 2 32 Tryz.underlying103 hi hz0 hz1 hz2 rfl (by decide) (.slice sa sl sc) sl _ rfl (hM2.row.alloc _) ⟨_, 0, none⟩ 1 1 (pstCells [(r, (ka, kl, kc), kidsT K f t r)]) rfl rfl (pst_cells W2 (r, (ka, kl, kc), kidsT K f t r)) (pst_one _) (by omega) ?a3 ?a4 (Nat.zero_le _) ?_)
        case a3 => unfold maxLen; omega
        case a4 => omega
        intro g5 c5 w5 hown5 hgrow5 hwh5
        have hM5 := hM2.push (x := (r, (ka, kl, kc), kidsT K f t r)) hal hown5 hgrow5 (hwh5.imp id (fun h => by rw [World.size_alloc]; exact h)) hx2
        have hbu : But (fun i => (Value.slice sa sl sc).ownBlock = some i) W2 w5 := (But.ofBelow hal).trans ⟨hgrow5.os, hgrow5.tape, hgrow5.output, hgrow5.size, fun i hi hne => hgrow5.block i hi (fun e => hne e.symm)⟩
        have hB5 : SBlk w5 sb mb now t I L (sa, sl, sc) := (hbu.block sb q7 (fun e => (hM2.ownX e).2.1 rfl)).trans hM2.blk
        have HBF : Hid (But (fun i => X i ∨ i = sb ∨ (Value.slice sa sl sc).ownBlock = some i) w (w5.setCell ⟨sb, 5, none⟩ (.slice (some ⟨g5, 0, none⟩) (sl + 1) c5))) := (HBB.out.trans (hbu.mono (fun i e => .inr (.inr e)))).setCell (p := ⟨sb, 5, none⟩) (.inr (.inl rfl)) _
        have HWH : Hid ((Value.slice sa sl sc).ownBlock = some g5 ∨ w.heap.size ≤ g5) := hwh5.imp id (fun h => by have h8 := HBB.out.size; omega)
        obtain ⟨_, _, _, _, _, p5, p6, p7⟩ := hB5.cell
        simp only at p5
        clear hown5 hgrow5 hwh5 hM2 hbu hB5 HBB q5 q6 q7 hal hx2
        go_wp2
        go_ret
        refine .inl ⟨rfl, ?_⟩
        refine ⟨HBF.out, .inr (.inr ⟨H1.out.1, H1.out.2, rfl, (some ⟨g5, 0, none⟩, sl + 1, c5), (ka, kl, kc), hM5, ?_⟩)⟩
        rcases HWH.out with h9 | h9
        · exact .inl h9
        · exact .inr ⟨g5, rfl, h9⟩
end Go.Proofs.YtoiiibplkhedcaaGreatDoor

namespace Go.Proofs.YtoiiibplkhedcaaGreatDoor
open Go.RowKit
theorem owns_set1 {w : World} {B e size g c n i : Nat} {xs : List Value} {v : Value} (h : w.ownsRow B e size (.slice (some ⟨g, 0, none⟩) n c) n xs) : (w.setCell ⟨g, i, none⟩ v).ownsRow B e size (.slice (some ⟨g, 0, none⟩) n c) n (xs.set i v) := by
  obtain ⟨hl, ho⟩ := h
  refine ⟨by simp [hl], Or.inr ?_⟩
  rcases ho with ⟨h', _⟩ | ⟨g2, cap2, cur, he, hb, hh, h1, h2, h3, htake⟩
  · cases h'
  · simp only [Value.slice.injEq, Option.some.injEq, Addr.mk.injEq, and_true, true_and] at he
    obtain ⟨rfl, rfl⟩ := he
    exact ⟨_, _, _, rfl, hb, heap_setCell_same _ g i _ e _ hh, h1, h2, by simp [h3], by rw [Array.toList_setIfInBounds, List.take_set, htake]⟩
theorem pstCells_length (P : List PSt) : (pstCells P).length = P.length * 2 := by
  induction P with
  | nil => rfl
  | cons x P ih =>
    have e : pstCells (x :: P) = pstCells [x] ++ pstCells P := by simp [pstCells]
    rw [e, List.length_append, ih, List.length_cons]
    simp [pstCells]
    omega
section
variable {w : World} {X : Nat → Prop} {f : Nat → CC} {sn : Nat → Int} {lk : Nat → Option Nat} {d : Nat → Nat} {K : (Option Addr × Nat × Nat) → List Nat} {sb mb : Nat} {now t I L : Int} {sa : Option Addr} {sl sc g : Nat} {P : List PSt} {x : PSt}
theorem WMem.top (h : WMem w X f sn lk d K sb mb now t I L (sa, sl, sc) (P ++ [x])) : ∃ g, sa = some ⟨g, 0, none⟩ ∧ sl = P.length + 1 ∧ sl ≤ sc ∧ w.cell? ⟨g, P.length * 2, none⟩ = some (.pointer (some ⟨x.1, 0, none⟩)) ∧ w.cell? ⟨g, P.length * 2 + 1, none⟩ = some (.slice x.2.1.1 x.2.1.2.1 x.2.1.2.2) ∧ w.frozen? ⟨g, P.length * 2 + 1, none⟩ = false ∧ g < w.heap.size ∧ g ≠ sb ∧ ¬ X g := by
  have hl := h.len
  simp only [List.length_append, List.length_singleton] at hl
  rcases h.row.2 with ⟨e, e2⟩ | ⟨g, cap, cur, e, hb, hh, h1, h2, h3, htake⟩
  · simp only at e2; omega
  · simp only [Value.slice.injEq] at e
    obtain ⟨e1, _, e3⟩ := e
    have hown := h.row
    simp only at hown e1 e3 h1
    rw [e1] at hown
    have hob := h.ownX (g := g) (by simp only; rw [e1]; rfl)
    have g0 := owns_at hown (P.length * 2) (by omega)
    have g1 := owns_at hown (P.length * 2 + 1) (by omega)
    rw [pstCells_append, List.getElem?_append_right (by rw [pstCells_length]; omega), pstCells_length] at g0 g1
    refine ⟨g, e1, hl.symm, by omega, ?_, ?_, frozen_of_row w g _ _ 206 hh, hob.2.2, hob.2.1, hob.1⟩
    · rw [g0, Nat.sub_self]; rfl
    · rw [g1, show P.length * 2 + 1 - P.length * 2 = 1 by omega]; rfl
theorem WMem.pop (h : WMem w X f sn lk d K sb mb now t I L (sa, sl, sc) (P ++ [x])) : WMem (w.setCell ⟨sb, 5, none⟩ (.slice sa (sl - 1) sc)) X f sn lk d K sb mb now t I L (sa, sl - 1, sc) P := by
  obtain ⟨g, rfl, hsl, _, _, _, _, _, hgs, _⟩ := h.top
  refine WMem.setPath (s := (some ⟨g, 0, none⟩, sl, sc)) (s' := (some ⟨g, 0, none⟩, sl - 1, sc)) h.sto h.blk h.sbX ?_ (by simp only; omega) (fun y hy => h.rest y (by simp [hy])) (fun e => ?_)
  · have h9 := owns_take h.row (sl - 1) (by simp only; omega)
    rw [pstCells_append] at h9
    have e9 : (pstCells P ++ pstCells [x]).take ((sl - 1) * 2) = pstCells P := by
      rw [List.take_append_of_le_length (by rw [pstCells_length]; omega), List.take_of_length_le (by rw [pstCells_length]; omega)]
    rw [e9] at h9
    exact h9
  · simp only [Value.ownBlock, Option.some.injEq] at e
    exact hgs e
theorem WMem.setRest (h : WMem w X f sn lk d K sb mb now t I L (some ⟨g, 0, none⟩, sl, sc) (P ++ [x])) {y : Option Addr × Nat × Nat} {rest : List Nat} (hy : RestAt w y rest) : WMem (w.setCell ⟨g, P.length * 2 + 1, none⟩ (.slice y.1 y.2.1 y.2.2)) X f sn lk d K sb mb now t I L (some ⟨g, 0, none⟩, sl, sc) (P ++ [(x.1, y, rest)]) := by
  obtain ⟨g', e, hsl, _, _, _, _, hgl, hgs, hgX⟩ := h.top
  simp only [Option.some.injEq, Addr.mk.injEq, and_true] at e
  subst e
  have hb : But (· = g) w (w.setCell ⟨g, P.length * 2 + 1, none⟩ (.slice y.1 y.2.1 y.2.2)) := (But.refl (· = g) w).setCell (p := ⟨g, P.length * 2 + 1, none⟩) rfl _
  obtain ⟨cur, hcur⟩ := h.own (g := g) rfl
  have hty : ∀ cur', w.heap[g]? ≠ some (.cells cur' 64 (0, 0)) := by
    intro cur' e
    rw [hcur] at e
    simp at e
  refine ⟨h.sto.aside hb hgX hty, (hb.block sb (Array.getElem?_eq_some_iff.1 h.blk).1 (fun e => hgs e.symm)).trans h.blk, ?_, by have := h.len; simpa using this, fun z hz => ?_⟩
  · have h9 := owns_set1 (i := P.length * 2 + 1) (v := .slice y.1 y.2.1 y.2.2) h.row
    have e9 : (pstCells (P ++ [x])).set (P.length * 2 + 1) (.slice y.1 y.2.1 y.2.2) = pstCells (P ++ [(x.1, y, rest)]) := by
      rw [pstCells_append, pstCells_append, List.set_append_right _ _ (by rw [pstCells_length]; omega), pstCells_length, show P.length * 2 + 1 - P.length * 2 = 1 by omega]
      rfl
    rw [e9] at h9
    exact h9
  · rcases List.mem_append.1 hz with hz | hz
    · exact (h.rest z (by simp [hz])).but hb (fun g9 e => by rw [e]; exact hty)
    · simp only [List.mem_singleton] at hz
      subst hz
      exact hy.but hb (fun g9 e => by rw [e]; exact hty)
end
theorem RestAt.tail {w : World} {so : Option Addr} {n c : Nat} {k : Nat} {l : List Nat} (h : RestAt w (so, n, c) (k :: l)) : ∃ g o, so = some ⟨g, o, none⟩ ∧ n = l.length + 1 ∧ n ≤ c ∧ g < w.heap.size ∧ w.cell? ⟨g, o, none⟩ = some (.pointer (some ⟨k, 0, none⟩)) ∧ ∀ so', (so' = some ⟨g, o + 1, none⟩ ∨ l = []) → RestAt w (so', n - 1, c - 1) l := by
  obtain ⟨h1, h2, h3, h4⟩ := h
  simp only [List.length_cons] at h1 h2 h3
  rcases h4 with e | ⟨g, o, cur, e, hc, hi⟩
  · cases e
  · simp only at e
    refine ⟨g, o, e, h1, by omega, (Array.getElem?_eq_some_iff.1 hc).1, ?_, fun so' hs => ⟨by simp only; omega, by omega, by simp only; omega, ?_⟩⟩
    · rw [cell_of_row _ _ _ _ 64 (0, 0) hc]
      have h9 := hi 0 (by simp)
      simpa using h9
    · rcases hs with hs | hs
      · refine .inr ⟨g, o + 1, cur, hs, hc, fun i hl => ?_⟩
        have h9 := hi (i + 1) (by simp; omega)
        rw [show o + 1 + i = o + (i + 1) by omega]
        simpa using h9
      · exact .inl hs
end Go.Proofs.YtoiiibplkhedcaaGreatDoor

namespace Go.Proofs.YtoiiibplkhedcaaGreatDoor
def pathOf (P : List PSt) : List (Nat × List Nat) := P.reverse.map fun x => (x.1, x.2.2)
structure WInv (X : Nat → Prop) (kids : Nat → List Nat) (hf : Nat → Nat) (I L : Int) (sn1 sn : Nat → Int) (P : List PSt) (closed : Bool) (r : Nat) : Prop where
  inX : ∀ x ∈ P, X x.1 ∧ ∀ k ∈ x.2.2, X k
  ins : ∀ b, X b → (sn b = I ↔ b ∈ P.map Prod.fst)
  nd : (P.map Prod.fst).Nodup
  keep : ∀ b, X b → sn1 b = L → sn b = L
  yes : closed = true → ∃ x, Downs kids hf r x ∧ Downs kids hf x x
  no : closed = false → PathOk kids hf (fun b => X b ∧ sn b = L) none (pathOf P) ∧ (∃ rk, LeftOk kids hf (fun b => X b ∧ sn b = L) rk) ∧ ((P.map Prod.fst).head? = some r ∨ (P = [] ∧ sn r = L))
  small : ∀ b, X b → sn b = I ∨ sn b = L ∨ sn b < I
def todo (xs : List Nat) (I L : Int) (sn : Nat → Int) (P : List PSt) : Nat := (xs.filter fun b => decide (sn b ≠ I ∧ sn b ≠ L)).length * 20002 + (P.map fun x => x.2.2.length + 1).sum
theorem pathOf_push (P : List PSt) (x : PSt) : pathOf (P ++ [x]) = (x.1, x.2.2) :: pathOf P := by simp [pathOf]
theorem filter_less {xs : List Nat} {p q : Nat → Bool} (hpq : ∀ b, q b = true → p b = true) {a : Nat} (ha : a ∈ xs) (h1 : p a = true) (h2 : q a = false) : (xs.filter q).length < (xs.filter p).length := by
  induction xs with
  | nil => simp at ha
  | cons b xs ih =>
    have hle : (xs.filter q).length ≤ (xs.filter p).length := by
      clear ih ha
      induction xs with
      | nil => simp
      | cons c xs ih2 =>
        by_cases hq : q c = true
        · simp [hq, hpq c hq, ih2]
        · by_cases hp : p c = true
          · simp only [List.filter_cons, hq, hp, if_true, List.length_cons]
            simp only [Bool.false_eq_true, if_false]
            omega
          · simp [hq, hp, ih2]
    rcases List.mem_cons.1 ha with rfl | ha
    · simp only [List.filter_cons, h1, h2, if_true, List.length_cons]
      simp only [Bool.false_eq_true, if_false]
      omega
    · have := ih ha
      by_cases hq : q b = true
      · simp [hq, hpq b hq, this]
      · by_cases hp : p b = true
        · simp only [List.filter_cons, hq, hp, if_true, List.length_cons]
          simp only [Bool.false_eq_true, if_false]
          omega
        · simp [hq, hp, this]
section
variable {X : Nat → Prop} {kids : Nat → List Nat} {hf : Nat → Nat} {I L : Int} {sn1 sn : Nat → Int} {P : List PSt} {r : Nat} {xs : List Nat}
theorem lf_push {q : Nat} (hIL : I ≠ L) (hq : sn q ≠ L) : (fun b => X b ∧ mark1 sn q I b = L) = (fun b => X b ∧ sn b = L) := by
  funext b
  unfold mark1
  by_cases e : b = q
  · subst e
    simp [hIL, hq]
  · simp [e]
theorem lf_pop {h : Nat} (hh : X h) : (fun b => X b ∧ mark1 sn h L b = L) = (fun b => (X b ∧ sn b = L) ∨ b = h) := by
  funext b
  unfold mark1
  by_cases e : b = h
  · subst e
    simp [hh]
  · simp [e]
theorem WInv.start (hIL : I < L) (hk : ∀ q, X q → ∀ k ∈ kids q, X k) (hsm : ∀ b, X b → sn1 b = L ∨ sn1 b < I) (hlf : ∃ rk, LeftOk kids hf (fun b => X b ∧ sn1 b = L) rk) (hr : X r) : (sn1 r = L → WInv X kids hf I L sn1 sn1 [] false r) ∧ (sn1 r ≠ L → ∀ z, WInv X kids hf I L sn1 (mark1 sn1 r I) [(r, z, kids r)] false r) := by
  have hni : ∀ b, X b → sn1 b ≠ I := fun b hb e => by rcases hsm b hb with h | h <;> omega
  refine ⟨fun e => ⟨by simp, fun b hb => ⟨fun h => absurd h (hni b hb), by simp⟩, by simp, fun _ _ h => h, (fun h => by cases h), fun _ => ⟨trivial, hlf, .inr ⟨rfl, e⟩⟩, fun b hb => by rcases hsm b hb with h | h; exact .inr (.inl h); exact .inr (.inr h)⟩, fun e z => ?_⟩
  refine ⟨by simp only [List.mem_singleton]; rintro x rfl; exact ⟨hr, hk r hr⟩, fun b hb => ?_, by simp, fun b hb h => ?_, (fun h => by cases h), fun _ => ?_, fun b hb => ?_⟩
  · unfold mark1
    by_cases e2 : b = r
    · subst e2; simp
    · simp [e2, hni b hb]
  · unfold mark1
    have : b ≠ r := fun e2 => e (e2 ▸ h)
    rw [if_neg this]
    exact h
  · rw [lf_push (by omega) e]
    refine ⟨⟨⟨[], rfl, by simp, (fun x e => by cases e)⟩, trivial⟩, hlf, .inl (by simp)⟩
  · unfold mark1
    split
    · exact .inl rfl
    · rcases hsm b hb with h | h
      · exact .inr (.inl h)
      · exact .inr (.inr h)
theorem WInv.pop {h : Nat} {y : Option Addr × Nat × Nat} (H : WInv X kids hf I L sn1 sn (P ++ [(h, y, [])]) false r) (hIL : I < L) : WInv X kids hf I L sn1 (mark1 sn h L) P false r ∧ todo xs I L (mark1 sn h L) P < todo xs I L sn (P ++ [(h, y, [])]) := by
  have hXh : X h := (H.inX (h, y, []) (by simp)).1
  have hnd := H.nd
  rw [List.map_append, List.nodup_append] at hnd
  have hhP : h ∉ P.map Prod.fst := fun hm => hnd.2.2 h hm h (by simp) rfl
  have hsh : sn h = I := (H.ins h hXh).2 (by simp)
  obtain ⟨p1, ⟨rk, p2⟩, p3⟩ := H.no rfl
  rw [pathOf_push] at p1
  refine ⟨⟨fun x hx' => H.inX x (by simp [hx']), fun b hb => ?_, hnd.1, fun b hb e => ?_, (fun h => by cases h), fun _ => ?_, fun b hb => ?_⟩, ?_⟩
  · have h9 := H.ins b hb
    unfold mark1
    by_cases e : b = h
    · subst e
      simp only [if_true]
      exact ⟨fun e2 => by omega, fun hm => absurd hm hhP⟩
    · rw [if_neg e, h9]
      simp [e]
  · unfold mark1
    split
    · rfl
    · exact H.keep b hb e
  · rw [lf_pop hXh]
    refine ⟨p1.pop, p2.pop p1 (fun hl => ?_), ?_⟩
    · have := hl.2
      omega
    · rcases p3 with p3 | p3
      · cases P with
        | nil =>
          simp only [List.nil_append, List.map_cons, List.map_nil, List.head?_cons, Option.some.injEq] at p3
          exact .inr ⟨rfl, by simp [mark1, p3]⟩
        | cons e P' => exact .inl (by simpa using p3)
      · exact absurd p3.1 (by simp)
  · unfold mark1
    split
    · exact .inr (.inl rfl)
    · exact H.small b hb
  · unfold todo
    have e9 : (xs.filter fun b => decide (mark1 sn h L b ≠ I ∧ mark1 sn h L b ≠ L)) = (xs.filter fun b => decide (sn b ≠ I ∧ sn b ≠ L)) := by
      apply List.filter_congr
      intro b _
      unfold mark1
      by_cases e : b = h
      · subst e; simp [hsh]
      · simp [e]
    rw [e9]
    simp
theorem WInv.skip {h k : Nat} {y z : Option Addr × Nat × Nat} {rest : List Nat} (H : WInv X kids hf I L sn1 sn (P ++ [(h, y, k :: rest)]) false r) (hk : sn (hf k) = L) (hX : X (hf k)) : WInv X kids hf I L sn1 sn (P ++ [(h, z, rest)]) false r ∧ todo xs I L sn (P ++ [(h, z, rest)]) < todo xs I L sn (P ++ [(h, y, k :: rest)]) := by
  obtain ⟨p1, p2, p3⟩ := H.no rfl
  rw [pathOf_push] at p1
  have hm : (P ++ [(h, z, rest)]).map Prod.fst = (P ++ [(h, y, k :: rest)]).map Prod.fst := by simp
  refine ⟨⟨fun x hx => ?_, by rw [hm]; exact H.ins, by rw [hm]; exact H.nd, H.keep, (fun h => by cases h), fun _ => ⟨?_, p2, .inl (by rw [hm]; exact p3.resolve_right fun h9 => by simp at h9)⟩, H.small⟩, ?_⟩
  · rcases List.mem_append.1 hx with hx | hx
    · exact H.inX x (by simp [hx])
    · simp only [List.mem_singleton] at hx
      subst hx
      have h9 := H.inX (h, y, k :: rest) (by simp)
      exact ⟨h9.1, fun j hj => h9.2 j (by simp [hj])⟩
  · rw [pathOf_push]
    exact p1.skip ⟨hX, hk⟩
  · unfold todo
    simp
theorem WInv.push {h k : Nat} {y z v : Option Addr × Nat × Nat} {rest : List Nat} (H : WInv X kids hf I L sn1 sn (P ++ [(h, y, k :: rest)]) false r) (hIL : I < L) (hX : X (hf k)) (hkX : ∀ j ∈ kids (hf k), X j) (hkl : (kids (hf k)).length ≤ 20000) (h1 : sn (hf k) ≠ I) (h2 : sn (hf k) ≠ L) (hx : ∀ b, X b → b ∈ xs) : WInv X kids hf I L sn1 (mark1 sn (hf k) I) (P ++ [(h, z, rest)] ++ [(hf k, v, kids (hf k))]) false r ∧ todo xs I L (mark1 sn (hf k) I) (P ++ [(h, z, rest)] ++ [(hf k, v, kids (hf k))]) < todo xs I L sn (P ++ [(h, y, k :: rest)]) := by
  obtain ⟨p1, p2, p3⟩ := H.no rfl
  rw [pathOf_push] at p1
  have hm : (P ++ [(h, z, rest)]).map Prod.fst = (P ++ [(h, y, k :: rest)]).map Prod.fst := by simp
  have hnm : hf k ∉ (P ++ [(h, y, k :: rest)]).map Prod.fst := fun e => h1 ((H.ins (hf k) hX).2 e)
  refine ⟨⟨fun x hx => ?_, fun b hb => ?_, ?_, fun b hb e => ?_, (fun h => by cases h), fun _ => ?_, fun b hb => ?_⟩, ?_⟩
  · rcases List.mem_append.1 hx with hx | hx
    · rcases List.mem_append.1 hx with hx | hx
      · exact H.inX x (by simp [hx])
      · simp only [List.mem_singleton] at hx
        subst hx
        have h9 := H.inX (h, y, k :: rest) (by simp)
        exact ⟨h9.1, fun j hj => h9.2 j (by simp [hj])⟩
    · simp only [List.mem_singleton] at hx
      subst hx
      exact ⟨hX, hkX⟩
  · rw [List.map_append, hm, List.mem_append]
    unfold mark1
    by_cases e : b = hf k
    · subst e
      simp
    · rw [if_neg e, H.ins b hb]
      simp [e]
  · rw [List.map_append, hm, List.nodup_append]
    refine ⟨H.nd, by simp, fun a ha b hb => ?_⟩
    simp only [List.map_cons, List.map_nil, List.mem_singleton] at hb
    subst hb
    exact fun e => hnm (e ▸ ha)
  · unfold mark1
    have h9 := H.keep b hb e
    have : b ≠ hf k := fun e2 => h2 (e2 ▸ h9)
    rw [if_neg this]
    exact h9
  · rw [lf_push (by omega) h2, pathOf_push, pathOf_push]
    refine ⟨p1.push, p2, ?_⟩
    have p4 := p3.resolve_right fun h9 => by simp at h9
    left
    rw [List.map_append, hm, List.head?_append, p4]
    rfl
  · unfold mark1
    split
    · exact .inl rfl
    · exact H.small b hb
  · unfold todo
    have h9 := filter_less (xs := xs) (p := fun b => decide (sn b ≠ I ∧ sn b ≠ L)) (q := fun b => decide (mark1 sn (hf k) I b ≠ I ∧ mark1 sn (hf k) I b ≠ L)) (fun b hb => ?_) (hx _ hX) (by simp [h1, h2]) (by simp [mark1])
    · simp only [List.map_append, List.sum_append, List.map_cons, List.map_nil, List.sum_cons, List.sum_nil, List.length_cons]
      omega
    · simp only [decide_eq_true_eq] at hb ⊢
      unfold mark1 at hb
      by_cases e : b = hf k
      · subst e; simp at hb
      · simpa [e] using hb
theorem WInv.circle {h k : Nat} {y z : Option Addr × Nat × Nat} {rest : List Nat} (H : WInv X kids hf I L sn1 sn (P ++ [(h, y, k :: rest)]) false r) (hk : sn (hf k) = I) (hX : X (hf k)) : WInv X kids hf I L sn1 sn (P ++ [(h, z, rest)]) true r := by
  obtain ⟨p1, p2, p3⟩ := H.no rfl
  rw [pathOf_push] at p1
  have hm : (P ++ [(h, z, rest)]).map Prod.fst = (P ++ [(h, y, k :: rest)]).map Prod.fst := by simp
  have hpath : ∀ {q : Nat}, q ∈ (P ++ [(h, y, k :: rest)]).map Prod.fst → q = h ∨ q ∈ (pathOf P).map Prod.fst := by
    intro q h9
    simp only [List.map_append, List.map_cons, List.map_nil, List.mem_append, List.mem_singleton] at h9
    rcases h9 with h9 | h9
    · right
      unfold pathOf
      simp only [List.map_map, List.mem_map, List.mem_reverse, Function.comp_apply]
      obtain ⟨a, ha, e⟩ := List.mem_map.1 h9
      exact ⟨a, ha, e⟩
    · exact .inl h9
  refine ⟨fun x hx => ?_, by rw [hm]; exact H.ins, by rw [hm]; exact H.nd, H.keep, fun _ => ⟨hf k, p1.reach (hpath (List.mem_of_head? (p3.resolve_right fun h9 => by simp at h9))), p1.circle (hpath ((H.ins (hf k) hX).1 hk))⟩, (fun h => by cases h), H.small⟩
  · rcases List.mem_append.1 hx with hx | hx
    · exact H.inX x (by simp [hx])
    · simp only [List.mem_singleton] at hx
      subst hx
      have h9 := H.inX (h, y, k :: rest) (by simp)
      exact ⟨h9.1, fun j hj => h9.2 j (by simp [hj])⟩
end
end Go.Proofs.YtoiiibplkhedcaaGreatDoor

namespace Go.Proofs.YtoiiibplkhedcaaGreatDoor
open Go.RowKit
def OwnNew (o0 : Option Nat) (z : Nat) (s : Option Addr × Nat × Nat) : Prop := (Value.slice s.1 s.2.1 s.2.2).ownBlock = o0 ∨ ∃ g, (Value.slice s.1 s.2.1 s.2.2).ownBlock = some g ∧ z ≤ g
def CLoop (X : Nat → Prop) (f : Nat → CC) (lk : Nat → Option Nat) (d : Nat → Nat) (K : (Option Addr × Nat × Nat) → List Nat) (hf : Nat → Nat) (xs : List Nat) (sb mb : Nat) (now t I L : Int) (sn1 : Nat → Int) (r : Nat) (o0 : Option Nat) (w : World) (v : Value) (wr : World) (n : Nat) : Prop :=
  ∃ (sn : Nat → Int) (sa : Option Addr) (sl sc : Nat) (P : List PSt) (closed : Bool), v = .bool closed ∧ WMem wr X f sn lk d K sb mb now t I L (sa, sl, sc) P ∧ WInv X (kidsT K f t) hf I L sn1 sn P closed r ∧ n = todo xs I L sn P ∧ But (fun i => X i ∨ i = sb ∨ o0 = some i) w wr ∧ OwnNew o0 w.heap.size (sa, sl, sc)
theorem but_own {X : Nat → Prop} {sb : Nat} {o0 : Option Nat} {w wr w' : World} {s : Option Addr × Nat × Nat} (h : But (fun i => X i ∨ i = sb ∨ o0 = some i) w wr) (ho : OwnNew o0 w.heap.size s) (hb : But (fun i => X i ∨ i = sb ∨ (Value.slice s.1 s.2.1 s.2.2).ownBlock = some i) wr w') : But (fun i => X i ∨ i = sb ∨ o0 = some i) w w' := by
  refine ⟨hb.os.trans h.os, hb.tape.trans h.tape, hb.output.trans h.output, Nat.le_trans h.size hb.size, fun i hi hne => ?_⟩
  have hs := h.size
  refine (hb.block i (by omega) (fun h9 => ?_)).trans (h.block i hi hne)
  rcases h9 with h9 | h9 | h9
  · exact hne (.inl h9)
  · exact hne (.inr (.inl h9))
  · rcases ho with ho | ⟨g, hg, hz⟩
    · rw [ho] at h9; exact hne (.inr (.inr h9))
    · rw [hg] at h9
      simp only [Option.some.injEq] at h9
      omega
theorem own_step {o0 : Option Nat} {z z' : Nat} {s s' : Option Addr × Nat × Nat} (ho : OwnNew o0 z s) (hz : z ≤ z') (h : (Value.slice s.1 s.2.1 s.2.2).ownBlock = (Value.slice s'.1 s'.2.1 s'.2.2).ownBlock ∨ ∃ g, (Value.slice s'.1 s'.2.1 s'.2.2).ownBlock = some g ∧ z' ≤ g) : OwnNew o0 z s' := by
  rcases h with h | ⟨g, hg, hl⟩
  · rcases ho with ho | ⟨g, hg, hl⟩
    · exact .inl (h.symm.trans ho)
    · exact .inr ⟨g, h.symm.trans hg, hl⟩
  · exact .inr ⟨g, hg, by omega⟩
set_option maxRecDepth 20000 in
set_option maxHeartbeats 4000000 in
theorem closes_any (X : Nat → Prop) (f : Nat → CC) (sn1 : Nat → Int) (lk : Nat → Option Nat) (d dt : Nat → Nat) (K : (Option Addr × Nat × Nat) → List Nat) (hf : Nat → Nat) (xs : List Nat) (sb mb : Nat) (now t I L : Int) (hIL : I < L) (sa : Option Addr) (sl sc : Nat) (w : World) (hW : WMem w X f sn1 lk d K sb mb now t I L (sa, sl, sc) []) (HA : Hid (Acyc (tdAt X f t) dt)) (HI : Hid (∀ b j, X b → (f b).td = some j → X j)) (HH : Hid (∀ k, Hd (tdAt X f t) k (hf k))) (HXH : Hid (∀ k, X k → X (hf k))) (HKX : Hid (∀ q, X q → (∀ k ∈ kidsT K f t q, X k) ∧ (kidsT K f t q).length ≤ 20000)) (HXS : Hid (∀ b, X b → b ∈ xs)) (hxs : xs.length ≤ 900000)
    (HSM : Hid (∀ b, X b → sn1 b = L ∨ sn1 b < I)) (HLF : Hid (∃ rk, LeftOk (kidsT K f t) hf (fun b => X b ∧ sn1 b = L) rk)) (c : Nat) (hX : X c) :
    Calls Tryz.prog 100 #[.pointer (some ⟨sb, 2, none⟩), .pointer (some ⟨c, 0, none⟩)] w fun e w' => ∃ b n, e = .returned (.bool b) ∧ CLoop X f lk d K hf xs sb mb now t I L sn1 (hf c) (Value.slice sa sl sc).ownBlock w (.bool b) w' n ∧ (b = false → ∃ sn sa sl sc, WMem w' X f sn lk d K sb mb now t I L (sa, sl, sc) [] ∧ WInv X (kidsT K f t) hf I L sn1 sn [] false (hf c)) := by
  obtain ⟨mu, hmu⟩ := mu_ex
  have hl0 : sl = 0 := by have := hW.len; simpa using this.symm
  have HEN := enter_any X f sn1 lk d dt K sb mb now t I L sa sl sc [] w hW (by omega) HA HI c (hf c) hX (HH.out c) (HXH.out c hX)
  have HST := WInv.start (kids := kidsT K f t) (hf := hf) (r := hf c) hIL (fun q hq => (HKX.out q hq).1) HSM.out HLF.out (HXH.out c hX)
  have hnI : sn1 (hf c) ≠ I := fun e => by rcases HSM.out (hf c) (HXH.out c hX) with h | h <;> omega
  clear hW
  go_enter Tryz.func100, Tryz.ntmps100
  go_wp2_with fail
  refine HEN.mono ?_
  rintro e w1 ⟨b, rfl, hB1, hres⟩
  have hC : ∃ n, CLoop X f lk d K hf xs sb mb now t I L sn1 (hf c) (Value.slice sa sl sc).ownBlock w (.bool b) w1 n := by
    rcases hres with ⟨h1, _⟩ | ⟨_, h2, rfl, hM⟩ | ⟨_, h2, rfl, ⟨s1, s2, s3⟩, x, hM, ho⟩
    · exact absurd h1 hnI
    · exact ⟨_, sn1, sa, sl, sc, [], false, rfl, hM, HST.1 h2, rfl, hB1, .inl rfl⟩
    · exact ⟨_, _, s1, s2, s3, _, false, rfl, hM, HST.2 h2 x, rfl, hB1, own_step (z' := w.heap.size) (.inl rfl) (Nat.le_refl _) ho⟩
  clear HEN HST hB1 hres hnI
  go_wp2
  go_loopw [5] (fun v wr => ∃ n, CLoop X f lk d K hf xs sb mb now t I L sn1 (hf c) (Value.slice sa sl sc).ownBlock w v wr n) (fun v wr => mu (fun n => CLoop X f lk d K hf xs sb mb now t I L sn1 (hf c) (Value.slice sa sl sc).ownBlock w v wr n))
  case atStart => exact hC
  case round =>
    clear hC
    obtain ⟨n1, hn1⟩ := hrel
    obtain ⟨hn, hle⟩ := hmu _ _ hn1
    clear hn1 hle
    obtain ⟨M, hM⟩ : ∃ M, mu (fun n => CLoop X f lk d K hf xs sb mb now t I L sn1 (hf c) (Value.slice sa sl sc).ownBlock w u5 wr n) = M := ⟨_, rfl⟩
    have HM : Hid (mu (fun n => CLoop X f lk d K hf xs sb mb now t I L sn1 (hf c) (Value.slice sa sl sc).ownBlock w u5 wr n) = M) := hM
    rw [hM] at hn
    clear hM
    have HC : Hid (CLoop X f lk d K hf xs sb mb now t I L sn1 (hf c) (Value.slice sa sl sc).ownBlock w u5 wr M) := hn
    obtain ⟨sn, sa1, sl1, sc1, P, closed, rfl, hW, hV, hn, hB, hO⟩ := hn
    obtain ⟨s0, s1, s2, s3, s4, s5, s6, s7⟩ := hW.blk.cell
    simp only at s5
    have hbl : P.length ≤ 900000 := by
      have h9 := List.Nodup.length_le_of_subset hV.nd (fun b hb => by
        obtain ⟨x, hx, rfl⟩ := List.mem_map.1 hb
        exact HXS.out _ (hV.inX x hx).1)
      simp only [List.length_map] at h9
      omega
    have hPl := hW.len
    simp only at hPl
    cases closed with
    | true =>
      clear hW hV hB hO HM
      go_wp2
      go_ret
      exact ⟨true, M, rfl, HC.out, fun h => by cases h⟩
    | false =>
      rcases List.eq_nil_or_concat P with rfl | ⟨P', x, rfl⟩
      · have hl9 : sl1 = 0 := by simpa using hPl.symm
        subst hl9
        have HFI : Hid (∃ sn sa sl sc, WMem wr X f sn lk d K sb mb now t I L (sa, sl, sc) [] ∧ WInv X (kidsT K f t) hf I L sn1 sn [] false (hf c)) := ⟨sn, sa1, 0, sc1, hW, hV⟩
        clear hW hV hB hO HM
        go_wp2
        go_ret
        exact ⟨false, M, rfl, HC.out, fun _ => HFI.out⟩
      · rw [List.concat_eq_append] at *
        obtain ⟨g, rfl, hsl1, hcap, t0, t1, tf, hgl, hgs, hgX⟩ := hW.top
        obtain ⟨h, ⟨ya, yl, yc⟩, rest⟩ := x
        simp only at t0 t1
        have hR := hW.rest (h, (ya, yl, yc), rest) (by simp)
        simp only at hR
        have hXh : X h := (hV.inX (h, (ya, yl, yc), rest) (by simp)).1
        obtain ⟨pl, hpl⟩ : ∃ pl, P'.length = pl := ⟨_, rfl⟩
        have HPL : Hid (P'.length = pl) := hpl
        rw [hpl] at t0 t1 tf hsl1
        subst hsl1
        have hplb : pl ≤ 900000 := by simp only [List.length_append, List.length_singleton] at hbl; omega
        go_wp2_with fail
        go_quiet (fail)
        have hW2 := hW.still ((But.refl (fun _ => False) wr).drewN nq)
        have hB2 := hB.drewN nq
        have hR2 := hR.but ((But.refl (fun _ => False) wr).drewN nq) (fun _ h => h.elim)
        obtain ⟨a0, a1, a2, a3, a4, a5, a6, a7, a8, a9, a10, a11, a12, a13⟩ := (hW2.sto.cells.at' h hXh).cell
        have fr := (hW2.sto.cells.at' h hXh).frozen 13
        have hhl := (hW2.sto.cells.at' h hXh).lt
        have hsh : sb ≠ h := fun e => hW2.sbX (e ▸ hXh)
        have hhs : h ≠ sb := fun e => hsh e.symm
        have hgh : g ≠ h := fun e => hgX (e ▸ hXh)
        have hhg : h ≠ g := fun e => hgh e.symm
        have hsg : sb ≠ g := fun e => hgs e.symm
        have b4 : (wr.drewN nq).cell? ⟨sb, 4, none⟩ = some (.int .i64 L) := s4
        have b5 : (wr.drewN nq).cell? ⟨sb, 5, none⟩ = some (.slice (some ⟨g, 0, none⟩) (pl + 1) sc1) := s5
        have bf : (wr.drewN nq).frozen? ⟨sb, 5, none⟩ = false := s6
        have bl : sb < (wr.drewN nq).heap.size := s7
        have d0 : (wr.drewN nq).cell? ⟨g, pl * 2, none⟩ = some (.pointer (some ⟨h, 0, none⟩)) := t0
        have d1 : (wr.drewN nq).cell? ⟨g, pl * 2 + 1, none⟩ = some (.slice ya yl yc) := t1
        have df : (wr.drewN nq).frozen? ⟨g, pl * 2 + 1, none⟩ = false := tf
        have dl : g < (wr.drewN nq).heap.size := hgl
        clear s0 s1 s2 s3 s4 s5 s6 s7 t0 t1 tf hgl hW hB hR a0 a1 a2 a3 a4 a5 a6 a7 a8 a9 a10 a11 a12 hPl
        generalize hWw : wr.drewN nq = W at *
        cases rest with
        | nil =>
          have hy0 : yl = 0 := by have := hR2.1; simpa using this
          subst hy0
          obtain ⟨hV2, hdec⟩ := hV.pop (xs := xs) hIL
          have hM3 := ((hW2.mark hXh L).pop)
          have hBw : But (fun i => X i ∨ i = sb ∨ (Value.slice sa sl sc).ownBlock = some i) w ((W.setCell ⟨h, 13, none⟩ (.int .i64 L)).setCell ⟨sb, 5, none⟩ (.slice (some ⟨g, 0, none⟩) pl sc1)).drew.drew := (((hB2.setCell (p := ⟨h, 13, none⟩) (.inl hXh) _).setCell (p := ⟨sb, 5, none⟩) (.inr (.inl rfl)) _).drew).drew
          have HNEXT : Hid (CLoop X f lk d K hf xs sb mb now t I L sn1 (hf c) (Value.slice sa sl sc).ownBlock w (.bool false) ((W.setCell ⟨h, 13, none⟩ (.int .i64 L)).setCell ⟨sb, 5, none⟩ (.slice (some ⟨g, 0, none⟩) pl sc1)).drew.drew (todo xs I L (mark1 sn h L) P')) :=
            ⟨_, some ⟨g, 0, none⟩, pl, sc1, P', false, rfl, hM3.still (((But.refl (fun _ => False) _).drew).drew), hV2, rfl, hBw, hO⟩
          have hdec2 : todo xs I L (mark1 sn h L) P' < M := by rw [hn]; exact hdec
          clear hR2 hV hW2 hM3 hV2 hB2 hBw hO hdec
          go_wp2_with fail
          go_region
          go_wp2_with fail
          go_region
          go_wp2
          go_roundw
          case rel => exact ⟨_, HNEXT.out⟩
          case measure =>
            refine Nat.lt_of_le_of_lt (hmu (fun n => CLoop X f lk d K hf xs sb mb now t I L sn1 (hf c) (Value.slice sa sl sc).ownBlock w (.bool false) _ n) _ HNEXT.out).2 ?_
            rw [← HM.out] at hdec2
            exact hdec2
        | cons k rest =>
          obtain ⟨gk, ok, rfl, hyl, hyc, hgkl, hkc, htail⟩ := hR2.tail
          have hXk : X k := (hV.inX (h, (some ⟨gk, ok, none⟩, yl, yc), k :: rest) (by simp)).2 k (by simp)
          have hXq := HXH.out k hXk
          have hrl : rest.length ≤ 20000 := by have := hR2.2.1; simp only [List.length_cons] at this; omega
          subst hyl
          obtain ⟨so', hso, hsod⟩ : ∃ so' : Option Addr, (so' = some ⟨gk, ok + 1, none⟩ ∨ rest = []) ∧ so' = (if yc = 1 then some ⟨gk, ok, none⟩ else some ⟨gk, ok + 1, none⟩) := by
            by_cases h9 : yc = 1
            · exact ⟨some ⟨gk, ok, none⟩, .inr (List.eq_nil_of_length_eq_zero (by omega)), by rw [if_pos h9]⟩
            · exact ⟨some ⟨gk, ok + 1, none⟩, .inl rfl, by rw [if_neg h9]⟩
          have hrest := htail so' hso
          have hM3 := hW2.setRest (y := (so', rest.length + 1 - 1, yc - 1)) hrest
          rw [hpl] at hM3
          simp only at hM3
          have HEN := enter_any X f sn lk d dt K sb mb now t I L _ _ _ _ _ hM3 (by omega) HA HI k (hf k) hXk (HH.out k) hXq
          have HNX : Hid (∀ w7 b', EntRes X f sn lk d K sb mb now t I L (some ⟨g, 0, none⟩, pl + 1, sc1) (P' ++ [(h, (so', rest.length + 1 - 1, yc - 1), rest)]) (hf k) (W.setCell ⟨g, pl * 2 + 1, none⟩ (.slice so' (rest.length + 1 - 1) (yc - 1))) b' w7 → ∃ n', n' < M ∧ CLoop X f lk d K hf xs sb mb now t I L sn1 (hf c) (Value.slice sa sl sc).ownBlock w (.bool b') w7 n') := by
            rintro w7 b' ⟨hb7, hres7⟩
            have hB3 : But (fun i => X i ∨ i = sb ∨ (Value.slice sa sl sc).ownBlock = some i) w (W.setCell ⟨g, pl * 2 + 1, none⟩ (.slice so' (rest.length + 1 - 1) (yc - 1))) :=
              but_own hB2 hO ((But.refl (fun i => X i ∨ i = sb ∨ (Value.slice (some ⟨g, 0, none⟩) (pl + 1) sc1).ownBlock = some i) W).setCell (p := ⟨g, pl * 2 + 1, none⟩) (.inr (.inr rfl)) _)
            have hB7 := but_own hB3 hO hb7
            rcases hres7 with ⟨h1, rfl, hM7⟩ | ⟨_, h2, rfl, hM7⟩ | ⟨h1, h2, rfl, ⟨s1, s2, s3⟩, x, hM7, ho⟩
            · have hV7 := hV.circle (z := (so', rest.length + 1 - 1, yc - 1)) h1 hXq
              refine ⟨_, ?_, sn, some ⟨g, 0, none⟩, pl + 1, sc1, _, true, rfl, hM7, hV7, rfl, hB7, hO⟩
              rw [hn]
              unfold todo
              simp
            · obtain ⟨hV7, hd⟩ := hV.skip (xs := xs) (z := (so', rest.length + 1 - 1, yc - 1)) h2 hXq
              exact ⟨_, by rw [hn]; exact hd, sn, some ⟨g, 0, none⟩, pl + 1, sc1, _, false, rfl, hM7, hV7, rfl, hB7, hO⟩
            · obtain ⟨hV7, hd⟩ := hV.push (xs := xs) (z := (so', rest.length + 1 - 1, yc - 1)) (v := x) hIL hXq (HKX.out _ hXq).1 (HKX.out _ hXq).2 h1 h2 HXS.out
              exact ⟨_, by rw [hn]; exact hd, _, s1, s2, s3, _, false, rfl, hM7, hV7, rfl, hB7, own_step hO (by have := hB3.size; exact this) ho⟩
          clear htail hso hrest hM3 hR2 hV hW2 hB2 hO hn
          by_cases h9 : yc = 1
          · rw [if_pos h9] at hsod
            subst hsod
            subst h9
            obtain rfl : rest = [] := List.eq_nil_of_length_eq_zero (by omega)
            go_wp2_with fail
            refine HEN.mono ?_
            rintro e w7 ⟨b', rfl, hres7⟩
            obtain ⟨n', hn', hC'⟩ := HNX.out w7 b' hres7
            clear HEN HNX hres7
            go_wp2
            go_roundw
            case rel => exact ⟨_, hC'⟩
            case measure =>
              refine Nat.lt_of_le_of_lt (hmu (fun n => CLoop X f lk d K hf xs sb mb now t I L sn1 (hf c) (Value.slice sa sl sc).ownBlock w (.bool b') _ n) _ hC').2 ?_
              rw [← HM.out] at hn'
              exact hn'
          · rw [if_neg h9] at hsod
            subst hsod
            rw [Nat.add_sub_cancel] at HEN HNX
            go_wp2_with fail
            refine HEN.mono ?_
            rintro e w7 ⟨b', rfl, hres7⟩
            obtain ⟨n', hn', hC'⟩ := HNX.out w7 b' hres7
            clear HEN HNX hres7
            go_wp2
            go_roundw
            case rel => exact ⟨_, hC'⟩
            case measure =>
              refine Nat.lt_of_le_of_lt (hmu (fun n => CLoop X f lk d K hf xs sb mb now t I L sn1 (hf c) (Value.slice sa sl sc).ownBlock w (.bool b') _ n) _ hC').2 ?_
              rw [← HM.out] at hn'
              exact hn'
end Go.Proofs.YtoiiibplkhedcaaGreatDoor
