import Derived.Test.YtahdmflbdmlfhaaGreatDoorWAK
import Derived.Test.YtahdmflbdmlfhaaGreatDoorWAP
namespace Go.Proofs.YtahdmflbdmlfhaaGreatDoor

open Go.RowKit

/-- What enter leaves. -/
def EntRes (X : Nat → Prop) (f : Nat → CC) (sn : Nat → Int) (lk : Nat → Option Nat) (d : Nat → Nat) (K : (Option Addr × Nat × Nat) → List Nat) (sb mb : Nat) (now t I L : Int) (s : Option Addr × Nat × Nat) (P : List PSt) (r : Nat) (w : World) (b : Bool) (w' : World) : Prop :=
  But (fun i => X i ∨ i = sb ∨ (Value.slice s.1 s.2.1 s.2.2).ownBlock = some i) w w' ∧
    ((sn r = I ∧ b = true ∧ WMem w' X f sn lk d K sb mb now t I L s P) ∨ (sn r ≠ I ∧ sn r = L ∧ b = false ∧ WMem w' X f sn lk d K sb mb now t I L s P) ∨
      (sn r ≠ I ∧ sn r ≠ L ∧ b = false ∧ ∃ s' x, WMem w' X f (mark1 sn r I) lk d K sb mb now t I L s' (P ++ [(r, x, kidsT K f t r)]) ∧ ((Value.slice s.1 s.2.1 s.2.2).ownBlock = (Value.slice s'.1 s'.2.1 s'.2.2).ownBlock ∨ ∃ g, (Value.slice s'.1 s'.2.1 s'.2.2).ownBlock = some g ∧ w.heap.size ≤ g)))

set_option maxRecDepth 20000 in
set_option maxHeartbeats 2000000 in
theorem enter_any (X : Nat → Prop) (f : Nat → CC) (sn : Nat → Int) (lk : Nat → Option Nat) (d dt : Nat → Nat) (K : (Option Addr × Nat × Nat) → List Nat) (sb mb : Nat) (now t I L : Int) (sa : Option Addr) (sl sc : Nat) (P : List PSt) (w : World) (hW : WMem w X f sn lk d K sb mb now t I L (sa, sl, sc) P) (hsl : sl ≤ 1000000) (HA : Hid (Acyc (tdAt Classical.propDecidable X f t) dt)) (HI : Hid (∀ b j, X b → (f b).td = some j → X j)) (c r : Nat) (hX : X c) (hr : Hd (tdAt Classical.propDecidable X f t) c r) (hXr : X r) :
    Calls Tryz.prog 87 #[.pointer (some ⟨sb, 2, none⟩), .pointer (some ⟨c, 0, none⟩)] w fun e w' => ∃ b, e = .returned (.bool b) ∧ EntRes X f sn lk d K sb mb now t I L (sa, sl, sc) P r w b w' := by
  obtain ⟨i0, hi, hz0, hz1, hz2⟩ := info_parts Tryz.infoSt
  obtain ⟨s0, s1, s2, s3, s4, s5, s6, s7⟩ := hW.blk.cell
  obtain ⟨a0, a1, a2, a3, a4, a5, a6, a7, a8, a9, a10, a11, a12, a13⟩ := (hW.sto.cells.at' r hXr).cell
  have fr := (hW.sto.cells.at' r hXr).frozen 13
  have hrl := (hW.sto.cells.at' r hXr).lt
  have hHE := headAt_any X (mkF f sn) lk t dt HA HI w hW.sto.cells c r hX hr
  have hsr : sb ≠ r := fun e => hW.sbX (e ▸ hXr)
  have hrs : r ≠ sb := fun e => hsr e.symm
  have HW : Hid (WMem w X f sn lk d K sb mb now t I L (sa, sl, sc) P) := hW
  simp only at s5
  have e13 : (mkF f sn r).sn = sn r := rfl
  have e7 : (mkF f sn r).told = (f r).told := rfl
  have e6 : (mkF f sn r).ks = (f r).ks := rfl
  rw [e13] at a13
  rw [e7] at a7
  rw [e6] at a6
  obtain ⟨ka, kl, kc, hks⟩ : ∃ a l c, (f r).ks = (a, l, c) := ⟨_, _, _, rfl⟩
  have HKS : Hid ((f r).ks = (ka, kl, kc)) := hks
  rw [hks] at a6
  simp only at a6
  have hStill : ∀ m, But (fun _ => False) w (w.drewN m) := fun m => (But.refl (fun _ => False) w).drewN m
  have HST : Hid (∀ m, WMem (w.drewN m) X f sn lk d K sb mb now t I L (sa, sl, sc) P ∧ ∀ S, But S w (w.drewN m)) := fun m => ⟨hW.still (hStill m), fun S => (But.refl S w).drewN m⟩
  clear hStill hW a0 a1 a2 a3 a4 a5 a8 a9 a10 a11 a12 e13 e7 e6 s0 s1
  go_enter Tryz.func87, Tryz.ntmps87
  go_wp2_with fail
  refine hHE.mono ?_
  rintro e w1 ⟨rfl, e9⟩
  obtain rfl : w = w1 := e9.symm
  clear hHE e9
  by_cases h1 : sn r = I
  · have H1 : Hid (sn r = I) := h1
    rw [h1] at a13
    clear h1
    go_wp2_with fail
    go_quiet (fail)
    go_wp2_with fail
    go_quiet (fail)
    go_wp2
    go_ret
    refine ⟨true, rfl, ?_⟩
    exact ⟨((HST.out _).2 _).drewN _, .inl ⟨H1.out, rfl, (HST.out _).1.still ((But.refl _ _).drewN _)⟩⟩
  · by_cases h2 : sn r = L
    · have H1 : Hid (sn r ≠ I) := h1
      have H2 : Hid (sn r = L) := h2
      rw [h2] at a13 h1
      have t1 : (L == I) = false := by simpa using h1
      clear h1 h2
      go_wp2_with fail
      go_quiet (fail)
      go_wp2_with fail
      go_quiet (fail)
      go_wp2
      go_ret
      refine ⟨false, ?_, ?_⟩
      · simp
      · exact ⟨((HST.out _).2 _).drewN _, .inr (.inl ⟨H1.out, H2.out, rfl, (HST.out _).1.still ((But.refl _ _).drewN _)⟩)⟩
    · have t1 : (sn r == I) = false := by simpa using h1
      have t2 : (sn r == L) = false := by simpa using h2
      have H1 : Hid (sn r ≠ I ∧ sn r ≠ L) := ⟨h1, h2⟩
      clear h1 h2
      go_wp2_with fail
      go_quiet (fail)
      obtain ⟨hM0, hB0⟩ := HST.out nq
      have hM1 := hM0.mark hXr I
      have HB1 : Hid (But (fun i => X i ∨ i = sb ∨ (Value.slice sa sl sc).ownBlock = some i) w ((w.drewN nq).setCell ⟨r, 13, none⟩ (.int .i64 I))) := (hB0 _).setCell (p := ⟨r, 13, none⟩) (.inl hXr) _
      have HROW : Hid (KidRow ((w.drewN nq).setCell ⟨r, 13, none⟩ (.int .i64 I)) X (ka, kl, kc) (K (f r).ks)) := by
        have h9 := hM1.sto.rows r hXr
        have e9 : (mkF f (mark1 sn r I) r).ks = (f r).ks := rfl
        rw [e9] at h9
        have h8 := HKS.out
        show KidRow _ X (ka, kl, kc) _
        rw [← h8]
        exact h9
      have b5 : (w.drewN nq).cell? ⟨sb, 5, none⟩ = some (.slice sa sl sc) := s5
      have b2 : (w.drewN nq).cell? ⟨sb, 2, none⟩ = some (.int .i64 t) := s2
      have b3 : (w.drewN nq).cell? ⟨sb, 3, none⟩ = some (.int .i64 I) := s3
      have d6 : (w.drewN nq).cell? ⟨r, 6, none⟩ = some (.slice ka kl kc) := a6
      have d7 : (w.drewN nq).cell? ⟨r, 7, none⟩ = some (.int .i64 (f r).told) := a7
      have d13 : (w.drewN nq).cell? ⟨r, 13, none⟩ = some (.int .i64 (sn r)) := a13
      have fr2 : (w.drewN nq).frozen? ⟨r, 13, none⟩ = false := fr
      have fs2 : (w.drewN nq).frozen? ⟨sb, 5, none⟩ = false := s6
      have hl1 : r < (w.drewN nq).heap.size := hrl
      have hl2 : sb < (w.drewN nq).heap.size := s7
      clear s2 s3 s4 s5 s6 s7 a6 a7 a13 fr hM0 hB0 HST hrl HW
      generalize w.drewN nq = W at *
      by_cases h3 : t < (f r).told
      · have t3 : decide ((f r).told > t) = true := decide_eq_true h3
        have HKT : Hid (kidsT K f t r = []) := if_pos h3
        clear h3
        go_wp2_with fail
        go_quiet (fail)
        have hM2 := hM1.still ((But.refl (fun _ => False) (W.setCell ⟨r, 13, none⟩ (.int .i64 I))).drewN nq)
        have HB2 := HB1.out.drewN nq
        have hx2 : RestAt ((W.setCell ⟨r, 13, none⟩ (.int .i64 I)).drewN nq) (none, 0, 0) (kidsT K f t r) := by
          rw [HKT.out]
          exact ⟨rfl, by simp, by simp, .inl rfl⟩
        obtain ⟨_, _, _, _, _, q5, q6, q7⟩ := hM2.blk.cell
        simp only at q5
        have HBB : Hid (But (fun i => X i ∨ i = sb ∨ (Value.slice sa sl sc).ownBlock = some i) w ((W.setCell ⟨r, 13, none⟩ (.int .i64 I)).drewN nq)) := HB2
        clear b2 b3 b5 d6 d7 d13 fr2 fs2 hl1 hl2 hM1 HB1 HROW HB2
        generalize (W.setCell ⟨r, 13, none⟩ (.int .i64 I)).drewN nq = W2 at *
        have hal : Below W2.heap.size W2 (W2.alloc (.cells #[.pointer (some ⟨r, 0, none⟩), .slice none 0 0] 183)) := (Below.refl _ W2).alloc (Nat.le_refl _) _
        go_wp2_with (at_builtin; refine wpList_append3 rfl (.tmp 65) (.tmp 69) 94 rfl 0 183 i0 _ 2 32 Tryz.underlying94 hi hz0 hz1 hz2 rfl (by decide) (.slice sa sl sc) sl _ rfl (hM2.row.alloc _) ⟨_, 0, none⟩ 1 1 (pstCells [(r, (none, 0, 0), kidsT K f t r)]) rfl rfl (pst_cells W2 (r, (none, 0, 0), kidsT K f t r)) (pst_one _) (by omega) ?a3 ?a4 (Nat.zero_le _) ?_)
        case a3 => unfold maxLen; omega
        case a4 => omega
        intro g5 c5 w5 hown5 hgrow5 hwh5
        have hM5 := hM2.push (x := (r, (none, 0, 0), kidsT K f t r)) hal hown5 hgrow5 (hwh5.imp id (fun h => by rw [World.size_alloc]; exact h)) hx2
        have hbu : But (fun i => (Value.slice sa sl sc).ownBlock = some i) W2 w5 := (But.ofBelow hal).trans ⟨hgrow5.os, hgrow5.tape, hgrow5.output, hgrow5.size, fun i hi hne => hgrow5.block i hi (fun e => hne e.symm)⟩
        have hB5 : SBlk w5 sb mb now t I L (sa, sl, sc) := (hbu.block sb q7 (fun e => (hM2.ownX e).2.1 rfl)).trans hM2.blk
        have HBF : Hid (But (fun i => X i ∨ i = sb ∨ (Value.slice sa sl sc).ownBlock = some i) w (w5.setCell ⟨sb, 5, none⟩ (.slice (some ⟨g5, 0, none⟩) (sl + 1) c5))) := (HBB.out.trans (hbu.mono (fun i e => .inr (.inr e)))).setCell (p := ⟨sb, 5, none⟩) (.inr (.inl rfl)) _
        have HWH : Hid ((Value.slice sa sl sc).ownBlock = some g5 ∨ w.heap.size ≤ g5) := hwh5.imp id (fun h => by have h8 := HBB.out.size; omega)
        obtain ⟨_, _, _, _, _, p5, p6, p7⟩ := hB5.cell
        simp only at p5
        clear hown5 hgrow5 hwh5 hM2 hbu hB5 HBB q5 q6 q7 hal hx2
        go_wp2
        go_ret
        refine .inl ⟨rfl, ?_⟩
        refine ⟨HBF.out, .inr (.inr ⟨H1.out.1, H1.out.2, rfl, (some ⟨g5, 0, none⟩, sl + 1, c5), (none, 0, 0), hM5, ?_⟩)⟩
        rcases HWH.out with h9 | h9
        · exact .inl h9
        · exact .inr ⟨g5, rfl, h9⟩
      · have t3 : decide ((f r).told > t) = false := decide_eq_false h3
        have HKT : Hid (kidsT K f t r = K (f r).ks) := if_neg h3
        clear h3
        go_wp2_with fail
        go_quiet (fail)
        have hM2 := hM1.still ((But.refl (fun _ => False) (W.setCell ⟨r, 13, none⟩ (.int .i64 I))).drewN nq)
        have HB2 := HB1.out.drewN nq
        have hx2 : RestAt ((W.setCell ⟨r, 13, none⟩ (.int .i64 I)).drewN nq) (ka, kl, kc) (kidsT K f t r) := by
          rw [HKT.out]
          obtain ⟨⟨r1, r2, r3⟩, r4⟩ := HROW.out.but ((But.refl X (W.setCell ⟨r, 13, none⟩ (.int .i64 I))).drewN nq)
          refine ⟨r1, r2, r3, ?_⟩
          rcases r4 with e9 | ⟨g9, cur9, u1, _, _, u4, u5⟩
          · exact .inl e9
          · exact .inr ⟨g9, 0, cur9, u1, u4, fun i h9 => by rw [Nat.zero_add]; exact u5 i h9⟩
        obtain ⟨_, _, _, _, _, q5, q6, q7⟩ := hM2.blk.cell
        simp only at q5
        have HBB : Hid (But (fun i => X i ∨ i = sb ∨ (Value.slice sa sl sc).ownBlock = some i) w ((W.setCell ⟨r, 13, none⟩ (.int .i64 I)).drewN nq)) := HB2
        clear b2 b3 b5 d6 d7 d13 fr2 fs2 hl1 hl2 hM1 HB1 HROW HB2
        generalize (W.setCell ⟨r, 13, none⟩ (.int .i64 I)).drewN nq = W2 at *
        have hal : Below W2.heap.size W2 (W2.alloc (.cells #[.pointer (some ⟨r, 0, none⟩), .slice ka kl kc] 183)) := (Below.refl _ W2).alloc (Nat.le_refl _) _
        go_wp2_with (at_builtin; refine wpList_append3 rfl (.tmp 65) (.tmp 69) 94 rfl 0 183 i0 _ 2 32 Tryz.underlying94 hi hz0 hz1 hz2 rfl (by decide) (.slice sa sl sc) sl _ rfl (hM2.row.alloc _) ⟨_, 0, none⟩ 1 1 (pstCells [(r, (ka, kl, kc), kidsT K f t r)]) rfl rfl (pst_cells W2 (r, (ka, kl, kc), kidsT K f t r)) (pst_one _) (by omega) ?a3 ?a4 (Nat.zero_le _) ?_)
        case a3 => unfold maxLen; omega
        case a4 => omega
        intro g5 c5 w5 hown5 hgrow5 hwh5
        have hM5 := hM2.push (x := (r, (ka, kl, kc), kidsT K f t r)) hal hown5 hgrow5 (hwh5.imp id (fun h => by rw [World.size_alloc]; exact h)) hx2
        have hbu : But (fun i => (Value.slice sa sl sc).ownBlock = some i) W2 w5 := (But.ofBelow hal).trans ⟨hgrow5.os, hgrow5.tape, hgrow5.output, hgrow5.size, fun i hi hne => hgrow5.block i hi (fun e => hne e.symm)⟩
        have hB5 : SBlk w5 sb mb now t I L (sa, sl, sc) := (hbu.block sb q7 (fun e => (hM2.ownX e).2.1 rfl)).trans hM2.blk
        have HBF : Hid (But (fun i => X i ∨ i = sb ∨ (Value.slice sa sl sc).ownBlock = some i) w (w5.setCell ⟨sb, 5, none⟩ (.slice (some ⟨g5, 0, none⟩) (sl + 1) c5))) := (HBB.out.trans (hbu.mono (fun i e => .inr (.inr e)))).setCell (p := ⟨sb, 5, none⟩) (.inr (.inl rfl)) _
        have HWH : Hid ((Value.slice sa sl sc).ownBlock = some g5 ∨ w.heap.size ≤ g5) := hwh5.imp id (fun h => by have h8 := HBB.out.size; omega)
        obtain ⟨_, _, _, _, _, p5, p6, p7⟩ := hB5.cell
        simp only at p5
        clear hown5 hgrow5 hwh5 hM2 hbu hB5 HBB q5 q6 q7 hal hx2
        go_wp2
        go_ret
        refine .inl ⟨rfl, ?_⟩
        refine ⟨HBF.out, .inr (.inr ⟨H1.out.1, H1.out.2, rfl, (some ⟨g5, 0, none⟩, sl + 1, c5), (ka, kl, kc), hM5, ?_⟩)⟩
        rcases HWH.out with h9 | h9
        · exact .inl h9
        · exact .inr ⟨g5, rfl, h9⟩

end Go.Proofs.YtahdmflbdmlfhaaGreatDoor

namespace Go.Proofs.YtahdmflbdmlfhaaGreatDoor
open Go.RowKit

theorem owns_set1 {w : World} {B e size g c n i : Nat} {xs : List Value} {v : Value} (h : w.ownsRow B e size (.slice (some ⟨g, 0, none⟩) n c) n xs) : (w.setCell ⟨g, i, none⟩ v).ownsRow B e size (.slice (some ⟨g, 0, none⟩) n c) n (xs.set i v) := by
  obtain ⟨hl, ho⟩ := h
  refine ⟨by simp [hl], Or.inr ?_⟩
  rcases ho with ⟨h', _⟩ | ⟨g2, cap2, cur, he, hb, hh, h1, h2, h3, htake⟩
  · cases h'
  · simp only [Value.slice.injEq, Option.some.injEq, Addr.mk.injEq, and_true, true_and] at he
    obtain ⟨rfl, rfl⟩ := he
    exact ⟨_, _, _, rfl, hb, heap_setCell_same _ g i _ e _ hh, h1, h2, by simp [h3], by rw [Array.toList_setIfInBounds, List.take_set, htake]⟩

theorem pstCells_length (P : List PSt) : (pstCells P).length = P.length * 2 := by
  induction P with
  | nil => rfl
  | cons x P ih =>
    have e : pstCells (x :: P) = pstCells [x] ++ pstCells P := by simp [pstCells]
    rw [e, List.length_append, ih, List.length_cons]
    simp [pstCells]
    omega

section
variable {w : World} {X : Nat → Prop} {f : Nat → CC} {sn : Nat → Int} {lk : Nat → Option Nat} {d : Nat → Nat} {K : (Option Addr × Nat × Nat) → List Nat} {sb mb : Nat} {now t I L : Int} {sa : Option Addr} {sl sc g : Nat} {P : List PSt} {x : PSt}

theorem WMem.top (h : WMem w X f sn lk d K sb mb now t I L (sa, sl, sc) (P ++ [x])) : ∃ g, sa = some ⟨g, 0, none⟩ ∧ sl = P.length + 1 ∧ sl ≤ sc ∧ w.cell? ⟨g, P.length * 2, none⟩ = some (.pointer (some ⟨x.1, 0, none⟩)) ∧ w.cell? ⟨g, P.length * 2 + 1, none⟩ = some (.slice x.2.1.1 x.2.1.2.1 x.2.1.2.2) ∧ w.frozen? ⟨g, P.length * 2 + 1, none⟩ = false ∧ g < w.heap.size ∧ g ≠ sb ∧ ¬ X g := by
  have hl := h.len
  simp only [List.length_append, List.length_singleton] at hl
  rcases h.row.2 with ⟨e, e2⟩ | ⟨g, cap, cur, e, hb, hh, h1, h2, h3, htake⟩
  · simp only at e2; omega
  · simp only [Value.slice.injEq] at e
    obtain ⟨e1, _, e3⟩ := e
    have hown := h.row
    simp only at hown e1 e3 h1
    rw [e1] at hown
    have hob := h.ownX (g := g) (by simp only; rw [e1]; rfl)
    have g0 := owns_at hown (P.length * 2) (by omega)
    have g1 := owns_at hown (P.length * 2 + 1) (by omega)
    rw [pstCells_append, List.getElem?_append_right (by rw [pstCells_length]; omega), pstCells_length] at g0 g1
    refine ⟨g, e1, hl.symm, by omega, ?_, ?_, frozen_of_row w g _ _ 183 hh, hob.2.2, hob.2.1, hob.1⟩
    · rw [g0, Nat.sub_self]; rfl
    · rw [g1, show P.length * 2 + 1 - P.length * 2 = 1 by omega]; rfl

theorem WMem.pop (h : WMem w X f sn lk d K sb mb now t I L (sa, sl, sc) (P ++ [x])) : WMem (w.setCell ⟨sb, 5, none⟩ (.slice sa (sl - 1) sc)) X f sn lk d K sb mb now t I L (sa, sl - 1, sc) P := by
  obtain ⟨g, rfl, hsl, _, _, _, _, _, hgs, _⟩ := h.top
  refine WMem.setPath (s := (some ⟨g, 0, none⟩, sl, sc)) (s' := (some ⟨g, 0, none⟩, sl - 1, sc)) h.sto h.blk h.sbX ?_ (by simp only; omega) (fun y hy => h.rest y (by simp [hy])) (fun e => ?_)
  · have h9 := owns_take h.row (sl - 1) (by simp only; omega)
    rw [pstCells_append] at h9
    have e9 : (pstCells P ++ pstCells [x]).take ((sl - 1) * 2) = pstCells P := by
      rw [List.take_append_of_le_length (by rw [pstCells_length]; omega), List.take_of_length_le (by rw [pstCells_length]; omega)]
    rw [e9] at h9
    exact h9
  · simp only [Value.ownBlock, Option.some.injEq] at e
    exact hgs e

theorem WMem.setRest (h : WMem w X f sn lk d K sb mb now t I L (some ⟨g, 0, none⟩, sl, sc) (P ++ [x])) {y : Option Addr × Nat × Nat} {rest : List Nat} (hy : RestAt w y rest) : WMem (w.setCell ⟨g, P.length * 2 + 1, none⟩ (.slice y.1 y.2.1 y.2.2)) X f sn lk d K sb mb now t I L (some ⟨g, 0, none⟩, sl, sc) (P ++ [(x.1, y, rest)]) := by
  obtain ⟨g', e, hsl, _, _, _, _, hgl, hgs, hgX⟩ := h.top
  simp only [Option.some.injEq, Addr.mk.injEq, and_true] at e
  subst e
  have hb : But (· = g) w (w.setCell ⟨g, P.length * 2 + 1, none⟩ (.slice y.1 y.2.1 y.2.2)) := (But.refl (· = g) w).setCell (p := ⟨g, P.length * 2 + 1, none⟩) rfl _
  obtain ⟨cur, hcur⟩ := h.own (g := g) rfl
  have hty : ∀ cur', w.heap[g]? ≠ some (.cells cur' 100 (0, 0)) := by
    intro cur' e
    rw [hcur] at e
    simp at e
  refine ⟨h.sto.aside hb hgX hty, (hb.block sb (Array.getElem?_eq_some_iff.1 h.blk).1 (fun e => hgs e.symm)).trans h.blk, ?_, by have := h.len; simpa using this, fun z hz => ?_⟩
  · have h9 := owns_set1 (i := P.length * 2 + 1) (v := .slice y.1 y.2.1 y.2.2) h.row
    have e9 : (pstCells (P ++ [x])).set (P.length * 2 + 1) (.slice y.1 y.2.1 y.2.2) = pstCells (P ++ [(x.1, y, rest)]) := by
      rw [pstCells_append, pstCells_append, List.set_append_right _ _ (by rw [pstCells_length]; omega), pstCells_length, show P.length * 2 + 1 - P.length * 2 = 1 by omega]
      rfl
    rw [e9] at h9
    exact h9
  · rcases List.mem_append.1 hz with hz | hz
    · exact (h.rest z (by simp [hz])).but hb (fun g9 e => by rw [e]; exact hty)
    · simp only [List.mem_singleton] at hz
      subst hz
      exact hy.but hb (fun g9 e => by rw [e]; exact hty)

end

theorem RestAt.tail {w : World} {so : Option Addr} {n c : Nat} {k : Nat} {l : List Nat} (h : RestAt w (so, n, c) (k :: l)) : ∃ g o, so = some ⟨g, o, none⟩ ∧ n = l.length + 1 ∧ n ≤ c ∧ g < w.heap.size ∧ w.cell? ⟨g, o, none⟩ = some (.pointer (some ⟨k, 0, none⟩)) ∧ ∀ so', (so' = some ⟨g, o + 1, none⟩ ∨ l = []) → RestAt w (so', n - 1, c - 1) l := by
  obtain ⟨h1, h2, h3, h4⟩ := h
  simp only [List.length_cons] at h1 h2 h3
  rcases h4 with e | ⟨g, o, cur, e, hc, hi⟩
  · cases e
  · simp only at e
    refine ⟨g, o, e, h1, by omega, (Array.getElem?_eq_some_iff.1 hc).1, ?_, fun so' hs => ⟨by simp only; omega, by omega, by simp only; omega, ?_⟩⟩
    · rw [cell_of_row _ _ _ _ 100 (0, 0) hc]
      have h9 := hi 0 (by simp)
      simpa using h9
    · rcases hs with hs | hs
      · refine .inr ⟨g, o + 1, cur, hs, hc, fun i hl => ?_⟩
        have h9 := hi (i + 1) (by simp; omega)
        rw [show o + 1 + i = o + (i + 1) by omega]
        simpa using h9
      · exact .inl hs

end Go.Proofs.YtahdmflbdmlfhaaGreatDoor

namespace Go.Proofs.YtahdmflbdmlfhaaGreatDoor

/-- The path of a walk, its top first. -/
def pathOf (P : List PSt) : List (Nat × List Nat) := P.reverse.map fun x => (x.1, x.2.2)

/-- The state of a walk: sn are the marks, P the path, r the head at which it began. -/
structure WInv (X : Nat → Prop) (kids : Nat → List Nat) (hf : Nat → Nat) (I L : Int) (sn1 sn : Nat → Int) (P : List PSt) (closed : Bool) (r : Nat) : Prop where
  inX : ∀ x ∈ P, X x.1 ∧ ∀ k ∈ x.2.2, X k
  ins : ∀ b, X b → (sn b = I ↔ b ∈ P.map Prod.fst)
  nd : (P.map Prod.fst).Nodup
  keep : ∀ b, X b → sn1 b = L → sn b = L
  yes : closed = true → ∃ x, Downs kids hf r x ∧ Downs kids hf x x
  no : closed = false → PathOk kids hf (fun b => X b ∧ sn b = L) none (pathOf P) ∧ (∃ rk, LeftOk kids hf (fun b => X b ∧ sn b = L) rk) ∧ ((P.map Prod.fst).head? = some r ∨ (P = [] ∧ sn r = L))
  small : ∀ b, X b → sn b = I ∨ sn b = L ∨ sn b < I

/-- How much there is to do. -/
def todo (xs : List Nat) (I L : Int) (sn : Nat → Int) (P : List PSt) : Nat := (xs.filter fun b => decide (sn b ≠ I ∧ sn b ≠ L)).length * 20002 + (P.map fun x => x.2.2.length + 1).sum

theorem pathOf_push (P : List PSt) (x : PSt) : pathOf (P ++ [x]) = (x.1, x.2.2) :: pathOf P := by simp [pathOf]

theorem filter_less {xs : List Nat} {p q : Nat → Bool} (hpq : ∀ b, q b = true → p b = true) {a : Nat} (ha : a ∈ xs) (h1 : p a = true) (h2 : q a = false) : (xs.filter q).length < (xs.filter p).length := by
  induction xs with
  | nil => simp at ha
  | cons b xs ih =>
    have hle : (xs.filter q).length ≤ (xs.filter p).length := by
      clear ih ha
      induction xs with
      | nil => simp
      | cons c xs ih2 =>
        by_cases hq : q c = true
        · simp [hq, hpq c hq, ih2]
        · by_cases hp : p c = true
          · simp only [List.filter_cons, hq, hp, if_true, List.length_cons]
            simp only [Bool.false_eq_true, if_false]
            omega
          · simp [hq, hp, ih2]
    rcases List.mem_cons.1 ha with rfl | ha
    · simp only [List.filter_cons, h1, h2, if_true, List.length_cons]
      simp only [Bool.false_eq_true, if_false]
      omega
    · have := ih ha
      by_cases hq : q b = true
      · simp [hq, hpq b hq, this]
      · by_cases hp : p b = true
        · simp only [List.filter_cons, hq, hp, if_true, List.length_cons]
          simp only [Bool.false_eq_true, if_false]
          omega
        · simp [hq, hp, this]

section
variable {X : Nat → Prop} {kids : Nat → List Nat} {hf : Nat → Nat} {I L : Int} {sn1 sn : Nat → Int} {P : List PSt} {r : Nat} {xs : List Nat}

theorem lf_push {q : Nat} (hIL : I ≠ L) (hq : sn q ≠ L) : (fun b => X b ∧ mark1 sn q I b = L) = (fun b => X b ∧ sn b = L) := by
  funext b
  unfold mark1
  by_cases e : b = q
  · subst e
    simp [hIL, hq]
  · simp [e]

theorem lf_pop {h : Nat} (hh : X h) : (fun b => X b ∧ mark1 sn h L b = L) = (fun b => (X b ∧ sn b = L) ∨ b = h) := by
  funext b
  unfold mark1
  by_cases e : b = h
  · subst e
    simp [hh]
  · simp [e]

theorem WInv.start (hIL : I < L) (hk : ∀ q, X q → ∀ k ∈ kids q, X k) (hsm : ∀ b, X b → sn1 b = L ∨ sn1 b < I) (hlf : ∃ rk, LeftOk kids hf (fun b => X b ∧ sn1 b = L) rk) (hr : X r) : (sn1 r = L → WInv X kids hf I L sn1 sn1 [] false r) ∧ (sn1 r ≠ L → ∀ z, WInv X kids hf I L sn1 (mark1 sn1 r I) [(r, z, kids r)] false r) := by
  have hni : ∀ b, X b → sn1 b ≠ I := fun b hb e => by rcases hsm b hb with h | h <;> omega
  refine ⟨fun e => ⟨by simp, fun b hb => ⟨fun h => absurd h (hni b hb), by simp⟩, by simp, fun _ _ h => h, (fun h => by cases h), fun _ => ⟨trivial, hlf, .inr ⟨rfl, e⟩⟩, fun b hb => by rcases hsm b hb with h | h; exact .inr (.inl h); exact .inr (.inr h)⟩, fun e z => ?_⟩
  refine ⟨by simp only [List.mem_singleton]; rintro x rfl; exact ⟨hr, hk r hr⟩, fun b hb => ?_, by simp, fun b hb h => ?_, (fun h => by cases h), fun _ => ?_, fun b hb => ?_⟩
  · unfold mark1
    by_cases e2 : b = r
    · subst e2; simp
    · simp [e2, hni b hb]
  · unfold mark1
    have : b ≠ r := fun e2 => e (e2 ▸ h)
    rw [if_neg this]
    exact h
  · rw [lf_push (by omega) e]
    refine ⟨⟨⟨[], rfl, by simp, (fun x e => by cases e)⟩, trivial⟩, hlf, .inl (by simp)⟩
  · unfold mark1
    split
    · exact .inl rfl
    · rcases hsm b hb with h | h
      · exact .inr (.inl h)
      · exact .inr (.inr h)

theorem WInv.pop {h : Nat} {y : Option Addr × Nat × Nat} (H : WInv X kids hf I L sn1 sn (P ++ [(h, y, [])]) false r) (hIL : I < L) : WInv X kids hf I L sn1 (mark1 sn h L) P false r ∧ todo xs I L (mark1 sn h L) P < todo xs I L sn (P ++ [(h, y, [])]) := by
  have hXh : X h := (H.inX (h, y, []) (by simp)).1
  have hnd := H.nd
  rw [List.map_append, List.nodup_append] at hnd
  have hhP : h ∉ P.map Prod.fst := fun hm => hnd.2.2 h hm h (by simp) rfl
  have hsh : sn h = I := (H.ins h hXh).2 (by simp)
  obtain ⟨p1, ⟨rk, p2⟩, p3⟩ := H.no rfl
  rw [pathOf_push] at p1
  refine ⟨⟨fun x hx' => H.inX x (by simp [hx']), fun b hb => ?_, hnd.1, fun b hb e => ?_, (fun h => by cases h), fun _ => ?_, fun b hb => ?_⟩, ?_⟩
  · have h9 := H.ins b hb
    unfold mark1
    by_cases e : b = h
    · subst e
      simp only [if_true]
      exact ⟨fun e2 => by omega, fun hm => absurd hm hhP⟩
    · rw [if_neg e, h9]
      simp [e]
  · unfold mark1
    split
    · rfl
    · exact H.keep b hb e
  · rw [lf_pop hXh]
    refine ⟨p1.pop, p2.pop p1 (fun hl => ?_), ?_⟩
    · have := hl.2
      omega
    · rcases p3 with p3 | p3
      · cases P with
        | nil =>
          simp only [List.nil_append, List.map_cons, List.map_nil, List.head?_cons, Option.some.injEq] at p3
          exact .inr ⟨rfl, by simp [mark1, p3]⟩
        | cons e P' => exact .inl (by simpa using p3)
      · exact absurd p3.1 (by simp)
  · unfold mark1
    split
    · exact .inr (.inl rfl)
    · exact H.small b hb
  · unfold todo
    have e9 : (xs.filter fun b => decide (mark1 sn h L b ≠ I ∧ mark1 sn h L b ≠ L)) = (xs.filter fun b => decide (sn b ≠ I ∧ sn b ≠ L)) := by
      apply List.filter_congr
      intro b _
      unfold mark1
      by_cases e : b = h
      · subst e; simp [hsh]
      · simp [e]
    rw [e9]
    simp

theorem WInv.skip {h k : Nat} {y z : Option Addr × Nat × Nat} {rest : List Nat} (H : WInv X kids hf I L sn1 sn (P ++ [(h, y, k :: rest)]) false r) (hk : sn (hf k) = L) (hX : X (hf k)) : WInv X kids hf I L sn1 sn (P ++ [(h, z, rest)]) false r ∧ todo xs I L sn (P ++ [(h, z, rest)]) < todo xs I L sn (P ++ [(h, y, k :: rest)]) := by
  obtain ⟨p1, p2, p3⟩ := H.no rfl
  rw [pathOf_push] at p1
  have hm : (P ++ [(h, z, rest)]).map Prod.fst = (P ++ [(h, y, k :: rest)]).map Prod.fst := by simp
  refine ⟨⟨fun x hx => ?_, by rw [hm]; exact H.ins, by rw [hm]; exact H.nd, H.keep, (fun h => by cases h), fun _ => ⟨?_, p2, .inl (by rw [hm]; exact p3.resolve_right fun h9 => by simp at h9)⟩, H.small⟩, ?_⟩
  · rcases List.mem_append.1 hx with hx | hx
    · exact H.inX x (by simp [hx])
    · simp only [List.mem_singleton] at hx
      subst hx
      have h9 := H.inX (h, y, k :: rest) (by simp)
      exact ⟨h9.1, fun j hj => h9.2 j (by simp [hj])⟩
  · rw [pathOf_push]
    exact p1.skip ⟨hX, hk⟩
  · unfold todo
    simp

theorem WInv.push {h k : Nat} {y z v : Option Addr × Nat × Nat} {rest : List Nat} (H : WInv X kids hf I L sn1 sn (P ++ [(h, y, k :: rest)]) false r) (hIL : I < L) (hX : X (hf k)) (hkX : ∀ j ∈ kids (hf k), X j) (hkl : (kids (hf k)).length ≤ 20000) (h1 : sn (hf k) ≠ I) (h2 : sn (hf k) ≠ L) (hx : ∀ b, X b → b ∈ xs) : WInv X kids hf I L sn1 (mark1 sn (hf k) I) (P ++ [(h, z, rest)] ++ [(hf k, v, kids (hf k))]) false r ∧ todo xs I L (mark1 sn (hf k) I) (P ++ [(h, z, rest)] ++ [(hf k, v, kids (hf k))]) < todo xs I L sn (P ++ [(h, y, k :: rest)]) := by
  obtain ⟨p1, p2, p3⟩ := H.no rfl
  rw [pathOf_push] at p1
  have hm : (P ++ [(h, z, rest)]).map Prod.fst = (P ++ [(h, y, k :: rest)]).map Prod.fst := by simp
  have hnm : hf k ∉ (P ++ [(h, y, k :: rest)]).map Prod.fst := fun e => h1 ((H.ins (hf k) hX).2 e)
  refine ⟨⟨fun x hx => ?_, fun b hb => ?_, ?_, fun b hb e => ?_, (fun h => by cases h), fun _ => ?_, fun b hb => ?_⟩, ?_⟩
  · rcases List.mem_append.1 hx with hx | hx
    · rcases List.mem_append.1 hx with hx | hx
      · exact H.inX x (by simp [hx])
      · simp only [List.mem_singleton] at hx
        subst hx
        have h9 := H.inX (h, y, k :: rest) (by simp)
        exact ⟨h9.1, fun j hj => h9.2 j (by simp [hj])⟩
    · simp only [List.mem_singleton] at hx
      subst hx
      exact ⟨hX, hkX⟩
  · rw [List.map_append, hm, List.mem_append]
    unfold mark1
    by_cases e : b = hf k
    · subst e
      simp
    · rw [if_neg e, H.ins b hb]
      simp [e]
  · rw [List.map_append, hm, List.nodup_append]
    refine ⟨H.nd, by simp, fun a ha b hb => ?_⟩
    simp only [List.map_cons, List.map_nil, List.mem_singleton] at hb
    subst hb
    exact fun e => hnm (e ▸ ha)
  · unfold mark1
    have h9 := H.keep b hb e
    have : b ≠ hf k := fun e2 => h2 (e2 ▸ h9)
    rw [if_neg this]
    exact h9
  · rw [lf_push (by omega) h2, pathOf_push, pathOf_push]
    refine ⟨p1.push, p2, ?_⟩
    have p4 := p3.resolve_right fun h9 => by simp at h9
    left
    rw [List.map_append, hm, List.head?_append, p4]
    rfl
  · unfold mark1
    split
    · exact .inl rfl
    · exact H.small b hb
  · unfold todo
    have h9 := filter_less (xs := xs) (p := fun b => decide (sn b ≠ I ∧ sn b ≠ L)) (q := fun b => decide (mark1 sn (hf k) I b ≠ I ∧ mark1 sn (hf k) I b ≠ L)) (fun b hb => ?_) (hx _ hX) (by simp [h1, h2]) (by simp [mark1])
    · simp only [List.map_append, List.sum_append, List.map_cons, List.map_nil, List.sum_cons, List.sum_nil, List.length_cons]
      omega
    · simp only [decide_eq_true_eq] at hb ⊢
      unfold mark1 at hb
      by_cases e : b = hf k
      · subst e; simp at hb
      · simpa [e] using hb

theorem WInv.circle {h k : Nat} {y z : Option Addr × Nat × Nat} {rest : List Nat} (H : WInv X kids hf I L sn1 sn (P ++ [(h, y, k :: rest)]) false r) (hk : sn (hf k) = I) (hX : X (hf k)) : WInv X kids hf I L sn1 sn (P ++ [(h, z, rest)]) true r := by
  obtain ⟨p1, p2, p3⟩ := H.no rfl
  rw [pathOf_push] at p1
  have hm : (P ++ [(h, z, rest)]).map Prod.fst = (P ++ [(h, y, k :: rest)]).map Prod.fst := by simp
  have hpath : ∀ {q : Nat}, q ∈ (P ++ [(h, y, k :: rest)]).map Prod.fst → q = h ∨ q ∈ (pathOf P).map Prod.fst := by
    intro q h9
    simp only [List.map_append, List.map_cons, List.map_nil, List.mem_append, List.mem_singleton] at h9
    rcases h9 with h9 | h9
    · right
      unfold pathOf
      simp only [List.map_map, List.mem_map, List.mem_reverse, Function.comp_apply]
      obtain ⟨a, ha, e⟩ := List.mem_map.1 h9
      exact ⟨a, ha, e⟩
    · exact .inl h9
  refine ⟨fun x hx => ?_, by rw [hm]; exact H.ins, by rw [hm]; exact H.nd, H.keep, fun _ => ⟨hf k, p1.reach (hpath (List.mem_of_head? (p3.resolve_right fun h9 => by simp at h9))), p1.circle (hpath ((H.ins (hf k) hX).1 hk))⟩, (fun h => by cases h), H.small⟩
  · rcases List.mem_append.1 hx with hx | hx
    · exact H.inX x (by simp [hx])
    · simp only [List.mem_singleton] at hx
      subst hx
      have h9 := H.inX (h, y, k :: rest) (by simp)
      exact ⟨h9.1, fun j hj => h9.2 j (by simp [hj])⟩

end

end Go.Proofs.YtahdmflbdmlfhaaGreatDoor
