import Derived.Test.YtemancdlnakkmaaGreatPCm
import Derived.Test.YtemancdlnakkmaaGreatWBG
import Derived.Maps.OwnSet
import Derived.Maps.OwnOps
import Derived.BigQuiet
namespace Go.Proofs.YtemancdlnakkmaaGreat
open Go.RowKit Go.Maps
def heldPL : Value → Option (DataW Value × List MemPlace)
  | .pointer a => some (.held (.pointer a), [])
  | _ => none
theorem heldPL_inv {v : Value} {z : DataW Value × List MemPlace} (h : heldPL v = some z) : z = (.held v, []) := by
  unfold heldPL at h
  split at h
  · simp only [Option.some.injEq] at h
    exact h.symm
  · cases h
def ptrO : Option Nat → Value
  | none => .pointer none
  | some b => .pointer (some ⟨b, 0, none⟩)
theorem ownsL_but {w w' : World} {S : Nat → Prop} {b n : Nat} {H : Type} {D : DataW H} {k : TypeId} {R : Value → Option (DataW H × List MemPlace)} (h : w.ownsMap Tryz.prog k R b n D) (hb : But S w w') (hn : ¬ S b) : w'.ownsMap Tryz.prog k R b n D := by
  obtain ⟨es, clock, h1, h2⟩ := h
  exact ⟨es, clock, (hb.block b (Array.getElem?_eq_some_iff.1 h1).1 hn).trans h1, h2⟩
theorem Tryz.law2L : Keyed Tryz.prog 2 := int_keyed Tryz.underlying2
theorem Tryz.zero3L (w : World) : (zeroValue 3).run Tryz.prog w = .ok (.int .i64 0) w := by kernel_rfl
theorem Tryz.zeroPL (w : World) : (zeroValue 65).run Tryz.prog w = .ok (.pointer none) w := by kernel_rfl
theorem Tryz.keyL (x : Int) (h : (Lit.int .i64 x).wf = true) : keyOf Tryz.prog 2 (.int .i64 x) = some (.int .i64 x) := keyOf_int_mk Tryz.underlying2 h
structure LesAt where
  (lb m1 m2 m3 : Nat)
def CntM (w : World) (b : Nat) (f : Int → Nat) : Prop := ∃ (n : Nat) (D : DataW Unit), w.ownsMap Tryz.prog 2 (plainElem Tryz.prog 3) b n D ∧ ∀ x : Int, 1 ≤ x → D.atKey (.int .i64 x) (.lit (.int .i64 0)) = .lit (.int .i64 (f x : Int))
theorem CntM.but {S : Nat → Prop} {w w' : World} {b : Nat} {f : Int → Nat} (h : CntM w b f) (hb : But S w w') (hn : ¬ S b) : CntM w' b f := by
  obtain ⟨n, D, h1, h2⟩ := h
  exact ⟨n, D, ownsL_but h1 hb hn, h2⟩
theorem CntM.look {w : World} {b : Nat} {f : Int → Nat} (h : CntM w b f) {x : Int} (hx : (Lit.int .i64 x).wf = true) (h1 : 1 ≤ x) : (Instr.lookup 61 (.map (some b)) (.int .i64 x) false).run Tryz.prog w = .ok (.int .i64 (f x : Int)) w := by
  obtain ⟨n, D, ho, hD⟩ := h
  obtain ⟨c, hr, ha, -⟩ := ho.lookup_int Tryz.law2L Tryz.underlying61 Tryz.underlying3 (Tryz.zero3L w) (Tryz.keyL x hx)
  rw [hD x h1] at ha
  simp only [DataW.lit.injEq, Lit.int.injEq, true_and] at ha
  rw [ha]
  exact hr
structure LesS (L : LesAt) (bd us : Int → Nat) (w : World) (A : Nat → Prop) (n : Nat) (P : Int → Option Tre) : Prop where
  c0 : w.cell? ⟨L.lb, 0, none⟩ = some (.map (some L.m1))
  c1 : w.cell? ⟨L.lb, 1, none⟩ = some (.map (some L.m2))
  c2 : w.cell? ⟨L.lb, 2, none⟩ = some (.map (some L.m3))
  mb : CntM w L.m1 bd
  mu : CntM w L.m2 us
  ma : ∃ (D : DataW Value) (U : Int → Option Nat), w.ownsMap Tryz.prog 2 heldPL L.m3 n D ∧ Tidy D ∧ ∀ x : Int, (D.atKey (.int .i64 x) (.held (.pointer none)) = .held (ptrO (U x))) ∧ ((P x).isSome = (U x).isSome) ∧ ∀ T b, P x = some T → U x = some b → PRep w A T b
  apart : L.lb ≠ L.m3 ∧ L.m1 ≠ L.m3 ∧ L.m2 ≠ L.m3
  out : ∀ q, A q → q ≠ L.m3
theorem CntM.lt {w : World} {b : Nat} {f : Int → Nat} (h : CntM w b f) : b < w.heap.size := by
  obtain ⟨n, D, h1, -⟩ := h
  exact h1.lt
theorem LesS.turn {L : LesAt} {bd us : Int → Nat} {w w' : World} {A A' S : Nat → Prop} {n : Nat} {P : Int → Option Tre} (h : LesS L bd us w A n P) (hb : But S w w') (hS : ¬ S L.lb ∧ ¬ S L.m1 ∧ ¬ S L.m2 ∧ ¬ S L.m3) (hSA : ∀ q, A q → ¬ S q) (hA : ∀ q, A q → q < w.heap.size → A' q) (hA2 : ∀ q, A' q → q ≠ L.m3) : LesS L bd us w' A' n P := by
  obtain ⟨s0, s1, s2, s3⟩ := hS
  refine ⟨hb.cellL h.c0 s0, hb.cellL h.c1 s0, hb.cellL h.c2 s0, h.mb.but hb s1, h.mu.but hb s2, ?_, h.apart, hA2⟩
  obtain ⟨D, U, h1, h2, h3⟩ := h.ma
  refine ⟨D, U, ownsL_but h1 hb s3, h2, fun x => ?_⟩
  obtain ⟨k1, k2, k3⟩ := h3 x
  exact ⟨k1, k2, fun T b hT hU => (k3 T b hT hU).but hb hSA hA⟩
theorem LesS.under {L : LesAt} {bd us : Int → Nat} {w w' : World} {A A' : Nat → Prop} {n : Nat} {P : Int → Option Tre} (h : LesS L bd us w A n P) (hb : Below w.heap.size w w') (hA : ∀ q, A q → q < w.heap.size → A' q) (hA2 : ∀ q, A' q → q ≠ L.m3) : LesS L bd us w' A' n P :=
  h.turn (But.ofBelow (S := fun _ => False) hb) ⟨fun h => h, fun h => h, fun h => h, fun h => h⟩ (fun _ _ h => h) hA hA2
set_option maxRecDepth 20000 in
set_option maxHeartbeats 2000000 in
theorem singleP_any (L : LesAt) (bd us : Int → Nat) (w : World) (A : Nat → Prop) (n : Nat) (P : Int → Option Tre) (h : LesS L bd us w A n P) (num : Int) (hw : (Lit.int .i64 num).wf = true) (h1 : 1 ≤ num) :
    Calls Tryz.prog 52 #[.pointer (some ⟨L.lb, 0, none⟩), .int .i64 num] w fun e w' => e = .returned (.bool (singleT bd num)) ∧ Below w.heap.size w w' := by
  have hlk := h.mb.look hw h1
  have c0 := h.c0
  have lb : L.lb < w.heap.size := lt_of_cell c0
  have hbr := Below.refl w.heap.size w
  clear h hw
  by_cases h2 : num ≤ 200000
  · have t2 : decide (num ≤ 200000) = true := by simpa using h2
    have HK : Hid (singleT bd num = ((bd num : Int) == 1)) := by
      show _ = _
      unfold singleT
      rw [t2]
      by_cases h9 : bd num = 1
      · rw [h9]
        rfl
      · have h8 : (bd num == 1) = false := beq_eq_false_iff_ne.2 h9
        have h7 : ((bd num : Int) == 1) = false := beq_eq_false_iff_ne.2 (by omega)
        rw [h8, h7]
        rfl
    obtain ⟨cv, hcv⟩ : ∃ cv : Int, (bd num : Int) = cv := ⟨_, rfl⟩
    rw [hcv] at hlk HK
    clear hcv h1 h2
    go_enter Tryz.func52, Tryz.ntmps52
    go_wp2
    go_ret
    exact ⟨by rw [HK.out]; rfl, hbr⟩
  · have t2 : decide (num ≤ 200000) = false := by simpa using h2
    have HK : Hid (singleT bd num = false) := by show _ = _; unfold singleT; rw [t2]; rfl
    clear hlk h1 h2
    go_enter Tryz.func52, Tryz.ntmps52
    go_wp2
    go_ret
    exact ⟨by rw [HK.out]; rfl, hbr⟩
set_option maxRecDepth 20000 in
set_option maxHeartbeats 2000000 in
theorem atomP_any (L : LesAt) (bd us : Int → Nat) (w : World) (A : Nat → Prop) (n : Nat) (P : Int → Option Tre) (h : LesS L bd us w A n P) (nd : Nd) (ks : List Tre) (b : Nat) (hP : PlT (.mk nd ks)) (hR : PRep w A (.mk nd ks) b) :
    Calls Tryz.prog 53 #[.pointer (some ⟨L.lb, 0, none⟩), .pointer (some ⟨b, 0, none⟩)] w fun e w' => e = .returned (.bool (atomT bd nd)) ∧ Below w.heap.size w w' := by
  obtain ⟨-, so, sc, hblk, -⟩ := hR.opened
  obtain ⟨c0, c1, -⟩ := nine hblk
  have lb : b < w.heap.size := lt_of_cell c0
  have hbr := Below.refl w.heap.size w
  have hN := hP.node
  obtain ⟨kd, nm, tx, kk, pl⟩ := nd
  simp only at c0 c1
  by_cases h7 : kd = 72 ∨ kd = 73 ∨ kd = 74 ∨ kd = 71
  · have HK : Hid (atomT bd ⟨kd, nm, tx, kk, pl⟩ = true) := by
      show _ = _
      unfold atomT
      rw [if_neg (by show ¬ kd = 70; omega)]
      simp
      omega
    clear hblk hR h hN hP c1
    rcases h7 with rfl | rfl | rfl | rfl
    all_goals
      go_enter Tryz.func53, Tryz.ntmps53
      go_wp2
      go_ret
      exact ⟨by rw [HK.out]; rfl, hbr⟩
  have t72 : (kd == 72) = false := by simp; omega
  have t73 : (kd == 73) = false := by simp; omega
  have t74 : (kd == 74) = false := by simp; omega
  have t71 : (kd == 71) = false := by simp; omega
  by_cases h70 : kd = 70
  · subst h70
    have hS := singleP_any L bd us w A n P h nm hN.num (hN.numb (.inl rfl)).1
    have HK : Hid (atomT bd ⟨70, nm, tx, kk, pl⟩ = singleT bd nm) := by show _ = _; unfold atomT; simp
    clear hblk hR h hN hP h7
    go_enter Tryz.func53, Tryz.ntmps53
    go_wp2_with fail
    refine hS.mono ?_
    rintro e w1 ⟨rfl, hb1⟩
    clear hS c0 c1
    go_wp2
    go_ret
    exact ⟨by rw [HK.out]; rfl, hb1⟩
  · have t70 : (kd == 70) = false := by simpa using h70
    have HK : Hid (atomT bd ⟨kd, nm, tx, kk, pl⟩ = false) := by
      show _ = _
      unfold atomT
      rw [if_neg (by exact h70)]
      simp
      omega
    clear hblk hR h hN hP h7 h70 c1
    go_enter Tryz.func53, Tryz.ntmps53
    go_wp2
    go_ret
    exact ⟨by rw [HK.out]; rfl, hbr⟩
def forgT (us : Int → Nat) : Tre → Option Tre
  | .mk n ks =>
    if n.kind = 80 then (match ks with
      | [a, b] => if n.num ≤ 200000 ∧ us n.num = 0 ∧ (knT a = true ∨ a.nd.kind = 76 ∨ a.nd.kind = 71) then some b else none
      | _ => none)
    else none
theorem forg_eq (us : Int → Nat) (n : Nd) (a b : Tre) (h : n.kind = 80) : forgT us (.mk n [a, b]) = if n.num ≤ 200000 ∧ us n.num = 0 ∧ (knT a = true ∨ a.nd.kind = 76 ∨ a.nd.kind = 71) then some b else none := by
  unfold forgT
  dsimp only
  rw [if_pos h]
set_option maxRecDepth 20000 in
set_option maxHeartbeats 4000000 in
theorem forget_any (L : LesAt) (bd us : Int → Nat) (w : World) (A : Nat → Prop) (m : Nat) (P : Int → Option Tre) (h : LesS L bd us w A m P) (n : Nd) (ks : List Tre) (b : Nat) (hP : PlT (.mk n ks)) (hR : PRep w A (.mk n ks) b) :
    Calls Tryz.prog 88 #[.pointer (some ⟨L.lb, 0, none⟩), .pointer (some ⟨b, 0, none⟩)] w fun e w' => OptP w A (forgT us (.mk n ks)) e w' := by
  obtain ⟨-, so, sc, hblk, hK⟩ := hR.opened
  obtain ⟨c0, c1, -, -, -, c5⟩ := nine hblk
  have lb : b < w.heap.size := lt_of_cell c0
  have d1 := h.c1
  have ll : L.lb < w.heap.size := lt_of_cell d1
  have hbr := Below.refl w.heap.size w
  have hN := hP.node
  by_cases h8 : n.kind = 80
  rotate_left
  · have HV : Hid (forgT us (.mk n ks) = none) := by show _ = _; unfold forgT; dsimp only; rw [if_neg h8]
    obtain ⟨kd, nm, tx, kk, pl⟩ := n
    simp only at c0 c1 c5 h8
    have t8 : (kd == 80) = false := by simpa using h8
    have t8b : (kd != 80) = true := by simpa using h8
    have t8c : (!(kd == 80)) = true := by simpa using h8
    rw [HV.out]
    clear hR hblk h8 hK c5 h hP hN HV
    go_enter Tryz.func88, Tryz.ntmps88
    go_wp2_with fail
    go_quiet (fail)
    have b8 := quietB w nq
    go_wp2
    go_ret
    exact ⟨b8, rfl⟩
  have h1 : 1 ≤ n.num := (hN.numb (by omega)).1
  obtain ⟨x, y, rfl, -, -⟩ := hN.code2 (.inr (.inl h8))
  have hlk := fun k => (h.mu.but (But.ofBelow (S := fun _ => False) (quietB w k)) (fun h => h)).look hN.num h1
  have px := hP.kid x (by simp)
  obtain ⟨kd, nm, tx, kk, pl⟩ := n
  simp only at c0 c1 c5 h8 h1 hlk
  subst h8
  by_cases h2 : nm ≤ 200000
  rotate_left
  · have t2 : decide (nm ≤ 200000) = false := by simpa using h2
    have t2b : decide (200000 < nm) = true := by simp; omega
    have HV : Hid (forgT us (.mk ⟨80, nm, tx, kk, pl⟩ [x, y]) = none) := by show _ = _; rw [forg_eq us _ x y rfl]; exact if_neg (fun h => h2 h.1)
    rw [HV.out]
    clear hR hblk hK c5 h hP hN HV hlk h1 h2 px
    go_enter Tryz.func88, Tryz.ntmps88
    go_wp2_with fail
    go_quiet (fail)
    have b8 := quietB w nq
    go_wp2
    go_ret
    exact ⟨b8, rfl⟩
  have t2b : decide (200000 < nm) = false := by simp; omega
  by_cases h3 : us nm = 0
  rotate_left
  · obtain ⟨cv, hcv⟩ : ∃ cv : Int, (us nm : Int) = cv := ⟨_, rfl⟩
    have t3 : decide (0 < cv) = true := by simp; omega
    have HV : Hid (forgT us (.mk ⟨80, nm, tx, kk, pl⟩ [x, y]) = none) := by show _ = _; rw [forg_eq us _ x y rfl]; exact if_neg (fun h => h3 h.2.1)
    rw [HV.out]
    rw [hcv] at hlk
    clear hR hblk hK c5 h hP hN HV h1 h2 px h3 hcv
    go_enter Tryz.func88, Tryz.ntmps88
    go_wp2_with fail
    go_quiet (fail)
    have b8 := quietB w nq
    go_wp2
    go_ret
    exact ⟨b8, rfl⟩
  have h0 : ((us nm : Nat) : Int) = 0 := by rw [h3]; rfl
  simp only [h0] at hlk
  obtain ⟨-, -, -, bs, h4⟩ := hK
  obtain ⟨g, hso, -, e0, hr0⟩ := h4 0 (by simp)
  obtain ⟨g', hso', -, e1, hr1⟩ := h4 1 (by simp)
  simp only at hso hso'
  rw [hso] at hso'
  simp only [Option.some.injEq, Addr.mk.injEq, and_true] at hso'
  subst hso'
  subst hso
  simp only [List.getElem_cons_zero, List.getElem_cons_succ] at hr0 hr1
  generalize bs 0 = b0 at e0 hr0
  generalize bs 1 = b1 at e1 hr1
  have HR1 : Hid (PRep w A y b1) := hr1
  have HKN : Hid (∀ W, Below w.heap.size w W → Calls Tryz.prog 104 #[.pointer (some ⟨b0, 0, none⟩)] W fun e w' => e = .returned (.bool (knT x)) ∧ Below W.heap.size W w') := fun W hW => knownP_any x b0 A W px (hr0.under hW)
  obtain ⟨nx, kx⟩ := x
  obtain ⟨-, sox, scx, hbx, -⟩ := hr0.opened
  obtain ⟨x0, -⟩ := nine hbx
  have lg : g < w.heap.size := lt_of_cell e0
  have l0 : b0 < w.heap.size := lt_of_cell x0
  have HV : Hid (forgT us (.mk ⟨80, nm, tx, kk, pl⟩ [.mk nx kx, y]) = bif (knT (.mk nx kx) || nx.kind == 76 || nx.kind == 71) then some y else none) := by
    show _ = _
    rw [forg_eq us _ _ y rfl]
    cases knT (.mk nx kx) <;> by_cases h7 : nx.kind = 76 <;> by_cases h6 : nx.kind = 71 <;> simp [h2, h3, h7, h6, Tre.nd] <;> (rw [beq_eq_false_iff_ne.2 h7, beq_eq_false_iff_ne.2 h6]; rfl)
  rw [HV.out]
  generalize knT (.mk nx kx) = kn at HKN ⊢
  obtain ⟨xk, xn, xt, xq, xp⟩ := nx
  simp only at x0
  simp only [List.length_cons, List.length_nil, Nat.zero_add, Nat.reduceAdd] at c5
  have HC9 : Hid (∀ W, Below w.heap.size w W → W.cell? ⟨b, 5, none⟩ = some (.slice (some ⟨g, 0, none⟩) 2 sc) ∧ W.cell? ⟨g, 0, none⟩ = some (.pointer (some ⟨b0, 0, none⟩)) ∧ W.cell? ⟨g, 1, none⟩ = some (.pointer (some ⟨b1, 0, none⟩)) ∧ W.cell? ⟨b0, 0, none⟩ = some (.int .i64 xk)) :=
    fun W hW => ⟨bcL hW lb c5, bcL hW lg e0, bcL hW lg e1, bcL hW l0 x0⟩
  clear hR hblk h hP hN HV h1 h2 px h3 h4 hr0 hr1 hbx h0 x0
  go_enter Tryz.func88, Tryz.ntmps88
  go_wp2_with fail
  go_quiet (fail)
  have b8 := quietB w nq
  clear c0 c1 d1 hlk e0 e1 c5
  generalize w.drewN nq = w1 at b8 ⊢
  obtain ⟨q5, q0, q1, qx⟩ := HC9.out w1 b8
  have hKN := HKN.out w1 b8
  have k1 : b < w1.heap.size := by have := b8.size; omega
  have k2 : g < w1.heap.size := by have := b8.size; omega
  have k3 : b0 < w1.heap.size := by have := b8.size; omega
  go_wp2_with fail
  refine hKN.mono ?_
  rintro e w2 ⟨rfl, hb2⟩
  have b9 := Below.step b8 hb2
  clear hKN q5 q0 q1 qx
  obtain ⟨q5, q0, q1, qx⟩ := HC9.out w2 b9
  have m1 : b < w2.heap.size := by have := b9.size; omega
  have m2 : g < w2.heap.size := by have := b9.size; omega
  have m3 : b0 < w2.heap.size := by have := b9.size; omega
  cases kn
  · by_cases h7 : xk = 76
    · subst h7
      go_wp2
      go_ret
      exact ⟨b9, b1, rfl, HR1.out.under b9⟩
    by_cases h6 : xk = 71
    · subst h6
      go_wp2
      go_ret
      exact ⟨b9, b1, rfl, HR1.out.under b9⟩
    have t7 : (xk != 76) = true := by simpa using h7
    have t6 : (xk != 71) = true := by simpa using h6
    have HE : Hid ((bif (false || xk == 76 || xk == 71) then some y else none) = (none : Option Tre)) := by show _ = _; rw [beq_eq_false_iff_ne.2 h7, beq_eq_false_iff_ne.2 h6]; rfl
    clear h6 h7
    go_wp2
    go_ret
    rw [HE.out]
    exact ⟨b9, rfl⟩
  · go_wp2
    go_ret
    exact ⟨b9, b1, rfl, HR1.out.under b9⟩
theorem letP_any (num : Int) (x y : Tre) (b1 b2 : Nat) (A : Nat → Prop) (w : World) (hA : ∀ q, w.heap.size ≤ q → A q) (hx : PRep w A x b1) (hy : PRep w A y b2) (t : TypeId) :
    Calls Tryz.prog 55 #[.agg #[.int .i64 80, .int .i64 num, .string ⟨#[]⟩, .int .i64 0, .int .i64 0], .slice (some ⟨w.heap.size, 0, none⟩) 2 2] (w.alloc (.cells #[.pointer (some ⟨b1, 0, none⟩), .pointer (some ⟨b2, 0, none⟩)] t)) fun e w' => OptP w A (some (mkT ⟨80, num, ⟨#[]⟩, 0, 0⟩ [x, y])) e w' := by
  have bA := (Below.refl w.heap.size w).alloc (Nat.le_refl _) (.cells #[.pointer (some ⟨b1, 0, none⟩), .pointer (some ⟨b2, 0, none⟩)] t)
  have hnew := heap_alloc_new w (.cells #[.pointer (some ⟨b1, 0, none⟩), .pointer (some ⟨b2, 0, none⟩)] t)
  have hK : PKids (w.alloc (.cells #[.pointer (some ⟨b1, 0, none⟩), .pointer (some ⟨b2, 0, none⟩)] t)) A (some ⟨w.heap.size, 0, none⟩, 2, 2) [x, y] := by
    refine ⟨rfl, Nat.le_refl _, by simp, fun j => if j = 0 then b1 else b2, fun j hj => ⟨w.heap.size, rfl, hA _ (Nat.le_refl _), ?_⟩⟩
    have hj2 : j < 2 := hj
    obtain rfl | rfl : j = 0 ∨ j = 1 := by omega
    · exact ⟨by rw [cell_of_row _ _ _ _ _ _ hnew]; rfl, hx.under bA⟩
    · exact ⟨by rw [cell_of_row _ _ _ _ _ _ hnew]; rfl, hy.under bA⟩
  refine (newP_any ⟨80, num, ⟨#[]⟩, 0, 0⟩ [x, y] (some ⟨w.heap.size, 0, none⟩, 2, 2) A _ hK (fun q hq => hA q (by have := bA.size; omega))).mono ?_
  rintro e w' ⟨b, rfl, h1, h2, -⟩
  exact ⟨Below.step bA h2, b, rfl, h1⟩
def bindT : Tre → Option Tre
  | .mk n ks =>
    if n.kind = 77 then (match ks with
      | [f, b] => if f.nd.kind = 76 then (match f.ks with
        | [c] => some (mkT ⟨80, f.nd.num, ⟨#[]⟩, 0, 0⟩ [b, c])
        | _ => none) else none
      | _ => none)
    else none
set_option maxRecDepth 20000 in
set_option maxHeartbeats 4000000 in
theorem bind_any (lp : Value) (n : Nd) (ks : List Tre) (b : Nat) (A : Nat → Prop) (w : World) (hA : ∀ q, w.heap.size ≤ q → A q) (hP : PlT (.mk n ks)) (hR : PRep w A (.mk n ks) b) :
    Calls Tryz.prog 89 #[lp, .pointer (some ⟨b, 0, none⟩)] w fun e w' => OptP w A (bindT (.mk n ks)) e w' := by
  obtain ⟨-, so, sc, hblk, hK⟩ := hR.opened
  obtain ⟨c0, -, -, -, -, c5⟩ := nine hblk
  have lb : b < w.heap.size := lt_of_cell c0
  have hbr := Below.refl w.heap.size w
  have hN := hP.node
  by_cases h8 : n.kind = 77
  rotate_left
  · have HV : Hid (bindT (.mk n ks) = none) := by show _ = _; unfold bindT; dsimp only; rw [if_neg h8]
    obtain ⟨kd, nm, tx, kk, pl⟩ := n
    simp only at c0 c5 h8
    have t8 : (kd != 77) = true := by simpa using h8
    rw [HV.out]
    clear hR hblk h8 hK c5 hP hN HV
    go_enter Tryz.func89, Tryz.ntmps89
    go_wp2
    go_ret
    exact ⟨hbr, rfl⟩
  obtain ⟨x, y, rfl, -, -⟩ := hN.code2 (.inl h8)
  have px := hP.kid x (by simp)
  obtain ⟨kd, nm, tx, kk, pl⟩ := n
  simp only at c0 c5 h8
  subst h8
  obtain ⟨-, -, -, bs, h4⟩ := hK
  obtain ⟨g, hso, -, e0, hr0⟩ := h4 0 (by simp)
  obtain ⟨g', hso', -, e1, hr1⟩ := h4 1 (by simp)
  simp only at hso hso'
  rw [hso] at hso'
  simp only [Option.some.injEq, Addr.mk.injEq, and_true] at hso'
  subst hso'
  subst hso
  simp only [List.getElem_cons_zero, List.getElem_cons_succ] at hr0 hr1
  generalize bs 0 = b0 at e0 hr0
  generalize bs 1 = b1 at e1 hr1
  obtain ⟨nx, kx⟩ := x
  obtain ⟨-, sox, scx, hbx, hKx⟩ := hr0.opened
  obtain ⟨x0, x1, -, -, -, x5⟩ := nine hbx
  have lg : g < w.heap.size := lt_of_cell e0
  have l0 : b0 < w.heap.size := lt_of_cell x0
  simp only [List.length_cons, List.length_nil, Nat.zero_add, Nat.reduceAdd] at c5
  by_cases h7 : nx.kind = 76
  rotate_left
  · have HV : Hid (bindT (.mk ⟨77, nm, tx, kk, pl⟩ [.mk nx kx, y]) = none) := by
      show _ = _
      unfold bindT
      simp [Tre.nd, h7]
    obtain ⟨xk, xn, xt, xq, xp⟩ := nx
    simp only at x0 h7
    have t7 : (xk != 76) = true := by simpa using h7
    rw [HV.out]
    clear hR hblk h4 hP hN HV px hr0 hr1 hbx hKx x1 x5 h7
    go_enter Tryz.func89, Tryz.ntmps89
    go_wp2
    go_ret
    exact ⟨hbr, rfl⟩
  obtain ⟨z, rfl, -⟩ := px.node.code1 (.inl h7)
  have HV : Hid (bindT (.mk ⟨77, nm, tx, kk, pl⟩ [.mk nx [z], y]) = some (mkT ⟨80, nx.num, ⟨#[]⟩, 0, 0⟩ [y, z])) := by
    show _ = _
    unfold bindT
    simp [Tre.nd, Tre.ks, h7]
  obtain ⟨xk, xn, xt, xq, xp⟩ := nx
  simp only at x0 x1 x5 h7 HV
  subst h7
  rw [HV.out]
  obtain ⟨-, -, -, bz, h5⟩ := hKx
  obtain ⟨gx, hsx, -, f0, hz⟩ := h5 0 (by simp)
  simp only at hsx
  subst hsx
  simp only [List.getElem_cons_zero] at hz
  generalize bz 0 = b2 at f0 hz
  have lx : gx < w.heap.size := lt_of_cell f0
  simp only [List.length_cons, List.length_nil, Nat.zero_add] at x5
  have HCE : Hid (∀ W, Below w.heap.size w W → W.cell? ⟨b, 5, none⟩ = some (.slice (some ⟨g, 0, none⟩) 2 sc) ∧ W.cell? ⟨g, 0, none⟩ = some (.pointer (some ⟨b0, 0, none⟩)) ∧ W.cell? ⟨g, 1, none⟩ = some (.pointer (some ⟨b1, 0, none⟩)) ∧ W.cell? ⟨b0, 1, none⟩ = some (.int .i64 xn) ∧ W.cell? ⟨b0, 5, none⟩ = some (.slice (some ⟨gx, 0, none⟩) 1 scx) ∧ W.cell? ⟨gx, 0, none⟩ = some (.pointer (some ⟨b2, 0, none⟩))) :=
    fun W hW => ⟨bcL hW lb c5, bcL hW lg e0, bcL hW lg e1, bcL hW l0 x1, bcL hW l0 x5, bcL hW lx f0⟩
  have HCN : Hid (∀ W, Below w.heap.size w W → ∀ t, Calls Tryz.prog 55 #[.agg #[.int .i64 80, .int .i64 xn, .string ⟨#[]⟩, .int .i64 0, .int .i64 0], .slice (some ⟨W.heap.size, 0, none⟩) 2 2] (W.alloc (.cells #[.pointer (some ⟨b1, 0, none⟩), .pointer (some ⟨b2, 0, none⟩)] t)) fun e w' => OptP W A (some (mkT ⟨80, xn, ⟨#[]⟩, 0, 0⟩ [y, z])) e w') := fun W hW t => letP_any xn y z b1 b2 A W (fun q hq => hA q (by have := hW.size; omega)) (hr1.under hW) (hz.under hW) t
  clear hR hblk h4 hP hN HV px hr0 hr1 hbx hz h5 hA
  go_enter Tryz.func89, Tryz.ntmps89
  go_upto_region 4 with fail
  have bD := (Below.refl w.heap.size w).drew
  have hbA := bD.alloc bD.size (.cells #[.pointer (some ⟨b1, 0, none⟩), .pointer (some ⟨b2, 0, none⟩)] 65)
  have HCD : Hid _ := HCN.out _ bD
  clear x0 x1 x5 c0 c5 e0 e1 f0 HCN
  refine wp_region_held_drew (S := fun W => W.cell? ⟨b, 5, none⟩ = some (.slice (some ⟨g, 0, none⟩) 2 sc) ∧ W.cell? ⟨g, 0, none⟩ = some (.pointer (some ⟨b0, 0, none⟩)) ∧ W.cell? ⟨g, 1, none⟩ = some (.pointer (some ⟨b1, 0, none⟩)) ∧ W.cell? ⟨b0, 1, none⟩ = some (.int .i64 xn) ∧ W.cell? ⟨b0, 5, none⟩ = some (.slice (some ⟨gx, 0, none⟩) 1 scx) ∧ W.cell? ⟨gx, 0, none⟩ = some (.pointer (some ⟨b2, 0, none⟩))) (by kernel_rfl) (HCE.out _ bD) (fun hS => ?_)
  refine take_in 0 31 (v := ?_) (oi := _) (ixA rfl) (by rfl) (by kernel_rfl) (by kernel_rfl) (by kernel_rfl) (by exact fun _ _ _ h => h) (Or.inl ⟨by rfl, ?_⟩) hS ?_
  rotate_left
  · intro w' hSw; (try dsimp only at hSw); (go_simp <;> with_reducible rfl)
  simp only [List.setIfInBounds_toArray, List.set_cons_zero, List.set_cons_succ]
  refine take_in 1 32 (v := ?_) (oi := _) (ixA rfl) (by rfl) (by kernel_rfl) (by kernel_rfl) (by kernel_rfl) (by exact fun _ _ _ h => h) (Or.inl ⟨by rfl, ?_⟩) hS ?_
  rotate_left
  · intro w' hSw; (try dsimp only at hSw); (go_simp <;> with_reducible rfl)
  simp only [List.setIfInBounds_toArray, List.set_cons_zero, List.set_cons_succ]
  refine take_in 2 33 (v := ?_) (oi := _) (ixA rfl) (by rfl) (by kernel_rfl) (by kernel_rfl) (by kernel_rfl) (by exact fun _ _ _ h => h) (Or.inl ⟨by rfl, ?_⟩) hS ?_
  rotate_left
  · intro w' hSw; (try dsimp only at hSw); (go_simp <;> with_reducible rfl)
  simp only [List.setIfInBounds_toArray, List.set_cons_zero, List.set_cons_succ]
  refine take_in 3 34 (v := ?_) (oi := _) (ixA rfl) (by rfl) (by kernel_rfl) (by kernel_rfl) (by kernel_rfl) (by exact fun _ _ _ h => h) (Or.inl ⟨by rfl, ?_⟩) hS ?_
  rotate_left
  · intro w' hSw; (try dsimp only at hSw); (go_simp <;> with_reducible rfl)
  simp only [List.setIfInBounds_toArray, List.set_cons_zero, List.set_cons_succ]
  refine take_in 4 35 (v := ?_) (oi := _) (ixA rfl) (by rfl) (by kernel_rfl) (by kernel_rfl) (by kernel_rfl) (by exact fun _ _ _ h => h) (Or.inl ⟨by rfl, ?_⟩) hS ?_
  rotate_left
  · intro w' hSw; (try dsimp only at hSw); (go_simp <;> with_reducible rfl)
  simp only [List.setIfInBounds_toArray, List.set_cons_zero, List.set_cons_succ]
  refine take_in 5 36 (v := ?_) (oi := _) (ixA rfl) (by rfl) (by kernel_rfl) (by kernel_rfl) (by kernel_rfl) (by exact fun _ _ _ h => h) (Or.inl ⟨by rfl, ?_⟩) hS ?_
  rotate_left
  · intro w' hSw; (try dsimp only at hSw); (go_simp <;> with_reducible rfl)
  simp only [List.setIfInBounds_toArray, List.set_cons_zero, List.set_cons_succ]
  refine take_in 6 37 (v := ?_) (oi := _) (ixA rfl) (by rfl) (by kernel_rfl) (by kernel_rfl) (by kernel_rfl) (by exact fun _ _ _ h => h) (Or.inl ⟨by rfl, ?_⟩) hS ?_
  rotate_left
  · intro w' hSw; (try dsimp only at hSw); (go_simp <;> with_reducible rfl)
  simp only [List.setIfInBounds_toArray, List.set_cons_zero, List.set_cons_succ]
  refine take_in 7 38 (v := ?_) (oi := _) (ixA rfl) (by rfl) (by kernel_rfl) (by kernel_rfl) (by kernel_rfl) (by exact fun _ _ _ h => h) (Or.inl ⟨by rfl, ?_⟩) hS ?_
  rotate_left
  · intro w' hSw; (try dsimp only at hSw); (go_simp <;> with_reducible rfl)
  simp only [List.setIfInBounds_toArray, List.set_cons_zero, List.set_cons_succ]
  refine take_in 8 39 (v := ?_) (oi := _) (ixA rfl) (by rfl) (by kernel_rfl) (by kernel_rfl) (by kernel_rfl) (by exact fun _ _ _ h => h) (Or.inl ⟨by rfl, ?_⟩) hS ?_
  rotate_left
  · intro w' hSw; (try dsimp only at hSw); (go_simp <;> with_reducible rfl)
  simp only [List.setIfInBounds_toArray, List.set_cons_zero, List.set_cons_succ]
  refine take_in 9 40 (v := ?_) (oi := _) (ixA rfl) (by rfl) (by kernel_rfl) (by kernel_rfl) (by kernel_rfl) (by exact fun _ _ _ h => h) (Or.inl ⟨by rfl, ?_⟩) hS ?_
  rotate_left
  · intro w' hSw; (try dsimp only at hSw); (go_simp <;> with_reducible rfl)
  simp only [List.setIfInBounds_toArray, List.set_cons_zero, List.set_cons_succ]
  refine take_in 10 41 (v := ?_) (oi := _) (ixA rfl) (by rfl) (by kernel_rfl) (by kernel_rfl) (by kernel_rfl) (by exact fun _ _ _ h => h) (Or.inl ⟨by rfl, ?_⟩) hS ?_
  rotate_left
  · intro w' hSw; (try dsimp only at hSw); (go_simp <;> with_reducible rfl)
  simp only [List.setIfInBounds_toArray, List.set_cons_zero, List.set_cons_succ]
  refine take_in 11 42 (v := ?_) (oi := _) (ixA rfl) (by rfl) (by kernel_rfl) (by kernel_rfl) (by kernel_rfl) (by exact fun _ _ _ h => h) (Or.inl ⟨by rfl, ?_⟩) hS ?_
  rotate_left
  · intro w' hSw; (try dsimp only at hSw); (go_simp <;> with_reducible rfl)
  simp only [List.setIfInBounds_toArray, List.set_cons_zero, List.set_cons_succ]
  refine take_in 12 43 (v := ?_) (oi := _) (ixA rfl) (by rfl) (by kernel_rfl) (by kernel_rfl) (by kernel_rfl) (by exact fun _ _ _ h => h) (Or.inl ⟨by rfl, ?_⟩) hS ?_
  rotate_left
  · intro w' hSw; (try dsimp only at hSw); (go_simp <;> with_reducible rfl)
  simp only [List.setIfInBounds_toArray, List.set_cons_zero, List.set_cons_succ]
  refine take_in 13 44 (v := ?_) (oi := _) (ixA rfl) (by rfl) (by kernel_rfl) (by kernel_rfl) (by kernel_rfl) (by exact fun _ _ _ h => h) (Or.inl ⟨by rfl, ?_⟩) hS ?_
  rotate_left
  · intro w' hSw; (try dsimp only at hSw); (go_simp <;> with_reducible rfl)
  simp only [List.setIfInBounds_toArray, List.set_cons_zero, List.set_cons_succ]
  refine take_in 14 45 (v := ?_) (oi := _) (ixA rfl) (by rfl) (by kernel_rfl) (by kernel_rfl) (by kernel_rfl) (by exact fun _ _ _ h => h) (Or.inl ⟨by rfl, ?_⟩) hS ?_
  rotate_left
  · intro w' hSw; (try dsimp only at hSw); (go_simp <;> with_reducible rfl)
  simp only [List.setIfInBounds_toArray, List.set_cons_zero, List.set_cons_succ]
  refine take_in 15 46 (v := ?_) (oi := _) (ixA rfl) (by rfl) (by kernel_rfl) (by kernel_rfl) (by kernel_rfl) (by exact fun _ _ _ h => h) (Or.inl ⟨by rfl, ?_⟩) hS ?_
  rotate_left
  · intro w' hSw; (try dsimp only at hSw); (go_simp <;> with_reducible rfl)
  simp only [List.setIfInBounds_toArray, List.set_cons_zero, List.set_cons_succ]
  refine take_in 16 47 (v := ?_) (oi := _) (ixA rfl) (by rfl) (by kernel_rfl) (by kernel_rfl) (by kernel_rfl) (by exact fun _ _ _ h => h) (Or.inl ⟨by rfl, ?_⟩) hS ?_
  rotate_left
  · intro w' hSw; (try dsimp only at hSw); (go_simp <;> with_reducible rfl)
  simp only [List.setIfInBounds_toArray, List.set_cons_zero, List.set_cons_succ]
  refine take_in 17 48 (v := ?_) (oi := _) (ixA rfl) (by rfl) (by kernel_rfl) (by kernel_rfl) (by kernel_rfl) (by exact fun _ _ _ h => h) (Or.inl ⟨by rfl, ?_⟩) hS ?_
  rotate_left
  · intro w' hSw; (try dsimp only at hSw); (go_simp <;> with_reducible rfl)
  simp only [List.setIfInBounds_toArray, List.set_cons_zero, List.set_cons_succ]
  refine wpAnyH_ready (rs := [18]) (by kernel_rfl) (by simp) ?_
  refine AllReadyH.cons (o := _) (ixA rfl) (fun K' hK' => ?_) AllReadyH.nil
  rw [if_pos (by rfl)]
  go_simp
  refine hK'.out _ _ (HCE.out _ hbA) (fun hS => ?_)
  clear hK' K'
  try simp only [Act.put, List.setIfInBounds_toArray, List.set_cons_zero, List.set_cons_succ]
  refine wpAnyH_ready (rs := [19]) (by kernel_rfl) (by simp) ?_
  refine AllReadyH.cons (o := _) (ixA rfl) (fun K' hK' => ?_) AllReadyH.nil
  rw [if_pos (by rfl)]
  go_simp
  refine (HCD.out _).mono ?_
  intro e w3 h3
  obtain ⟨p, rfl, hb3, hv3⟩ := h3.out
  have hb4 := Below.step bD hb3
  refine hK'.out _ _ (HCE.out _ hb4) (fun hS => ?_)
  clear hK' K'
  try simp only [Act.put, List.setIfInBounds_toArray, List.set_cons_zero, List.set_cons_succ]
  refine take_in 20 4 (v := ?_) (oi := _) (ixA rfl) (by rfl) (by kernel_rfl) (by kernel_rfl) (by kernel_rfl) (by exact fun _ _ _ h => h) (Or.inl ⟨by rfl, ?_⟩) hS ?_
  rotate_left
  · intro w' hSw; (try dsimp only at hSw); (go_simp <;> with_reducible rfl)
  simp only [List.setIfInBounds_toArray, List.set_cons_zero, List.set_cons_succ]
  refine wpAnyH_done (by kernel_rfl) ?_ _
  have HV3 : Hid _ := hv3
  clear hv3 hS HCE hb3 h3
  go_wp2
  go_ret
  exact OptP.mk HV3.out hb4
end Go.Proofs.YtemancdlnakkmaaGreat
