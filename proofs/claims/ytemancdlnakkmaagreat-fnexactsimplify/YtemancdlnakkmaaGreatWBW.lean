import Derived.Test.YtemancdlnakkmaaGreatWBV
import Derived.Test.YtemancdlnakkmaaGreatWBH
namespace Go.Proofs.YtemancdlnakkmaaGreat
open Go.RowKit Go.Maps
def WrR (L : LesAt) (bd us : Int → Nat) (w : World) (A : Nat → Prop) (m s : Nat) (X : Tre × (Int → Option Tre)) (e : Ending) (w' : World) : Prop :=
  ∃ b m', e = .returned (.pointer (some ⟨b, 0, none⟩)) ∧ PRep w' A X.1 b ∧ LesS L bd us w' A m' X.2 ∧ m' ≤ m + s ∧ But (fun p => p = L.m3) w w'
def WrC (L : LesAt) (bd us : Int → Nat) (T : Tre) : Prop := ∀ (b : Nat) (A : Nat → Prop) (w : World) (m : Nat) (P : Int → Option Tre), PlT T → PGood P → LesS L bd us w A m P → PRep w A T b → (∀ q, w.heap.size ≤ q → A q) → m + szT T ≤ 1000000000 →
    Calls Tryz.prog 35 #[.pointer (some ⟨L.lb, 0, none⟩), .pointer (some ⟨b, 0, none⟩)] w fun e w' => WrR L bd us w A m (szT T) (lessT bd us T P) e w'
theorem WrR.out {L : LesAt} {bd us : Int → Nat} {w : World} {A : Nat → Prop} {m s : Nat} {X : Tre × (Int → Option Tre)} {e : Ending} {w' : World} (h : WrR L bd us w A m s X e w') :
  ∃ b m', e = .returned (.pointer (some ⟨b, 0, none⟩)) ∧ PRep w' A X.1 b ∧ LesS L bd us w' A m' X.2 ∧ m' ≤ m + s ∧ But (fun p => p = L.m3) w w' := h
set_option maxRecDepth 20000 in
set_option maxHeartbeats 4000000 in
theorem replace_any (L : LesAt) (bd us : Int → Nat) (n : Nd) (x y : Tre) (b : Nat) (A : Nat → Prop) (w : World) (m : Nat) (P : Int → Option Tre) (hx : WrC L bd us x) (hy : WrC L bd us y) (h8 : n.kind = 80) (hP : PlT (.mk n [x, y])) (hG : PGood P)
    (hat : atomT bd x.nd = true) (h2 : n.num ≤ 200000) (h : LesS L bd us w A m P) (hR : PRep w A (.mk n [x, y]) b) (hA : ∀ q, w.heap.size ≤ q → A q) (hs : m + szT (.mk n [x, y]) ≤ 1000000000) :
    Calls Tryz.prog 54 #[.pointer (some ⟨L.lb, 0, none⟩), .pointer (some ⟨b, 0, none⟩)] w fun e w' => WrR L bd us w A m (szT (.mk n [x, y])) ((lessT bd us y (setP (lessT bd us x P).2 n.num (some (lessT bd us x P).1))).1, setP (lessT bd us y (setP (lessT bd us x P).2 n.num (some (lessT bd us x P).1))).2 n.num none) e w' := by
  have hN := hP.node
  have h1 : 1 ≤ n.num := (hN.numb (by omega)).1
  have hwf := hN.num
  have px := hP.kid x (by simp)
  have py := hP.kid y (by simp)
  have hkx := less_kept bd us x P px hG
  have hax := less_atom bd us px hat hG
  have hpc : cls (lessT bd us x P).1.nd = 1 := by rw [hkx.1.cl]; exact atom_cls hat
  have hG2 : PGood (setP (lessT bd us x P).2 n.num (some (lessT bd us x P).1)) := hkx.2.put hkx.1.pl hpc hax.1 h1 h2
  have hsz : szT (.mk n [x, y]) = szT x + szT y + 1 := by rw [szT_eq]; simp
  obtain ⟨hbA, so, sc, hblk, hK⟩ := hR.opened
  obtain ⟨c0, c1, -, -, -, c5⟩ := nine hblk
  obtain ⟨-, -, -, bs, h4⟩ := hK
  obtain ⟨g, hso, hgA, e0, hr0⟩ := h4 0 (by simp)
  obtain ⟨g', hso', -, e1, hr1⟩ := h4 1 (by simp)
  simp only at hso hso'
  rw [hso] at hso'
  simp only [Option.some.injEq, Addr.mk.injEq, and_true] at hso'
  subst hso'
  subst hso
  simp only [List.getElem_cons_zero, List.getElem_cons_succ] at hr0 hr1
  generalize bs 0 = b0 at e0 hr0
  generalize bs 1 = b1 at e1 hr1
  simp only [List.length_cons, List.length_nil, Nat.zero_add, Nat.reduceAdd] at c5
  have lb : b < w.heap.size := lt_of_cell c0
  have lg : g < w.heap.size := lt_of_cell e0
  have cl := h.c2
  have ll : L.lb < w.heap.size := lt_of_cell cl
  have a0 := h.apart.1
  have ab : ¬ b = L.m3 := h.out b hbA
  have ag : ¬ g = L.m3 := h.out g hgA
  have HS0 : Hid (∀ q, A q → ¬ q = L.m3) := h.out
  obtain ⟨X, hX⟩ : ∃ X, lessT bd us x P = X := ⟨_, rfl⟩
  have HX : Hid (∀ W, Below w.heap.size w W → Calls Tryz.prog 35 #[.pointer (some ⟨L.lb, 0, none⟩), .pointer (some ⟨b0, 0, none⟩)] W fun e w' => WrR L bd us W A m (szT x) X e w') := fun W hW => by
    rw [← hX]
    exact hx b0 A W m P px hG (h.under hW (fun q hq _ => hq) h.out) (hr0.under hW) (fun q hq => hA q (by have := hW.size; omega)) (by omega)
  rw [hX] at hG2 hkx ⊢
  obtain ⟨nm, hnm⟩ : ∃ nm, n.num = nm := ⟨_, rfl⟩
  rw [hnm] at c1 hwf h1 h2 hG2 ⊢
  obtain ⟨Y, hY⟩ : ∃ Y, lessT bd us y (setP X.2 nm (some X.1)) = Y := ⟨_, rfl⟩
  have HY : Hid (∀ W m1, But (fun p => p = L.m3) w W → LesS L bd us W A m1 (setP X.2 nm (some X.1)) → m1 ≤ m + szT x + 1 → Calls Tryz.prog 35 #[.pointer (some ⟨L.lb, 0, none⟩), .pointer (some ⟨b1, 0, none⟩)] W fun e w' => WrR L bd us W A m1 (szT y) Y e w') := fun W m1 hW hL hm => by
    rw [← hY]
    exact hy b1 A W m1 _ py hG2 hL (hr1.but hW h.out (fun q hq _ => hq)) (fun q hq => hA q (by have := hW.size; omega)) (by omega)
  rw [hY]
  have HWF : Hid ((Lit.int .i64 nm).wf = true) := hwf
  have HCE : Hid (∀ W, But (fun p => p = L.m3) w W → (W.cell? ⟨L.lb, 2, none⟩ = some (.map (some L.m3)) ∧ W.cell? ⟨b, 1, none⟩ = some (.int .i64 nm) ∧ W.cell? ⟨b, 5, none⟩ = some (.slice (some ⟨g, 0, none⟩) 2 sc) ∧ W.cell? ⟨g, 0, none⟩ = some (.pointer (some ⟨b0, 0, none⟩))) ∧ W.cell? ⟨g, 1, none⟩ = some (.pointer (some ⟨b1, 0, none⟩))) := fun W hW => ⟨⟨hW.cellL cl a0, hW.cellL c1 ab, hW.cellL c5 ab, hW.cellL e0 ag⟩, hW.cellL e1 ag⟩
  have HSZ : Hid (szT (.mk n [x, y]) = szT x + szT y + 1) := hsz
  have HMS : Hid (m + szT (.mk n [x, y]) ≤ 1000000000) := hs
  clear hP hN hkx hax hpc hx hy px py hG hG2 hat hR hr0 hr1 h hA hs hsz hblk h4 hX hY hwf h8 hnm
  refine calls_of_wp_b Tryz.func54 rfl ?_
  simp only [Tryz.ntmps54, List.size_toArray, List.length_cons, List.length_nil, Nat.reduceAdd, Nat.reduceSub, Array.replicate_succ, Array.replicate_zero, List.push_toArray, List.append_toArray, List.nil_append, List.cons_append]
  go_upto_region 1 with fail
  have bD := (Below.refl w.heap.size w).drew
  have hcD := (HCE.out _ (But.ofBelow bD)).1
  clear c0 c1 c5 e0 e1 cl
  refine wp_region_held_drew (S := fun W => W.cell? ⟨L.lb, 2, none⟩ = some (.map (some L.m3)) ∧ W.cell? ⟨b, 1, none⟩ = some (.int .i64 nm) ∧ W.cell? ⟨b, 5, none⟩ = some (.slice (some ⟨g, 0, none⟩) 2 sc) ∧ W.cell? ⟨g, 0, none⟩ = some (.pointer (some ⟨b0, 0, none⟩))) (by kernel_rfl) hcD (fun hS => ?_)
  refine take_in 0 5 (v := ?_) (oi := _) (ixA rfl) (by rfl) (by kernel_rfl) (by kernel_rfl) (by kernel_rfl) (by exact fun _ _ _ h => h) (Or.inl ⟨by rfl, ?_⟩) hS ?_
  rotate_left
  · intro w' hSw; (try dsimp only at hSw); (go_simp <;> with_reducible rfl)
  simp only [List.setIfInBounds_toArray, List.set_cons_zero, List.set_cons_succ]
  refine take_in 1 6 (v := ?_) (oi := _) (ixA rfl) (by rfl) (by kernel_rfl) (by kernel_rfl) (by kernel_rfl) (by exact fun _ _ _ h => h) (Or.inl ⟨by rfl, ?_⟩) hS ?_
  rotate_left
  · intro w' hSw; (try dsimp only at hSw); (go_simp <;> with_reducible rfl)
  simp only [List.setIfInBounds_toArray, List.set_cons_zero, List.set_cons_succ]
  refine take_in 2 7 (v := ?_) (oi := _) (ixA rfl) (by rfl) (by kernel_rfl) (by kernel_rfl) (by kernel_rfl) (by exact fun _ _ _ h => h) (Or.inl ⟨by rfl, ?_⟩) hS ?_
  rotate_left
  · intro w' hSw; (try dsimp only at hSw); (go_simp <;> with_reducible rfl)
  simp only [List.setIfInBounds_toArray, List.set_cons_zero, List.set_cons_succ]
  refine take_in 3 8 (v := ?_) (oi := _) (ixA rfl) (by rfl) (by kernel_rfl) (by kernel_rfl) (by kernel_rfl) (by exact fun _ _ _ h => h) (Or.inl ⟨by rfl, ?_⟩) hS ?_
  rotate_left
  · intro w' hSw; (try dsimp only at hSw); (go_simp <;> with_reducible rfl)
  simp only [List.setIfInBounds_toArray, List.set_cons_zero, List.set_cons_succ]
  refine take_in 4 9 (v := ?_) (oi := _) (ixA rfl) (by rfl) (by kernel_rfl) (by kernel_rfl) (by kernel_rfl) (by exact fun _ _ _ h => h) (Or.inl ⟨by rfl, ?_⟩) hS ?_
  rotate_left
  · intro w' hSw; (try dsimp only at hSw); (go_simp <;> with_reducible rfl)
  simp only [List.setIfInBounds_toArray, List.set_cons_zero, List.set_cons_succ]
  refine take_in 5 10 (v := ?_) (oi := _) (ixA rfl) (by rfl) (by kernel_rfl) (by kernel_rfl) (by kernel_rfl) (by exact fun _ _ _ h => h) (Or.inl ⟨by rfl, ?_⟩) hS ?_
  rotate_left
  · intro w' hSw; (try dsimp only at hSw); (go_simp <;> with_reducible rfl)
  simp only [List.setIfInBounds_toArray, List.set_cons_zero, List.set_cons_succ]
  refine take_in 6 11 (v := ?_) (oi := _) (ixA rfl) (by rfl) (by kernel_rfl) (by kernel_rfl) (by kernel_rfl) (by exact fun _ _ _ h => h) (Or.inl ⟨by rfl, ?_⟩) hS ?_
  rotate_left
  · intro w' hSw; (try dsimp only at hSw); (go_simp <;> with_reducible rfl)
  simp only [List.setIfInBounds_toArray, List.set_cons_zero, List.set_cons_succ]
  refine take_in 7 12 (v := ?_) (oi := _) (ixA rfl) (by rfl) (by kernel_rfl) (by kernel_rfl) (by kernel_rfl) (by exact fun _ _ _ h => h) (Or.inl ⟨by rfl, ?_⟩) hS ?_
  rotate_left
  · intro w' hSw; (try dsimp only at hSw); (go_simp <;> with_reducible rfl)
  simp only [List.setIfInBounds_toArray, List.set_cons_zero, List.set_cons_succ]
  refine take_in 8 13 (v := ?_) (oi := _) (ixA rfl) (by rfl) (by kernel_rfl) (by kernel_rfl) (by kernel_rfl) (by exact fun _ _ _ h => h) (Or.inl ⟨by rfl, ?_⟩) hS ?_
  rotate_left
  · intro w' hSw; (try dsimp only at hSw); (go_simp <;> with_reducible rfl)
  simp only [List.setIfInBounds_toArray, List.set_cons_zero, List.set_cons_succ]
  refine take_in 9 14 (v := ?_) (oi := _) (ixA rfl) (by rfl) (by kernel_rfl) (by kernel_rfl) (by kernel_rfl) (by exact fun _ _ _ h => h) (Or.inl ⟨by rfl, ?_⟩) hS ?_
  rotate_left
  · intro w' hSw; (try dsimp only at hSw); (go_simp <;> with_reducible rfl)
  simp only [List.setIfInBounds_toArray, List.set_cons_zero, List.set_cons_succ]
  refine take_in 10 15 (v := ?_) (oi := _) (ixA rfl) (by rfl) (by kernel_rfl) (by kernel_rfl) (by kernel_rfl) (by exact fun _ _ _ h => h) (Or.inl ⟨by rfl, ?_⟩) hS ?_
  rotate_left
  · intro w' hSw; (try dsimp only at hSw); (go_simp <;> with_reducible rfl)
  simp only [List.setIfInBounds_toArray, List.set_cons_zero, List.set_cons_succ]
  refine take_in 11 16 (v := ?_) (oi := _) (ixA rfl) (by rfl) (by kernel_rfl) (by kernel_rfl) (by kernel_rfl) (by exact fun _ _ _ h => h) (Or.inl ⟨by rfl, ?_⟩) hS ?_
  rotate_left
  · intro w' hSw; (try dsimp only at hSw); (go_simp <;> with_reducible rfl)
  simp only [List.setIfInBounds_toArray, List.set_cons_zero, List.set_cons_succ]
  refine take_in 12 17 (v := ?_) (oi := _) (ixA rfl) (by rfl) (by kernel_rfl) (by kernel_rfl) (by kernel_rfl) (by exact fun _ _ _ h => h) (Or.inl ⟨by rfl, ?_⟩) hS ?_
  rotate_left
  · intro w' hSw; (try dsimp only at hSw); (go_simp <;> with_reducible rfl)
  simp only [List.setIfInBounds_toArray, List.set_cons_zero, List.set_cons_succ]
  refine take_in 13 18 (v := ?_) (oi := _) (ixA rfl) (by rfl) (by kernel_rfl) (by kernel_rfl) (by kernel_rfl) (by exact fun _ _ _ h => h) (Or.inl ⟨by rfl, ?_⟩) hS ?_
  rotate_left
  · intro w' hSw; (try dsimp only at hSw); (go_simp <;> with_reducible rfl)
  simp only [List.setIfInBounds_toArray, List.set_cons_zero, List.set_cons_succ]
  refine take_in 14 19 (v := ?_) (oi := _) (ixA rfl) (by rfl) (by kernel_rfl) (by kernel_rfl) (by kernel_rfl) (by exact fun _ _ _ h => h) (Or.inl ⟨by rfl, ?_⟩) hS ?_
  rotate_left
  · intro w' hSw; (try dsimp only at hSw); (go_simp <;> with_reducible rfl)
  simp only [List.setIfInBounds_toArray, List.set_cons_zero, List.set_cons_succ]
  refine take_in 15 20 (v := ?_) (oi := _) (ixA rfl) (by rfl) (by kernel_rfl) (by kernel_rfl) (by kernel_rfl) (by exact fun _ _ _ h => h) (Or.inl ⟨by rfl, ?_⟩) hS ?_
  rotate_left
  · intro w' hSw; (try dsimp only at hSw); (go_simp <;> with_reducible rfl)
  simp only [List.setIfInBounds_toArray, List.set_cons_zero, List.set_cons_succ]
  refine wpAnyH_ready (rs := [16]) (by kernel_rfl) (by simp) ?_
  refine AllReadyH.cons (o := _) (ixA rfl) (fun K' hK' => ?_) AllReadyH.nil
  rw [if_pos (by rfl)]
  go_simp
  refine (HX.out _ bD).mono ?_
  intro e w3 h3
  obtain ⟨b3, m3, rfl, hr3, hL3, hm3, hb3⟩ := h3.out
  have hb4 : But (fun p => p = L.m3) w w3 := (But.ofBelow bD).trans hb3
  obtain ⟨w4, hup, hL4, hb5⟩ := hL3.put (by unfold maxLen; have := HSZ.out; have := HMS.out; omega) HWF.out hr3
  have hb6 := hb4.trans hb5
  refine hK'.out _ _ ((HCE.out _ hb4).1) (fun hS => ?_)
  clear hK' K'
  try simp only [Act.put, List.setIfInBounds_toArray, List.set_cons_zero, List.set_cons_succ]
  refine wpAnyH_ready (rs := [17]) (by kernel_rfl) (by simp) ?_
  refine AllReadyH.cons (o := _) (ixA rfl) (fun K' hK' => ?_) AllReadyH.nil
  rw [if_pos (by rfl)]
  go_simp
  refine hK'.out _ _ ((HCE.out _ hb6).1) (fun hS => ?_)
  clear hK' K'
  try simp only [Act.put, List.setIfInBounds_toArray, List.set_cons_zero, List.set_cons_succ]
  refine wpAnyH_done (by kernel_rfl) ?_ _
  obtain ⟨⟨q1, q2, q3, q4⟩, q5⟩ := HCE.out _ hb6
  have HL4 : Hid (LesS L bd us w4 A (m3 + 1) (setP X.2 nm (some X.1))) := hL4
  have HM3 : Hid (m3 ≤ m + szT x) := hm3
  have k1 := lt_of_cell q1
  have k2 := lt_of_cell q2
  have k3 := lt_of_cell q4
  clear hS hb3 hb4 hb5 hup hL3 hL4 hr3 h3 hm3 hcD HX bD
  go_upto_region 2 with fail
  have bD2 := (Below.refl w4.heap.size w4).drew
  have hb7 := hb6.trans (But.ofBelow bD2)
  refine wp_region_held_drew (S := fun W => W.cell? ⟨L.lb, 2, none⟩ = some (.map (some L.m3)) ∧ W.cell? ⟨b, 1, none⟩ = some (.int .i64 nm)) (by kernel_rfl) ⟨q1, q2⟩ (fun hS => ?_)
  refine take_in 0 22 (v := ?_) (oi := _) (ixA rfl) (by rfl) (by kernel_rfl) (by kernel_rfl) (by kernel_rfl) (by exact fun _ _ _ h => h) (Or.inl ⟨by rfl, ?_⟩) hS ?_
  rotate_left
  · intro w' hSw; (try dsimp only at hSw); (go_simp <;> with_reducible rfl)
  simp only [List.setIfInBounds_toArray, List.set_cons_zero, List.set_cons_succ]
  refine take_in 1 23 (v := ?_) (oi := _) (ixA rfl) (by rfl) (by kernel_rfl) (by kernel_rfl) (by kernel_rfl) (by exact fun _ _ _ h => h) (Or.inl ⟨by rfl, ?_⟩) hS ?_
  rotate_left
  · intro w' hSw; (try dsimp only at hSw); (go_simp <;> with_reducible rfl)
  simp only [List.setIfInBounds_toArray, List.set_cons_zero, List.set_cons_succ]
  refine take_in 2 24 (v := ?_) (oi := _) (ixA rfl) (by rfl) (by kernel_rfl) (by kernel_rfl) (by kernel_rfl) (by exact fun _ _ _ h => h) (Or.inl ⟨by rfl, ?_⟩) hS ?_
  rotate_left
  · intro w' hSw; (try dsimp only at hSw); (go_simp <;> with_reducible rfl)
  simp only [List.setIfInBounds_toArray, List.set_cons_zero, List.set_cons_succ]
  refine take_in 3 25 (v := ?_) (oi := _) (ixA rfl) (by rfl) (by kernel_rfl) (by kernel_rfl) (by kernel_rfl) (by exact fun _ _ _ h => h) (Or.inl ⟨by rfl, ?_⟩) hS ?_
  rotate_left
  · intro w' hSw; (try dsimp only at hSw); (go_simp <;> with_reducible rfl)
  simp only [List.setIfInBounds_toArray, List.set_cons_zero, List.set_cons_succ]
  refine take_in 4 26 (v := ?_) (oi := _) (ixA rfl) (by rfl) (by kernel_rfl) (by kernel_rfl) (by kernel_rfl) (by exact fun _ _ _ h => h) (Or.inl ⟨by rfl, ?_⟩) hS ?_
  rotate_left
  · intro w' hSw; (try dsimp only at hSw); (go_simp <;> with_reducible rfl)
  simp only [List.setIfInBounds_toArray, List.set_cons_zero, List.set_cons_succ]
  refine take_in 5 27 (v := ?_) (oi := _) (ixA rfl) (by rfl) (by kernel_rfl) (by kernel_rfl) (by kernel_rfl) (by exact fun _ _ _ h => h) (Or.inl ⟨by rfl, ?_⟩) hS ?_
  rotate_left
  · intro w' hSw; (try dsimp only at hSw); (go_simp <;> with_reducible rfl)
  simp only [List.setIfInBounds_toArray, List.set_cons_zero, List.set_cons_succ]
  refine take_in 6 28 (v := ?_) (oi := _) (ixA rfl) (by rfl) (by kernel_rfl) (by kernel_rfl) (by kernel_rfl) (by exact fun _ _ _ h => h) (Or.inl ⟨by rfl, ?_⟩) hS ?_
  rotate_left
  · intro w' hSw; (try dsimp only at hSw); (go_simp <;> with_reducible rfl)
  simp only [List.setIfInBounds_toArray, List.set_cons_zero, List.set_cons_succ]
  refine take_in 7 29 (v := ?_) (oi := _) (ixA rfl) (by rfl) (by kernel_rfl) (by kernel_rfl) (by kernel_rfl) (by exact fun _ _ _ h => h) (Or.inl ⟨by rfl, ?_⟩) hS ?_
  rotate_left
  · intro w' hSw; (try dsimp only at hSw); (go_simp <;> with_reducible rfl)
  simp only [List.setIfInBounds_toArray, List.set_cons_zero, List.set_cons_succ]
  refine take_in 8 30 (v := ?_) (oi := _) (ixA rfl) (by rfl) (by kernel_rfl) (by kernel_rfl) (by kernel_rfl) (by exact fun _ _ _ h => h) (Or.inl ⟨by rfl, ?_⟩) hS ?_
  rotate_left
  · intro w' hSw; (try dsimp only at hSw); (go_simp <;> with_reducible rfl)
  simp only [List.setIfInBounds_toArray, List.set_cons_zero, List.set_cons_succ]
  refine wpAnyH_ready (rs := [9]) (by kernel_rfl) (by simp) ?_
  refine AllReadyH.cons (o := _) (ixA rfl) (fun K' hK' => ?_) AllReadyH.nil
  rw [if_pos (by rfl)]
  go_simp
  refine hK'.out _ _ (⟨q1, q2⟩) (fun hS => ?_)
  clear hK' K'
  try simp only [Act.put, List.setIfInBounds_toArray, List.set_cons_zero, List.set_cons_succ]
  refine wpAnyH_done (by kernel_rfl) ?_ _
  have hcl := HY.out w4.drew (m3 + 1) hb7 (HL4.out.under bD2 (fun q hq _ => hq) HL4.out.out) (by have := HM3.out; omega)
  obtain ⟨⟨q1, q2, q3, q4⟩, q5⟩ := HCE.out _ hb7
  have k1 := lt_of_cell q2
  have k3 := lt_of_cell q4
  clear hS HL4
  go_wp2_with fail
  refine hcl.mono ?_
  intro e w5 h5
  obtain ⟨b5, m5, rfl, hr5, hL5, hm5, hb8⟩ := h5.out
  have hb9 := hb7.trans hb8
  obtain ⟨w6, hdel, hL6, hb10⟩ := hL5.del HWF.out 0
  clear hcl q1 q2 q3 q4 q5
  go_wp2
  have hinv : (invoke (.builtin .delete #[62, 2] 0 #[false, false]) #[.map (some L.m3), .int .i64 nm]).run Tryz.prog w5 = .ok (.value (.tuple #[])) w6 := by
    simp [invoke, builtin, hdel]
  refine ⟨_, _, _, _, _, _, w6, _, rfl, rfl, hinv, results_tmp rfl _ _ _, ?_⟩
  exact ⟨b5, m5, rfl, hr5.but hb10 HS0.out (fun q hq _ => hq), hL6, by have := HSZ.out; have := HM3.out; omega, hb9.trans hb10⟩
theorem LesS.lookD {L : LesAt} {bd us : Int → Nat} {w : World} {A : Nat → Prop} {n : Nat} {P : Int → Option Tre} (h : LesS L bd us w A n P) {x : Int} (hx : (Lit.int .i64 x).wf = true) : ∃ U : Option Nat, (∀ k, (Instr.lookup 62 (.map (some L.m3)) (.int .i64 x) false).run Tryz.prog (w.drewN k) = .ok (ptrO U) (w.drewN k)) ∧ (P x).isSome = U.isSome ∧ ∀ T b, P x = some T → U = some b → PRep w A T b := by
  obtain ⟨D, U, h1, h2, h3⟩ := h.ma
  obtain ⟨k1, k2, k3⟩ := h3 x
  refine ⟨U x, fun k => ?_, k2, k3⟩
  have h1' := ownsL_but h1 (But.ofBelow (S := fun _ => False) (quietB w k)) (fun h => h)
  obtain ⟨v, ps, hr, hv⟩ := h1'.lookup Tryz.law2L Tryz.underlying62 (Tryz.zeroPL _) (zd := .held (.pointer none)) (zp := []) rfl (Tryz.keyL x hx)
  rw [k1] at hv
  have h9 := heldPL_inv hv
  simp only [Prod.mk.injEq, DataW.held.injEq] at h9
  rw [h9.1]
  exact hr
set_option maxRecDepth 20000 in
set_option maxHeartbeats 4000000 in
theorem write_var (L : LesAt) (bd us : Int → Nat) (n : Nd) (ks : List Tre) (V : Tre) (b : Nat) (A : Nat → Prop) (w : World) (m : Nat) (P : Int → Option Tre) (h7 : n.kind = 70) (hV : P n.num = some V) (hwf : (Lit.int .i64 n.num).wf = true) (h : LesS L bd us w A m P) (hR : PRep w A (.mk n ks) b) (s : Nat) :
    Calls Tryz.prog 35 #[.pointer (some ⟨L.lb, 0, none⟩), .pointer (some ⟨b, 0, none⟩)] w fun e w' => WrR L bd us w A m s (V, P) e w' := by
  obtain ⟨-, so, sc, hblk, -⟩ := hR.opened
  obtain ⟨c0, c1, -⟩ := nine hblk
  have lb : b < w.heap.size := lt_of_cell c0
  have cl := h.c2
  have ll : L.lb < w.heap.size := lt_of_cell cl
  obtain ⟨U, hlk, hU, hrep⟩ := h.lookD hwf
  rw [hV] at hU
  obtain ⟨u, rfl⟩ : ∃ u, U = some u := by
    cases U with
    | none => simp at hU
    | some u => exact ⟨u, rfl⟩
  have hru := hrep V u hV rfl
  simp only [ptrO] at hlk
  have HFIN : Hid (∀ W, Below w.heap.size w W → WrR L bd us w A m s (V, P) (.returned (.pointer (some ⟨u, 0, none⟩))) W) := fun W hW =>
    ⟨u, m, rfl, hru.under hW, h.under hW (fun q hq _ => hq) h.out, by omega, But.ofBelow hW⟩
  obtain ⟨kd, nm, tx, kk, pl⟩ := n
  simp only at c0 c1 h7 hlk
  subst h7
  clear hR hblk h hrep hru hwf hV hU
  go_enter Tryz.func35, Tryz.ntmps35
  go_wp2_with fail
  go_quiet (fail)
  go_wp2_with fail
  go_quiet (fail)
  go_wp2
  go_ret
  exact HFIN.out _ (Below.step (quietB w _) (quietB _ _))
set_option maxRecDepth 20000 in
set_option maxHeartbeats 4000000 in
theorem write_let (L : LesAt) (bd us : Int → Nat) (n : Nd) (x y : Tre) (b : Nat) (A : Nat → Prop) (w : World) (m : Nat) (P : Int → Option Tre) (R : Ending → World → Prop) (h8 : n.kind = 80) (hP : PlT (.mk n [x, y])) (hat : atomT bd x.nd = true) (hsi : singleT bd n.num = true) (h : LesS L bd us w A m P) (hR : PRep w A (.mk n [x, y]) b)
    (hrep : ∀ W, Below w.heap.size w W → Calls Tryz.prog 54 #[.pointer (some ⟨L.lb, 0, none⟩), .pointer (some ⟨b, 0, none⟩)] W fun e w' => R e w' ∧ ∃ c, e = .returned (.pointer (some ⟨c, 0, none⟩))) :
    Calls Tryz.prog 35 #[.pointer (some ⟨L.lb, 0, none⟩), .pointer (some ⟨b, 0, none⟩)] w fun e w' => R e w' ∧ True := by
  obtain ⟨-, so, sc, hblk, hK⟩ := hR.opened
  obtain ⟨c0, c1, -, -, -, c5⟩ := nine hblk
  obtain ⟨-, -, -, bs, h4⟩ := hK
  obtain ⟨g, hso, hgA, e0, hr0⟩ := h4 0 (by simp)
  simp only at hso
  subst hso
  simp only [List.getElem_cons_zero] at hr0
  generalize bs 0 = b0 at e0 hr0
  simp only [List.length_cons, List.length_nil, Nat.zero_add, Nat.reduceAdd] at c5
  have lb : b < w.heap.size := lt_of_cell c0
  have lg : g < w.heap.size := lt_of_cell e0
  have h1 : 1 ≤ n.num := (hP.node.numb (by omega)).1
  have HSI : Hid (∀ W, Below w.heap.size w W → Calls Tryz.prog 52 #[.pointer (some ⟨L.lb, 0, none⟩), .int .i64 n.num] W fun e w' => e = .returned (.bool true) ∧ Below W.heap.size W w') := fun W hW => by
    rw [← hsi]
    exact singleP_any L bd us W A m P (h.under hW (fun q hq _ => hq) h.out) n.num hP.node.num h1
  obtain ⟨nx, kx⟩ := x
  have HAT : Hid (∀ W, Below w.heap.size w W → Calls Tryz.prog 53 #[.pointer (some ⟨L.lb, 0, none⟩), .pointer (some ⟨b0, 0, none⟩)] W fun e w' => e = .returned (.bool true) ∧ Below W.heap.size W w') := fun W hW => by
    rw [← hat]
    exact atomP_any L bd us W A m P (h.under hW (fun q hq _ => hq) h.out) nx kx b0 (hP.kid _ (by simp)) (hr0.under hW)
  have HREP : Hid _ := hrep
  obtain ⟨kd, nm, tx, kk, pl⟩ := n
  simp only at c0 c1 c5 h8 HSI
  subst h8
  have HCE : Hid (∀ W, Below w.heap.size w W → W.cell? ⟨b, 0, none⟩ = some (.int .i64 80) ∧ W.cell? ⟨b, 1, none⟩ = some (.int .i64 nm) ∧ W.cell? ⟨b, 5, none⟩ = some (.slice (some ⟨g, 0, none⟩) 2 sc) ∧ W.cell? ⟨g, 0, none⟩ = some (.pointer (some ⟨b0, 0, none⟩))) := fun W hW => ⟨bcL hW lb c0, bcL hW lb c1, bcL hW lb c5, bcL hW lg e0⟩
  clear hR hblk h4 h hrep hP hat hsi hr0 h1
  go_enter Tryz.func35, Tryz.ntmps35
  go_wp2_with fail
  go_quiet (fail)
  have b8 := quietB w nq
  clear c0 c1 c5 e0
  generalize w.drewN nq = w1 at b8 ⊢
  obtain ⟨q0, q1, q5, qg⟩ := HCE.out w1 b8
  have k1 := lt_of_cell q0
  have k2 := lt_of_cell qg
  have hsi := HSI.out w1 b8
  go_wp2_with fail
  refine hsi.mono ?_
  rintro e w2 ⟨rfl, hb2⟩
  have b9 := Below.step b8 hb2
  clear hsi q0 q1 q5 qg k1 k2
  obtain ⟨q0, q1, q5, qg⟩ := HCE.out w2 b9
  have k1 := lt_of_cell q0
  have k2 := lt_of_cell qg
  have hat := HAT.out w2 b9
  go_wp2_with fail
  refine hat.mono ?_
  rintro e w3 ⟨rfl, hb3⟩
  have b10 := Below.step b9 hb3
  have hre := HREP.out w3 b10
  clear hat q0 q1 q5 qg k1 k2
  go_wp2_with fail
  refine hre.mono ?_
  rintro e w4 ⟨hr4, c, rfl⟩
  have HR4 : Hid _ := hr4
  clear hre hr4
  go_wp2
  go_ret
  exact ⟨HR4.out, trivial⟩
structure WrL (L : LesAt) (bd us : Int → Nat) (ks : List Tre) (P : Int → Option Tre) (w : World) (A : Nat → Prop) (G q m : Nat) (wr : World) (j : Nat) (bf : Nat → Nat) (mj : Nat) : Prop where
  row : Vals wr 65 G G q (fillV (fun i => .pointer (some ⟨bf i, 0, none⟩)) (.pointer none) j q)
  len : (seqF ((ks.take j).map (lessT bd us)) P).1.length = j
  kids : ∀ i (h : i < (seqF ((ks.take j).map (lessT bd us)) P).1.length), PRep wr (fun p => A p ∧ p ≠ G) (seqF ((ks.take j).map (lessT bd us)) P).1[i] (bf i)
  les : LesS L bd us wr (fun p => A p ∧ p ≠ G) mj (seqF ((ks.take j).map (lessT bd us)) P).2
  le : mj ≤ m + ((ks.take j).map szT).sum
  frame : But (fun p => p = L.m3 ∨ p = G) w wr
  lt : G < wr.heap.size
theorem WrL.step {L : LesAt} {bd us : Int → Nat} {ks : List Tre} {P : Int → Option Tre} {w : World} {A : Nat → Prop} {G q m : Nat} {wr w3 : World} {j : Nat} {bf : Nat → Nat} {mj m3 b3 : Nat} (h : WrL L bd us ks P w A G q m wr j bf mj) (hq : ks.length = q) (hj : j < q)
    (hL : L.lb ≠ G ∧ L.m1 ≠ G ∧ L.m2 ≠ G ∧ L.m3 ≠ G)
    (hr : PRep w3 (fun p => A p ∧ p ≠ G) (lessT bd us (ks[j]'(by omega)) (seqF ((ks.take j).map (lessT bd us)) P).2).1 b3) (hS : LesS L bd us w3 (fun p => A p ∧ p ≠ G) m3 (lessT bd us (ks[j]'(by omega)) (seqF ((ks.take j).map (lessT bd us)) P).2).2) (hm : m3 ≤ mj + szT (ks[j]'(by omega))) (hb : But (fun p => p = L.m3) wr w3) :
    WrL L bd us ks P w A G q m (w3.setCell ⟨G, j, none⟩ (.pointer (some ⟨b3, 0, none⟩))) (j + 1) (fun i => if i = j then b3 else bf i) m3 := by
  have hj9 : j < ks.length := by omega
  have ek : ks.take (j + 1) = ks.take j ++ [ks[j]] := by rw [List.take_append_getElem hj9]
  have es : seqF ((ks.take (j + 1)).map (lessT bd us)) P = ((seqF ((ks.take j).map (lessT bd us)) P).1 ++ [(lessT bd us ks[j] (seqF ((ks.take j).map (lessT bd us)) P).2).1], (lessT bd us ks[j] (seqF ((ks.take j).map (lessT bd us)) P).2).2) := by
    rw [ek, List.map_append]
    exact seqF_push _ _ P
  have hlen := h.len
  have hkids := h.kids
  have hles9 := h.les.out
  generalize seqF ((ks.take j).map (lessT bd us)) P = Q at es hlen hkids hr hS
  have hbut : But (fun p => p = G) w3 (w3.setCell ⟨G, j, none⟩ (.pointer (some ⟨b3, 0, none⟩))) := (But.refl (fun p => p = G) w3).setCell (p := ⟨G, j, none⟩) rfl _
  have hrow3 := h.row.but hb (fun e => hL.2.2.2 e.symm)
  have hnew := hrow3.set j (.pointer (some ⟨b3, 0, none⟩))
  rw [fillV_set _ _ _ _ _ hj] at hnew
  refine ⟨?_, ?_, ?_, ?_, ?_, ?_, ?_⟩
  · have e9 : (fun i => Value.pointer (some ⟨if i = j then b3 else bf i, 0, none⟩)) = (fun i => if i = j then Value.pointer (some ⟨b3, 0, none⟩) else Value.pointer (some ⟨bf i, 0, none⟩)) := by
      funext i
      by_cases e : i = j
      · simp [e]
      · simp [e]
    rw [e9]
    exact hnew
  · rw [es]
    simp [hlen]
  · rw [es]
    intro i hi
    simp only [List.length_append, List.length_cons, List.length_nil, hlen] at hi
    by_cases e : i = j
    · subst e
      have e9 : (Q.1 ++ [(lessT bd us ks[i] Q.2).1])[i]'(by simp; omega) = (lessT bd us ks[i] Q.2).1 := by
        rw [List.getElem_append_right (by rw [hlen]; omega)]
        simp [hlen]
      simp only [if_pos]
      rw [e9]
      exact hr.but hbut (fun p hp => hp.2) (fun p hp _ => hp)
    · have hi2 : i < Q.1.length := by rw [hlen]; omega
      have e9 : (Q.1 ++ [(lessT bd us ks[j] Q.2).1])[i]'(by simp [hlen]; omega) = Q.1[i] := List.getElem_append_left hi2
      simp only [if_neg e]
      rw [e9]
      exact ((hkids i hi2).but hb (fun p hp => hles9 p hp) (fun p hp _ => hp)).but hbut (fun p hp => hp.2) (fun p hp _ => hp)
  · rw [es]
    exact hS.turn hbut ⟨hL.1, hL.2.1, hL.2.2.1, hL.2.2.2⟩ (fun p hp => hp.2) (fun p hp _ => hp) hS.out
  · rw [ek, List.map_append, List.sum_append]
    have := h.le
    have e9 : (List.map szT [ks[j]]).sum = szT ks[j] := by simp
    omega
  · exact (h.frame.trans (hb.mono (fun p hp => .inl hp))).trans (hbut.mono (fun p hp => .inr hp))
  · rw [size_setCell]
    exact Nat.lt_of_lt_of_le h.lt hb.size
end Go.Proofs.YtemancdlnakkmaaGreat
