import Derived.Test.YtemancdlnakkmaaGreatWBO
namespace Go.Proofs.YtemancdlnakkmaaGreat
open Go.RowKit
def OptV (w' : World) (A : Nat → Prop) (o : Option Tre) (p : Option Addr) : Prop := match o with
  | none => p = none
  | some R => ∃ b, p = some ⟨b, 0, none⟩ ∧ PRep w' A R b
theorem OptP.out {w w' : World} {A : Nat → Prop} {o : Option Tre} {e : Ending} (h : OptP w A o e w') : ∃ p, e = .returned (.pointer p) ∧ Below w.heap.size w w' ∧ OptV w' A o p := by
  obtain ⟨hb, h⟩ := h
  cases o with
  | none => exact ⟨none, h, hb, rfl⟩
  | some R =>
    obtain ⟨b, h1, h2⟩ := h
    exact ⟨_, h1, hb, b, rfl, h2⟩
theorem OptP.mk {w w' : World} {A : Nat → Prop} {o : Option Tre} {p : Option Addr} (h : OptV w' A o p) (hb : Below w.heap.size w w') : OptP w A o (.returned (.pointer p)) w' := by
  refine ⟨hb, ?_⟩
  cases o with
  | none => simp only [OptV] at h; rw [h]
  | some R =>
    obtain ⟨b, h1, h2⟩ := h
    exact ⟨b, by rw [h1], h2⟩
theorem bcL {B : Nat} {w w' : World} (h : Below B w w') {g j : Nat} {v : Value} (hg : g < B) (hc : w.cell? ⟨g, j, none⟩ = some v) : w'.cell? ⟨g, j, none⟩ = some v := by
  have h9 := h.block g hg
  rw [← hc]
  simp only [World.cell?, h9]
theorem bin_none_of {op : List UInt8} {a b : Tre} (h1 : ¬ (op = [94] ∧ a.nd.kind = 73 ∧ b.nd.kind = 73)) (h2 : ¬ (a.nd.kind = 72 ∧ b.nd.kind = 72)) : binT op a b = none := by
  unfold binT
  rw [if_neg h1, if_neg h2]
def compT : Tre → Option Tre
  | .mk n ks =>
    if n.kind = 88 then (match ks with
      | [a, b] => binT n.text.toList a b
      | _ => none)
    else if n.kind = 89 then (match ks with
      | [a] => if n.text.toList = [126] ∧ a.nd.kind = 72 then some (leafT 72 (IntKind.i64.wrap (-a.nd.num)) ⟨#[]⟩) else none
      | _ => none)
    else none
set_option maxRecDepth 20000 in
set_option maxHeartbeats 4000000 in
theorem comp_none (lp : Value) (n : Nd) (ks : List Tre) (b : Nat) (A : Nat → Prop) (w : World) (hR : PRep w A (.mk n ks) b) (h8 : n.kind ≠ 88) (h9 : n.kind ≠ 89) :
    Calls Tryz.prog 86 #[lp, .pointer (some ⟨b, 0, none⟩)] w fun e w' => OptP w A (compT (.mk n ks)) e w' := by
  obtain ⟨-, so, sc, hblk, -⟩ := hR.opened
  obtain ⟨c0, -⟩ := nine hblk
  have lb : b < w.heap.size := lt_of_cell c0
  have hbr := Below.refl w.heap.size w
  have HV : Hid (compT (.mk n ks) = none) := by show _ = _; unfold compT; dsimp only; rw [if_neg h8, if_neg h9]
  obtain ⟨kd, nm, tx, kk, pl⟩ := n
  simp only at c0 h8 h9
  have t8 : (kd == 88) = false := by simpa using h8
  have t9 : (kd == 89) = false := by simpa using h9
  rw [HV.out]
  clear hR hblk h8 h9
  go_enter Tryz.func86, Tryz.ntmps86
  go_wp2
  go_ret
  exact ⟨hbr, rfl⟩
set_option maxRecDepth 20000 in
set_option maxHeartbeats 4000000 in
theorem comp_bin (lp : Value) (n : Nd) (ks : List Tre) (b : Nat) (A : Nat → Prop) (w : World) (hA : ∀ q, w.heap.size ≤ q → A q) (hP : PlT (.mk n ks)) (hR : PRep w A (.mk n ks) b) (h8 : n.kind = 88) :
    Calls Tryz.prog 86 #[lp, .pointer (some ⟨b, 0, none⟩)] w fun e w' => OptP w A (compT (.mk n ks)) e w' := by
  obtain ⟨x, y, rfl, -, -⟩ := hP.node.code2 (.inr (.inr h8))
  have px := hP.kid x (by simp)
  have py := hP.kid y (by simp)
  obtain ⟨-, so, sc, hblk, hK⟩ := hR.opened
  have HAR : Hid (∀ (kind : Int) (W : World), Below w.heap.size w W → Calls Tryz.prog 101 #[.int .i64 kind, .slice so 2 sc] W fun e w' => e = .returned (.bool ([x, y].all fun k => k.nd.kind == kind)) ∧ Below W.heap.size W w') := fun kind W hW => areOf_any kind [x, y] (so, 2, sc) A W (hK.under hW)
  obtain ⟨-, h2, h3, bs, h4⟩ := hK
  obtain ⟨g, hso, -, d0, hr0⟩ := h4 0 (by simp)
  obtain ⟨g', hso', -, d1, hr1⟩ := h4 1 (by simp)
  rw [hso] at hso'
  simp only [Option.some.injEq, Addr.mk.injEq, and_true] at hso'
  subst hso'
  subst hso
  simp only [List.getElem_cons_zero, List.getElem_cons_succ] at hr0 hr1
  obtain ⟨nx, kx⟩ := x
  obtain ⟨ny, ky⟩ := y
  obtain ⟨-, sox, scx, hbx, -⟩ := hr0.opened
  obtain ⟨-, soy, scy, hby, -⟩ := hr1.opened
  obtain ⟨x0, x1, x2, -⟩ := nine hbx
  obtain ⟨y0, y1, y2, -⟩ := nine hby
  have HV : Hid (compT (.mk n [.mk nx kx, .mk ny ky]) = binT n.text.toList (.mk nx kx) (.mk ny ky)) := by show _ = _; unfold compT; dsimp only; rw [if_pos h8]
  obtain ⟨kd, nm, tx, kk, pl⟩ := n
  simp only at h8 HV
  subst h8
  simp only [List.length_cons, List.length_nil, Nat.zero_add, Nat.reduceAdd] at hblk
  obtain ⟨c0, -, c2, -, -, c5⟩ := nine hblk
  have HX : Hid (nx.text.size ≤ 1048576 ∧ ny.text.size ≤ 1048576 ∧ (Lit.int .i64 nx.num).wf = true) := ⟨px.node.text, py.node.text, px.node.num⟩
  generalize bs 0 = b0 at d0 hr0 hbx x0 x1 x2
  generalize bs 1 = b1 at d1 hr1 hby y0 y1 y2
  obtain ⟨ax, an, at9, ak9, ap9⟩ := nx
  obtain ⟨bx, bn, bt9, bk9, bp9⟩ := ny
  simp only at x0 x1 x2 y0 y1 y2 HX
  have lb : b < w.heap.size := lt_of_cell c0
  have lg : g < w.heap.size := lt_of_cell d0
  have l0 : b0 < w.heap.size := lt_of_cell x0
  have l1 : b1 < w.heap.size := lt_of_cell y0
  rw [HV.out]
  have hbr := Below.refl w.heap.size w
  have HC9 : Hid (∀ W, Below w.heap.size w W → W.cell? ⟨b, 0, none⟩ = some (.int .i64 88) ∧ W.cell? ⟨b, 2, none⟩ = some (.string tx) ∧ W.cell? ⟨b, 5, none⟩ = some (.slice (some ⟨g, 0, none⟩) 2 sc) ∧ W.cell? ⟨g, 0, none⟩ = some (.pointer (some ⟨b0, 0, none⟩)) ∧ W.cell? ⟨g, 1, none⟩ = some (.pointer (some ⟨b1, 0, none⟩)) ∧ W.cell? ⟨b0, 1, none⟩ = some (.int .i64 an) ∧ W.cell? ⟨b1, 1, none⟩ = some (.int .i64 bn) ∧ W.cell? ⟨b0, 2, none⟩ = some (.string at9) ∧ W.cell? ⟨b1, 2, none⟩ = some (.string bt9)) :=
    fun W hW => ⟨bcL hW lb c0, bcL hW lb c2, bcL hW lb c5, bcL hW lg d0, bcL hW lg d1, bcL hW l0 x1, bcL hW l1 y1, bcL hW l0 x2, bcL hW l1 y2⟩
  clear hR hblk h4 hr0 hr1 hbx hby hP px py x1 x2 y1 y2 x0 y0
  by_cases h72 : ax = 72 ∧ bx = 72
  · obtain ⟨rfl, rfl⟩ := h72
    have HVA : Hid (binT tx.toList (.mk ⟨72, an, at9, ak9, ap9⟩ kx) (.mk ⟨72, bn, bt9, bk9, bp9⟩ ky) = arithT tx.toList an bn) := by show _ = _; unfold binT; simp [Tre.nd]
    rw [HVA.out]
    have HCN : Hid (∀ W, Below w.heap.size w W → Calls Tryz.prog 102 #[.string tx, .int .i64 an, .int .i64 bn] W fun e w' => OptP W A (arithT tx.toList an bn) e w') := fun W hW => computeNumber_any tx an bn (by have h9 := HX.out.2.2; simp only [Lit.wf, Bool.and_eq_true, decide_eq_true_eq] at h9; exact h9) A W (fun q hq => hA q (by have := hW.size; omega))
    obtain ⟨ob, hob⟩ : ∃ ob, arithT tx.toList an bn = ob := ⟨_, rfl⟩
    rw [hob] at HCN ⊢
    have hAr := HAR.out 72 w hbr
    have HCE : Hid (∀ W, Below w.heap.size w W → W.cell? ⟨b, 2, none⟩ = some (.string tx) ∧ W.cell? ⟨b, 5, none⟩ = some (.slice (some ⟨g, 0, none⟩) 2 sc) ∧ W.cell? ⟨g, 0, none⟩ = some (.pointer (some ⟨b0, 0, none⟩)) ∧ W.cell? ⟨g, 1, none⟩ = some (.pointer (some ⟨b1, 0, none⟩)) ∧ W.cell? ⟨b0, 1, none⟩ = some (.int .i64 an) ∧ W.cell? ⟨b1, 1, none⟩ = some (.int .i64 bn)) := fun W hW => by
      obtain ⟨q0, q2, q5, q6, q7, q8, q9, -, -⟩ := HC9.out W hW
      exact ⟨q2, q5, q6, q7, q8, q9⟩
    clear hob HC9 HAR
    go_enter Tryz.func86, Tryz.ntmps86
    go_wp2_with fail
    refine hAr.mono ?_
    rintro e w1 ⟨rfl, hb1⟩
    simp only [List.all_cons, List.all_nil, Tre.nd]
    clear hAr c0 c2 c5 d0 d1
    have ll : b < w1.heap.size := by have := hb1.size; omega
    have ll2 : g < w1.heap.size := by have := hb1.size; omega
    have ll3 : b0 < w1.heap.size := by have := hb1.size; omega
    have ll4 : b1 < w1.heap.size := by have := hb1.size; omega
    go_upto_region 2 with fail
    have bD := (Below.refl w1.heap.size w1).drew
    have hbD := Below.step hb1 bD
    refine wp_region_held_drew (S := fun w' => w'.cell? ⟨b, 2, none⟩ = some (.string tx) ∧ w'.cell? ⟨b, 5, none⟩ = some (.slice (some ⟨g, 0, none⟩) 2 sc) ∧ w'.cell? ⟨g, 0, none⟩ = some (.pointer (some ⟨b0, 0, none⟩)) ∧ w'.cell? ⟨g, 1, none⟩ = some (.pointer (some ⟨b1, 0, none⟩)) ∧ w'.cell? ⟨b0, 1, none⟩ = some (.int .i64 an) ∧ w'.cell? ⟨b1, 1, none⟩ = some (.int .i64 bn)) (by kernel_rfl) (HCE.out _ hbD) (fun hS => ?_)
    refine take_in 0 19 (v := ?_) (oi := _) (ixA rfl) (by rfl) (by kernel_rfl) (by kernel_rfl) (by kernel_rfl) (by exact fun _ _ _ h => h) (Or.inl ⟨by rfl, ?_⟩) hS ?_
    rotate_left
    · intro w' hSw; (try dsimp only at hSw); (go_simp <;> with_reducible rfl)
    simp only [List.setIfInBounds_toArray, List.set_cons_zero, List.set_cons_succ]
    refine take_in 1 20 (v := ?_) (oi := _) (ixA rfl) (by rfl) (by kernel_rfl) (by kernel_rfl) (by kernel_rfl) (by exact fun _ _ _ h => h) (Or.inl ⟨by rfl, ?_⟩) hS ?_
    rotate_left
    · intro w' hSw; (try dsimp only at hSw); (go_simp <;> with_reducible rfl)
    simp only [List.setIfInBounds_toArray, List.set_cons_zero, List.set_cons_succ]
    refine take_in 2 21 (v := ?_) (oi := _) (ixA rfl) (by rfl) (by kernel_rfl) (by kernel_rfl) (by kernel_rfl) (by exact fun _ _ _ h => h) (Or.inl ⟨by rfl, ?_⟩) hS ?_
    rotate_left
    · intro w' hSw; (try dsimp only at hSw); (go_simp <;> with_reducible rfl)
    simp only [List.setIfInBounds_toArray, List.set_cons_zero, List.set_cons_succ]
    refine take_in 3 22 (v := ?_) (oi := _) (ixA rfl) (by rfl) (by kernel_rfl) (by kernel_rfl) (by kernel_rfl) (by exact fun _ _ _ h => h) (Or.inl ⟨by rfl, ?_⟩) hS ?_
    rotate_left
    · intro w' hSw; (try dsimp only at hSw); (go_simp <;> with_reducible rfl)
    simp only [List.setIfInBounds_toArray, List.set_cons_zero, List.set_cons_succ]
    refine take_in 4 23 (v := ?_) (oi := _) (ixA rfl) (by rfl) (by kernel_rfl) (by kernel_rfl) (by kernel_rfl) (by exact fun _ _ _ h => h) (Or.inl ⟨by rfl, ?_⟩) hS ?_
    rotate_left
    · intro w' hSw; (try dsimp only at hSw); (go_simp <;> with_reducible rfl)
    simp only [List.setIfInBounds_toArray, List.set_cons_zero, List.set_cons_succ]
    refine take_in 5 24 (v := ?_) (oi := _) (ixA rfl) (by rfl) (by kernel_rfl) (by kernel_rfl) (by kernel_rfl) (by exact fun _ _ _ h => h) (Or.inl ⟨by rfl, ?_⟩) hS ?_
    rotate_left
    · intro w' hSw; (try dsimp only at hSw); (go_simp <;> with_reducible rfl)
    simp only [List.setIfInBounds_toArray, List.set_cons_zero, List.set_cons_succ]
    refine take_in 6 25 (v := ?_) (oi := _) (ixA rfl) (by rfl) (by kernel_rfl) (by kernel_rfl) (by kernel_rfl) (by exact fun _ _ _ h => h) (Or.inl ⟨by rfl, ?_⟩) hS ?_
    rotate_left
    · intro w' hSw; (try dsimp only at hSw); (go_simp <;> with_reducible rfl)
    simp only [List.setIfInBounds_toArray, List.set_cons_zero, List.set_cons_succ]
    refine take_in 7 26 (v := ?_) (oi := _) (ixA rfl) (by rfl) (by kernel_rfl) (by kernel_rfl) (by kernel_rfl) (by exact fun _ _ _ h => h) (Or.inl ⟨by rfl, ?_⟩) hS ?_
    rotate_left
    · intro w' hSw; (try dsimp only at hSw); (go_simp <;> with_reducible rfl)
    simp only [List.setIfInBounds_toArray, List.set_cons_zero, List.set_cons_succ]
    refine take_in 8 27 (v := ?_) (oi := _) (ixA rfl) (by rfl) (by kernel_rfl) (by kernel_rfl) (by kernel_rfl) (by exact fun _ _ _ h => h) (Or.inl ⟨by rfl, ?_⟩) hS ?_
    rotate_left
    · intro w' hSw; (try dsimp only at hSw); (go_simp <;> with_reducible rfl)
    simp only [List.setIfInBounds_toArray, List.set_cons_zero, List.set_cons_succ]
    refine take_in 9 28 (v := ?_) (oi := _) (ixA rfl) (by rfl) (by kernel_rfl) (by kernel_rfl) (by kernel_rfl) (by exact fun _ _ _ h => h) (Or.inl ⟨by rfl, ?_⟩) hS ?_
    rotate_left
    · intro w' hSw; (try dsimp only at hSw); (go_simp <;> with_reducible rfl)
    simp only [List.setIfInBounds_toArray, List.set_cons_zero, List.set_cons_succ]
    refine take_in 10 29 (v := ?_) (oi := _) (ixA rfl) (by rfl) (by kernel_rfl) (by kernel_rfl) (by kernel_rfl) (by exact fun _ _ _ h => h) (Or.inl ⟨by rfl, ?_⟩) hS ?_
    rotate_left
    · intro w' hSw; (try dsimp only at hSw); (go_simp <;> with_reducible rfl)
    simp only [List.setIfInBounds_toArray, List.set_cons_zero, List.set_cons_succ]
    refine take_in 11 30 (v := ?_) (oi := _) (ixA rfl) (by rfl) (by kernel_rfl) (by kernel_rfl) (by kernel_rfl) (by exact fun _ _ _ h => h) (Or.inl ⟨by rfl, ?_⟩) hS ?_
    rotate_left
    · intro w' hSw; (try dsimp only at hSw); (go_simp <;> with_reducible rfl)
    simp only [List.setIfInBounds_toArray, List.set_cons_zero, List.set_cons_succ]
    refine take_in 12 31 (v := ?_) (oi := _) (ixA rfl) (by rfl) (by kernel_rfl) (by kernel_rfl) (by kernel_rfl) (by exact fun _ _ _ h => h) (Or.inl ⟨by rfl, ?_⟩) hS ?_
    rotate_left
    · intro w' hSw; (try dsimp only at hSw); (go_simp <;> with_reducible rfl)
    simp only [List.setIfInBounds_toArray, List.set_cons_zero, List.set_cons_succ]
    refine take_in 13 32 (v := ?_) (oi := _) (ixA rfl) (by rfl) (by kernel_rfl) (by kernel_rfl) (by kernel_rfl) (by exact fun _ _ _ h => h) (Or.inl ⟨by rfl, ?_⟩) hS ?_
    rotate_left
    · intro w' hSw; (try dsimp only at hSw); (go_simp <;> with_reducible rfl)
    simp only [List.setIfInBounds_toArray, List.set_cons_zero, List.set_cons_succ]
    refine take_in 14 33 (v := ?_) (oi := _) (ixA rfl) (by rfl) (by kernel_rfl) (by kernel_rfl) (by kernel_rfl) (by exact fun _ _ _ h => h) (Or.inl ⟨by rfl, ?_⟩) hS ?_
    rotate_left
    · intro w' hSw; (try dsimp only at hSw); (go_simp <;> with_reducible rfl)
    simp only [List.setIfInBounds_toArray, List.set_cons_zero, List.set_cons_succ]
    refine take_in 15 34 (v := ?_) (oi := _) (ixA rfl) (by rfl) (by kernel_rfl) (by kernel_rfl) (by kernel_rfl) (by exact fun _ _ _ h => h) (Or.inl ⟨by rfl, ?_⟩) hS ?_
    rotate_left
    · intro w' hSw; (try dsimp only at hSw); (go_simp <;> with_reducible rfl)
    simp only [List.setIfInBounds_toArray, List.set_cons_zero, List.set_cons_succ]
    refine take_in 16 35 (v := ?_) (oi := _) (ixA rfl) (by rfl) (by kernel_rfl) (by kernel_rfl) (by kernel_rfl) (by exact fun _ _ _ h => h) (Or.inl ⟨by rfl, ?_⟩) hS ?_
    rotate_left
    · intro w' hSw; (try dsimp only at hSw); (go_simp <;> with_reducible rfl)
    simp only [List.setIfInBounds_toArray, List.set_cons_zero, List.set_cons_succ]
    refine take_in 17 36 (v := ?_) (oi := _) (ixA rfl) (by rfl) (by kernel_rfl) (by kernel_rfl) (by kernel_rfl) (by exact fun _ _ _ h => h) (Or.inl ⟨by rfl, ?_⟩) hS ?_
    rotate_left
    · intro w' hSw; (try dsimp only at hSw); (go_simp <;> with_reducible rfl)
    simp only [List.setIfInBounds_toArray, List.set_cons_zero, List.set_cons_succ]
    refine take_in 18 37 (v := ?_) (oi := _) (ixA rfl) (by rfl) (by kernel_rfl) (by kernel_rfl) (by kernel_rfl) (by exact fun _ _ _ h => h) (Or.inl ⟨by rfl, ?_⟩) hS ?_
    rotate_left
    · intro w' hSw; (try dsimp only at hSw); (go_simp <;> with_reducible rfl)
    simp only [List.setIfInBounds_toArray, List.set_cons_zero, List.set_cons_succ]
    refine take_in 19 38 (v := ?_) (oi := _) (ixA rfl) (by rfl) (by kernel_rfl) (by kernel_rfl) (by kernel_rfl) (by exact fun _ _ _ h => h) (Or.inl ⟨by rfl, ?_⟩) hS ?_
    rotate_left
    · intro w' hSw; (try dsimp only at hSw); (go_simp <;> with_reducible rfl)
    simp only [List.setIfInBounds_toArray, List.set_cons_zero, List.set_cons_succ]
    refine take_in 20 39 (v := ?_) (oi := _) (ixA rfl) (by rfl) (by kernel_rfl) (by kernel_rfl) (by kernel_rfl) (by exact fun _ _ _ h => h) (Or.inl ⟨by rfl, ?_⟩) hS ?_
    rotate_left
    · intro w' hSw; (try dsimp only at hSw); (go_simp <;> with_reducible rfl)
    simp only [List.setIfInBounds_toArray, List.set_cons_zero, List.set_cons_succ]
    refine take_in 21 40 (v := ?_) (oi := _) (ixA rfl) (by rfl) (by kernel_rfl) (by kernel_rfl) (by kernel_rfl) (by exact fun _ _ _ h => h) (Or.inl ⟨by rfl, ?_⟩) hS ?_
    rotate_left
    · intro w' hSw; (try dsimp only at hSw); (go_simp <;> with_reducible rfl)
    simp only [List.setIfInBounds_toArray, List.set_cons_zero, List.set_cons_succ]
    refine take_in 22 41 (v := ?_) (oi := _) (ixA rfl) (by rfl) (by kernel_rfl) (by kernel_rfl) (by kernel_rfl) (by exact fun _ _ _ h => h) (Or.inl ⟨by rfl, ?_⟩) hS ?_
    rotate_left
    · intro w' hSw; (try dsimp only at hSw); (go_simp <;> with_reducible rfl)
    simp only [List.setIfInBounds_toArray, List.set_cons_zero, List.set_cons_succ]
    refine take_in 23 42 (v := ?_) (oi := _) (ixA rfl) (by rfl) (by kernel_rfl) (by kernel_rfl) (by kernel_rfl) (by exact fun _ _ _ h => h) (Or.inl ⟨by rfl, ?_⟩) hS ?_
    rotate_left
    · intro w' hSw; (try dsimp only at hSw); (go_simp <;> with_reducible rfl)
    simp only [List.setIfInBounds_toArray, List.set_cons_zero, List.set_cons_succ]
    refine take_in 24 43 (v := ?_) (oi := _) (ixA rfl) (by rfl) (by kernel_rfl) (by kernel_rfl) (by kernel_rfl) (by exact fun _ _ _ h => h) (Or.inl ⟨by rfl, ?_⟩) hS ?_
    rotate_left
    · intro w' hSw; (try dsimp only at hSw); (go_simp <;> with_reducible rfl)
    simp only [List.setIfInBounds_toArray, List.set_cons_zero, List.set_cons_succ]
    refine wpAnyH_ready (rs := [25]) (by kernel_rfl) (by simp) ?_
    refine AllReadyH.cons (o := _) (ixA rfl) (fun K' hK' => ?_) AllReadyH.nil
    rw [if_pos (by rfl)]
    go_simp
    refine (HCN.out _ hbD).mono ?_
    intro e w3 h3
    obtain ⟨p, rfl, hb3, hv3⟩ := h3.out
    have hb4 := Below.step hbD hb3
    refine hK'.out _ _ (HCE.out _ hb4) (fun hS => ?_)
    clear hK' K'
    try simp only [Act.put, List.setIfInBounds_toArray, List.set_cons_zero, List.set_cons_succ]
    refine take_in 26 4 (v := ?_) (oi := _) (ixA rfl) (by rfl) (by kernel_rfl) (by kernel_rfl) (by kernel_rfl) (by exact fun _ _ _ h => h) (Or.inl ⟨by rfl, ?_⟩) hS ?_
    rotate_left
    · intro w' hSw; (try dsimp only at hSw); (go_simp <;> with_reducible rfl)
    simp only [List.setIfInBounds_toArray, List.set_cons_zero, List.set_cons_succ]
    refine wpAnyH_done (by kernel_rfl) ?_ _
    have HV3 : Hid _ := hv3
    clear hv3 hS HCE hb3 h3
    go_wp2
    go_ret
    exact OptP.mk HV3.out hb4
  have hf : ([(.mk ⟨ax, an, at9, ak9, ap9⟩ kx : Tre), .mk ⟨bx, bn, bt9, bk9, bp9⟩ ky].all fun k => k.nd.kind == 72) = false := by
    simp only [List.all_cons, List.all_nil, Tre.nd, Bool.and_true]
    rw [Bool.and_eq_false_iff]
    by_cases h9 : ax = 72
    · right; rw [beq_eq_false_iff_ne]; exact fun e => h72 ⟨h9, e⟩
    · left; rw [beq_eq_false_iff_ne]; exact h9
  have hAr := HAR.out 72 w hbr
  rw [hf] at hAr
  clear hf
  cases h94 : (tx.toList == [94])
  · have HVN : Hid (binT tx.toList (.mk ⟨ax, an, at9, ak9, ap9⟩ kx) (.mk ⟨bx, bn, bt9, bk9, bp9⟩ ky) = none) := bin_none_of (fun h => by rw [h.1] at h94; cases h94) h72
    rw [HVN.out]
    clear h72
    go_enter Tryz.func86, Tryz.ntmps86
    go_wp2_with fail
    refine hAr.mono ?_
    rintro e w1 ⟨rfl, hb1⟩
    obtain ⟨q0, q2, q5, -⟩ := HC9.out w1 hb1
    have ll : b < w1.heap.size := lt_of_cell q0
    clear hAr c0 c2 c5 d0 d1
    go_wp2
    go_ret
    exact ⟨hb1, rfl⟩
  have hbt := h94
  by_cases h73 : ax = 73 ∧ bx = 73
  · obtain ⟨rfl, rfl⟩ := h73
    have HVT : Hid (binT tx.toList (.mk ⟨73, an, at9, ak9, ap9⟩ kx) (.mk ⟨73, bn, bt9, bk9, bp9⟩ ky) = if at9.size + bt9.size ≤ 1000 then some (leafT 73 0 (at9 ++ bt9)) else none) := by
      show _ = _
      unfold binT
      rw [if_pos ⟨by simpa using h94, rfl, rfl⟩]
      rfl
    rw [HVT.out]
    have HCN : Hid (∀ W, Below w.heap.size w W → Calls Tryz.prog 103 #[.string at9, .string bt9] W fun e w' => OptP W A (if at9.size + bt9.size ≤ 1000 then some (leafT 73 0 (at9 ++ bt9)) else none) e w') := fun W hW => computeText_any at9 bt9 HX.out.1 HX.out.2.1 A W (fun q hq => hA q (by have := hW.size; omega))
    obtain ⟨ob, hob⟩ : ∃ ob, (if at9.size + bt9.size ≤ 1000 then some (leafT 73 0 (at9 ++ bt9)) else none) = ob := ⟨_, rfl⟩
    rw [hob] at HCN ⊢
    have HCE : Hid (∀ W, Below w.heap.size w W → W.cell? ⟨b, 5, none⟩ = some (.slice (some ⟨g, 0, none⟩) 2 sc) ∧ W.cell? ⟨g, 0, none⟩ = some (.pointer (some ⟨b0, 0, none⟩)) ∧ W.cell? ⟨g, 1, none⟩ = some (.pointer (some ⟨b1, 0, none⟩)) ∧ W.cell? ⟨b0, 2, none⟩ = some (.string at9) ∧ W.cell? ⟨b1, 2, none⟩ = some (.string bt9)) := fun W hW => by
      obtain ⟨q0, q2, q5, q6, q7, -, -, q8, q9⟩ := HC9.out W hW
      exact ⟨q5, q6, q7, q8, q9⟩
    clear hob h72
    go_enter Tryz.func86, Tryz.ntmps86
    go_wp2_with fail
    refine hAr.mono ?_
    rintro e w1 ⟨rfl, hb1⟩
    obtain ⟨q0, q2, q5, -⟩ := HC9.out w1 hb1
    have ll : b < w1.heap.size := lt_of_cell q0
    have hA2 := HAR.out 73 w1 hb1
    clear hAr c0 c2 c5 d0 d1
    go_wp2_with fail
    refine hA2.mono ?_
    rintro e w2 ⟨rfl, hb2⟩
    have hb12 := Below.step hb1 hb2
    simp only [List.all_cons, List.all_nil, Tre.nd]
    clear hA2 q0 q2 q5 ll hb1 hb2
    have ll : b < w2.heap.size := by have := hb12.size; omega
    have ll2 : g < w2.heap.size := by have := hb12.size; omega
    have ll3 : b0 < w2.heap.size := by have := hb12.size; omega
    have ll4 : b1 < w2.heap.size := by have := hb12.size; omega
    go_upto_region 4 with fail
    have bD := (Below.refl w2.heap.size w2).drew
    have hbD := Below.step hb12 bD
    refine wp_region_held_drew (S := fun w' => w'.cell? ⟨b, 5, none⟩ = some (.slice (some ⟨g, 0, none⟩) 2 sc) ∧ w'.cell? ⟨g, 0, none⟩ = some (.pointer (some ⟨b0, 0, none⟩)) ∧ w'.cell? ⟨g, 1, none⟩ = some (.pointer (some ⟨b1, 0, none⟩)) ∧ w'.cell? ⟨b0, 2, none⟩ = some (.string at9) ∧ w'.cell? ⟨b1, 2, none⟩ = some (.string bt9)) (by kernel_rfl) (HCE.out _ hbD) (fun hS => ?_)
    refine take_in 0 67 (v := ?_) (oi := _) (ixA rfl) (by rfl) (by kernel_rfl) (by kernel_rfl) (by kernel_rfl) (by exact fun _ _ _ h => h) (Or.inl ⟨by rfl, ?_⟩) hS ?_
    rotate_left
    · intro w' hSw; (try dsimp only at hSw); (go_simp <;> with_reducible rfl)
    simp only [List.setIfInBounds_toArray, List.set_cons_zero, List.set_cons_succ]
    refine take_in 1 68 (v := ?_) (oi := _) (ixA rfl) (by rfl) (by kernel_rfl) (by kernel_rfl) (by kernel_rfl) (by exact fun _ _ _ h => h) (Or.inl ⟨by rfl, ?_⟩) hS ?_
    rotate_left
    · intro w' hSw; (try dsimp only at hSw); (go_simp <;> with_reducible rfl)
    simp only [List.setIfInBounds_toArray, List.set_cons_zero, List.set_cons_succ]
    refine take_in 2 69 (v := ?_) (oi := _) (ixA rfl) (by rfl) (by kernel_rfl) (by kernel_rfl) (by kernel_rfl) (by exact fun _ _ _ h => h) (Or.inl ⟨by rfl, ?_⟩) hS ?_
    rotate_left
    · intro w' hSw; (try dsimp only at hSw); (go_simp <;> with_reducible rfl)
    simp only [List.setIfInBounds_toArray, List.set_cons_zero, List.set_cons_succ]
    refine take_in 3 70 (v := ?_) (oi := _) (ixA rfl) (by rfl) (by kernel_rfl) (by kernel_rfl) (by kernel_rfl) (by exact fun _ _ _ h => h) (Or.inl ⟨by rfl, ?_⟩) hS ?_
    rotate_left
    · intro w' hSw; (try dsimp only at hSw); (go_simp <;> with_reducible rfl)
    simp only [List.setIfInBounds_toArray, List.set_cons_zero, List.set_cons_succ]
    refine take_in 4 71 (v := ?_) (oi := _) (ixA rfl) (by rfl) (by kernel_rfl) (by kernel_rfl) (by kernel_rfl) (by exact fun _ _ _ h => h) (Or.inl ⟨by rfl, ?_⟩) hS ?_
    rotate_left
    · intro w' hSw; (try dsimp only at hSw); (go_simp <;> with_reducible rfl)
    simp only [List.setIfInBounds_toArray, List.set_cons_zero, List.set_cons_succ]
    refine take_in 5 72 (v := ?_) (oi := _) (ixA rfl) (by rfl) (by kernel_rfl) (by kernel_rfl) (by kernel_rfl) (by exact fun _ _ _ h => h) (Or.inl ⟨by rfl, ?_⟩) hS ?_
    rotate_left
    · intro w' hSw; (try dsimp only at hSw); (go_simp <;> with_reducible rfl)
    simp only [List.setIfInBounds_toArray, List.set_cons_zero, List.set_cons_succ]
    refine take_in 6 73 (v := ?_) (oi := _) (ixA rfl) (by rfl) (by kernel_rfl) (by kernel_rfl) (by kernel_rfl) (by exact fun _ _ _ h => h) (Or.inl ⟨by rfl, ?_⟩) hS ?_
    rotate_left
    · intro w' hSw; (try dsimp only at hSw); (go_simp <;> with_reducible rfl)
    simp only [List.setIfInBounds_toArray, List.set_cons_zero, List.set_cons_succ]
    refine take_in 7 74 (v := ?_) (oi := _) (ixA rfl) (by rfl) (by kernel_rfl) (by kernel_rfl) (by kernel_rfl) (by exact fun _ _ _ h => h) (Or.inl ⟨by rfl, ?_⟩) hS ?_
    rotate_left
    · intro w' hSw; (try dsimp only at hSw); (go_simp <;> with_reducible rfl)
    simp only [List.setIfInBounds_toArray, List.set_cons_zero, List.set_cons_succ]
    refine take_in 8 75 (v := ?_) (oi := _) (ixA rfl) (by rfl) (by kernel_rfl) (by kernel_rfl) (by kernel_rfl) (by exact fun _ _ _ h => h) (Or.inl ⟨by rfl, ?_⟩) hS ?_
    rotate_left
    · intro w' hSw; (try dsimp only at hSw); (go_simp <;> with_reducible rfl)
    simp only [List.setIfInBounds_toArray, List.set_cons_zero, List.set_cons_succ]
    refine take_in 9 76 (v := ?_) (oi := _) (ixA rfl) (by rfl) (by kernel_rfl) (by kernel_rfl) (by kernel_rfl) (by exact fun _ _ _ h => h) (Or.inl ⟨by rfl, ?_⟩) hS ?_
    rotate_left
    · intro w' hSw; (try dsimp only at hSw); (go_simp <;> with_reducible rfl)
    simp only [List.setIfInBounds_toArray, List.set_cons_zero, List.set_cons_succ]
    refine take_in 10 77 (v := ?_) (oi := _) (ixA rfl) (by rfl) (by kernel_rfl) (by kernel_rfl) (by kernel_rfl) (by exact fun _ _ _ h => h) (Or.inl ⟨by rfl, ?_⟩) hS ?_
    rotate_left
    · intro w' hSw; (try dsimp only at hSw); (go_simp <;> with_reducible rfl)
    simp only [List.setIfInBounds_toArray, List.set_cons_zero, List.set_cons_succ]
    refine take_in 11 78 (v := ?_) (oi := _) (ixA rfl) (by rfl) (by kernel_rfl) (by kernel_rfl) (by kernel_rfl) (by exact fun _ _ _ h => h) (Or.inl ⟨by rfl, ?_⟩) hS ?_
    rotate_left
    · intro w' hSw; (try dsimp only at hSw); (go_simp <;> with_reducible rfl)
    simp only [List.setIfInBounds_toArray, List.set_cons_zero, List.set_cons_succ]
    refine take_in 12 79 (v := ?_) (oi := _) (ixA rfl) (by rfl) (by kernel_rfl) (by kernel_rfl) (by kernel_rfl) (by exact fun _ _ _ h => h) (Or.inl ⟨by rfl, ?_⟩) hS ?_
    rotate_left
    · intro w' hSw; (try dsimp only at hSw); (go_simp <;> with_reducible rfl)
    simp only [List.setIfInBounds_toArray, List.set_cons_zero, List.set_cons_succ]
    refine take_in 13 80 (v := ?_) (oi := _) (ixA rfl) (by rfl) (by kernel_rfl) (by kernel_rfl) (by kernel_rfl) (by exact fun _ _ _ h => h) (Or.inl ⟨by rfl, ?_⟩) hS ?_
    rotate_left
    · intro w' hSw; (try dsimp only at hSw); (go_simp <;> with_reducible rfl)
    simp only [List.setIfInBounds_toArray, List.set_cons_zero, List.set_cons_succ]
    refine take_in 14 81 (v := ?_) (oi := _) (ixA rfl) (by rfl) (by kernel_rfl) (by kernel_rfl) (by kernel_rfl) (by exact fun _ _ _ h => h) (Or.inl ⟨by rfl, ?_⟩) hS ?_
    rotate_left
    · intro w' hSw; (try dsimp only at hSw); (go_simp <;> with_reducible rfl)
    simp only [List.setIfInBounds_toArray, List.set_cons_zero, List.set_cons_succ]
    refine take_in 15 82 (v := ?_) (oi := _) (ixA rfl) (by rfl) (by kernel_rfl) (by kernel_rfl) (by kernel_rfl) (by exact fun _ _ _ h => h) (Or.inl ⟨by rfl, ?_⟩) hS ?_
    rotate_left
    · intro w' hSw; (try dsimp only at hSw); (go_simp <;> with_reducible rfl)
    simp only [List.setIfInBounds_toArray, List.set_cons_zero, List.set_cons_succ]
    refine take_in 16 83 (v := ?_) (oi := _) (ixA rfl) (by rfl) (by kernel_rfl) (by kernel_rfl) (by kernel_rfl) (by exact fun _ _ _ h => h) (Or.inl ⟨by rfl, ?_⟩) hS ?_
    rotate_left
    · intro w' hSw; (try dsimp only at hSw); (go_simp <;> with_reducible rfl)
    simp only [List.setIfInBounds_toArray, List.set_cons_zero, List.set_cons_succ]
    refine take_in 17 84 (v := ?_) (oi := _) (ixA rfl) (by rfl) (by kernel_rfl) (by kernel_rfl) (by kernel_rfl) (by exact fun _ _ _ h => h) (Or.inl ⟨by rfl, ?_⟩) hS ?_
    rotate_left
    · intro w' hSw; (try dsimp only at hSw); (go_simp <;> with_reducible rfl)
    simp only [List.setIfInBounds_toArray, List.set_cons_zero, List.set_cons_succ]
    refine take_in 18 85 (v := ?_) (oi := _) (ixA rfl) (by rfl) (by kernel_rfl) (by kernel_rfl) (by kernel_rfl) (by exact fun _ _ _ h => h) (Or.inl ⟨by rfl, ?_⟩) hS ?_
    rotate_left
    · intro w' hSw; (try dsimp only at hSw); (go_simp <;> with_reducible rfl)
    simp only [List.setIfInBounds_toArray, List.set_cons_zero, List.set_cons_succ]
    refine take_in 19 86 (v := ?_) (oi := _) (ixA rfl) (by rfl) (by kernel_rfl) (by kernel_rfl) (by kernel_rfl) (by exact fun _ _ _ h => h) (Or.inl ⟨by rfl, ?_⟩) hS ?_
    rotate_left
    · intro w' hSw; (try dsimp only at hSw); (go_simp <;> with_reducible rfl)
    simp only [List.setIfInBounds_toArray, List.set_cons_zero, List.set_cons_succ]
    refine wpAnyH_ready (rs := [20]) (by kernel_rfl) (by simp) ?_
    refine AllReadyH.cons (o := _) (ixA rfl) (fun K' hK' => ?_) AllReadyH.nil
    rw [if_pos (by rfl)]
    go_simp
    refine (HCN.out _ hbD).mono ?_
    intro e w3 h3
    obtain ⟨p, rfl, hb3, hv3⟩ := h3.out
    have hb4 := Below.step hbD hb3
    refine hK'.out _ _ (HCE.out _ hb4) (fun hS => ?_)
    clear hK' K'
    try simp only [Act.put, List.setIfInBounds_toArray, List.set_cons_zero, List.set_cons_succ]
    refine take_in 21 4 (v := ?_) (oi := _) (ixA rfl) (by rfl) (by kernel_rfl) (by kernel_rfl) (by kernel_rfl) (by exact fun _ _ _ h => h) (Or.inl ⟨by rfl, ?_⟩) hS ?_
    rotate_left
    · intro w' hSw; (try dsimp only at hSw); (go_simp <;> with_reducible rfl)
    simp only [List.setIfInBounds_toArray, List.set_cons_zero, List.set_cons_succ]
    refine wpAnyH_done (by kernel_rfl) ?_ _
    have HV3 : Hid _ := hv3
    clear hv3 hS HCE hb3 h3
    go_wp2
    go_ret
    exact OptP.mk HV3.out hb4
  have HVN : Hid (binT tx.toList (.mk ⟨ax, an, at9, ak9, ap9⟩ kx) (.mk ⟨bx, bn, bt9, bk9, bp9⟩ ky) = none) := bin_none_of (fun h => h73 ⟨h.2.1, h.2.2⟩) h72
  have hf : ([(.mk ⟨ax, an, at9, ak9, ap9⟩ kx : Tre), .mk ⟨bx, bn, bt9, bk9, bp9⟩ ky].all fun k => k.nd.kind == 73) = false := by
    simp only [List.all_cons, List.all_nil, Tre.nd, Bool.and_true]
    rw [Bool.and_eq_false_iff]
    by_cases h9 : ax = 73
    · right; rw [beq_eq_false_iff_ne]; exact fun e => h73 ⟨h9, e⟩
    · left; rw [beq_eq_false_iff_ne]; exact h9
  rw [HVN.out]
  clear h72 h73
  go_enter Tryz.func86, Tryz.ntmps86
  go_wp2_with fail
  refine hAr.mono ?_
  rintro e w1 ⟨rfl, hb1⟩
  obtain ⟨q0, q2, q5, -⟩ := HC9.out w1 hb1
  have ll : b < w1.heap.size := lt_of_cell q0
  have hA2 := HAR.out 73 w1 hb1
  rw [hf] at hA2
  clear hAr c0 c2 c5 d0 d1 hf
  go_wp2_with fail
  refine hA2.mono ?_
  rintro e w2 ⟨rfl, hb2⟩
  have hb12 := Below.step hb1 hb2
  obtain ⟨p0, -⟩ := HC9.out w2 hb12
  have lp2 : b < w2.heap.size := lt_of_cell p0
  clear hA2 q0 q2 q5 ll hb1 hb2
  go_wp2
  go_ret
  exact ⟨hb12, rfl⟩
set_option maxRecDepth 20000 in
set_option maxHeartbeats 4000000 in
theorem comp_un (lp : Value) (n : Nd) (ks : List Tre) (b : Nat) (A : Nat → Prop) (w : World) (hA : ∀ q, w.heap.size ≤ q → A q) (hP : PlT (.mk n ks)) (hR : PRep w A (.mk n ks) b) (h9 : n.kind = 89) :
    Calls Tryz.prog 86 #[lp, .pointer (some ⟨b, 0, none⟩)] w fun e w' => OptP w A (compT (.mk n ks)) e w' := by
  obtain ⟨x, rfl, -⟩ := hP.node.code1 (.inr h9)
  obtain ⟨-, so, sc, hblk, hK⟩ := hR.opened
  have hAr := areOf_any 72 [x] (so, 1, sc) A w hK
  obtain ⟨-, h2, h3, bs, h4⟩ := hK
  obtain ⟨g, hso, -, d0, hr0⟩ := h4 0 (by simp)
  subst hso
  simp only [List.getElem_cons_zero] at hr0
  obtain ⟨nx, kx⟩ := x
  obtain ⟨-, sox, scx, hbx, -⟩ := hr0.opened
  obtain ⟨x0, x1, -⟩ := nine hbx
  have HV : Hid (compT (.mk n [.mk nx kx]) = if n.text.toList = [126] ∧ nx.kind = 72 then some (leafT 72 (IntKind.i64.wrap (-nx.num)) ⟨#[]⟩) else none) := by show _ = _; unfold compT; dsimp only; rw [if_neg (by omega), if_pos h9]; rfl
  obtain ⟨kd, nm, tx, kk, pl⟩ := n
  simp only at h9 HV
  subst h9
  simp only [List.length_cons, List.length_nil, Nat.zero_add] at hblk
  obtain ⟨c0, -, c2, -, -, c5⟩ := nine hblk
  generalize bs 0 = b0 at d0 hr0 hbx x0 x1
  obtain ⟨ax, an, at9, ak9, ap9⟩ := nx
  simp only [List.all_cons, List.all_nil, Tre.nd, Bool.and_true] at x0 x1 HV hAr
  have lb : b < w.heap.size := lt_of_cell c0
  have lg : g < w.heap.size := lt_of_cell d0
  have l0 : b0 < w.heap.size := lt_of_cell x0
  have hbr := Below.refl w.heap.size w
  have HC9 : Hid (∀ W, Below w.heap.size w W → W.cell? ⟨b, 0, none⟩ = some (.int .i64 89) ∧ W.cell? ⟨b, 5, none⟩ = some (.slice (some ⟨g, 0, none⟩) 1 sc) ∧ W.cell? ⟨g, 0, none⟩ = some (.pointer (some ⟨b0, 0, none⟩)) ∧ W.cell? ⟨b0, 1, none⟩ = some (.int .i64 an)) :=
    fun W hW => ⟨bcL hW lb c0, bcL hW lb c5, bcL hW lg d0, bcL hW l0 x1⟩
  rw [HV.out]
  clear hR hblk h4 hr0 hbx hP x0
  cases ht : (tx.toList == [126])
  · rw [if_neg (fun h => by rw [h.1] at ht; cases ht)]
    clear hAr
    go_enter Tryz.func86, Tryz.ntmps86
    go_wp2
    go_ret
    exact ⟨hbr, rfl⟩
  by_cases h72 : ax = 72
  rotate_left
  · have t72 : (ax == 72) = false := by simpa using h72
    rw [if_neg (fun h => h72 h.2)]
    rw [t72] at hAr
    clear h72 t72
    go_enter Tryz.func86, Tryz.ntmps86
    go_wp2_with fail
    refine hAr.mono ?_
    rintro e w1 ⟨rfl, hb1⟩
    clear hAr c0 c2 c5 d0
    go_wp2
    go_ret
    exact ⟨hb1, rfl⟩
  subst h72
  rw [if_pos ⟨by simpa using ht, rfl⟩, wr64]
  obtain ⟨wn, hwn⟩ : ∃ wn, wrap64 (-an) = wn := ⟨_, rfl⟩
  rw [hwn]
  go_enter Tryz.func86, Tryz.ntmps86
  go_wp2_with fail
  refine hAr.mono ?_
  rintro e w1 ⟨rfl, hb1⟩
  obtain ⟨q0, q5, q6, q7⟩ := HC9.out w1 hb1
  have ll : b < w1.heap.size := lt_of_cell q0
  have ll2 : g < w1.heap.size := lt_of_cell q6
  have ll3 : b0 < w1.heap.size := lt_of_cell q7
  have hL := newLeaf_any 72 wn ⟨#[]⟩ A w1 (fun q hq => hA q (by have := hb1.size; omega))
  clear hAr c0 c2 c5 d0 x1
  go_wp2_with fail
  refine hL.mono ?_
  rintro e w2 ⟨b9, rfl, hr, hb2, -⟩
  have HR : Hid _ := hr
  have hbb := Below.step hb1 hb2
  clear hL hr hb1 hb2 q0 q5 q6 q7
  go_wp2
  go_ret
  exact ⟨hbb, b9, rfl, HR.out⟩
theorem comp_any (lp : Value) (n : Nd) (ks : List Tre) (b : Nat) (A : Nat → Prop) (w : World) (hA : ∀ q, w.heap.size ≤ q → A q) (hP : PlT (.mk n ks)) (hR : PRep w A (.mk n ks) b) :
    Calls Tryz.prog 86 #[lp, .pointer (some ⟨b, 0, none⟩)] w fun e w' => OptP w A (compT (.mk n ks)) e w' := by
  by_cases h8 : n.kind = 88
  · exact comp_bin lp n ks b A w hA hP hR h8
  by_cases h9 : n.kind = 89
  · exact comp_un lp n ks b A w hA hP hR h9
  exact comp_none lp n ks b A w hR h8 h9
end Go.Proofs.YtemancdlnakkmaaGreat
