import Derived.Test.YtoiiibplkhedcaaGreatDoorWAG
set_option maxRecDepth 20000
set_option maxHeartbeats 2000000
namespace Go.Proofs.YtoiiibplkhedcaaGreatDoor
open Go.RowKit
theorem Qzn (j : Nat) : ptr (some j) = .pointer (some ⟨j, 0, none⟩) := rfl
theorem Qzo : ptr none = .pointer none := rfl
theorem Qtv (X : Nat → Prop) (f : Nat → CC) (lk : Nat → Option Nat) (t : Int) (d : Nat → Nat) (HA : Hid (Acyc (tdAt Classical.propDecidable X f t) d)) (HI : Hid (∀ b j, X b → (f b).td = some j → X j)) (w : World) (hC : Cells w X f lk) (b r : Nat) (hX : X b) (hr : Hd (tdAt Classical.propDecidable X f t) b r) :
    Calls Tryz.prog 126 #[.pointer (some ⟨b, 0, none⟩), .int .i64 t] w fun e w' => e = .returned (.pointer (some ⟨r, 0, none⟩)) ∧ w' = w := by
  go_enter Tryz.func126, Tryz.ntmps126
  go_wp2
  go_loopw [0] (fun v wr => ∃ (k : Nat), X k ∧ v = .pointer (some ⟨k, 0, none⟩) ∧ Hd (tdAt Classical.propDecidable X f t) k r ∧ wr = w) (fun v _ => d (blk v))
  case atStart => exact ⟨b, hX, rfl, hr, rfl⟩
  case round =>
    obtain ⟨k, hk, rfl, hrt, rfl⟩ := hrel
    obtain ⟨_, _, _, _, _, _, _, _, _, _, _, c11, c12, _⟩ := (hC.at' k hk).cell
    cases htd : (f k).td with
    | none =>
      have e : k = r := by
        cases hrt using Hd.inv with
        | root _ => rfl
        | step h1 _ => rw [tdAt_some, htd] at h1; cases h1.2.2
      subst e
      rw [htd, Qzo] at c11
      clear hrt hr htd
      go_wp2
      go_ret
      exact ⟨rfl, rfl⟩
    | some j =>
      rw [htd, Qzn] at c11
      by_cases hsi : (f k).si ≤ t
      · have tsi : decide ((f k).si ≤ t) = true := decide_eq_true hsi
        have e9 : tdAt Classical.propDecidable X f t k = some j := tdAt_some.2 ⟨hk, hsi, htd⟩
        have hj := HI.out k j hk htd
        have hrj : Hd (tdAt Classical.propDecidable X f t) j r := by
          cases hrt using Hd.inv with
          | root h1 => rw [e9] at h1; cases h1
          | step h1 h2 => rw [e9] at h1; cases h1; exact h2
        have hdj := HA.out k j e9
        clear hrt hr htd e9
        go_wp2
        go_roundw
        case rel => exact ⟨j, hj, rfl, hrj, trivial⟩
        case measure => simpa [blk] using hdj
      · have tsi : decide ((f k).si ≤ t) = false := decide_eq_false hsi
        have e : k = r := by
          cases hrt using Hd.inv with
          | root _ => rfl
          | step h1 _ => rw [tdAt_some] at h1; exact absurd h1.2.1 hsi
        subst e
        clear hrt hr htd
        go_wp2
        go_ret
        exact ⟨rfl, rfl⟩
end Go.Proofs.YtoiiibplkhedcaaGreatDoor
namespace Go.Proofs.YtoiiibplkhedcaaGreatDoor
/-! A walk that goes down first: what it is in is a path, what it has left leads to no circle. -/
def Down (kids : Nat → List Nat) (hf : Nat → Nat) (a b : Nat) : Prop := ∃ k ∈ kids a, hf k = b
def Jbl (kids : Nat → List Nat) (hf : Nat → Nat) (R : Nat × Nat → Prop) (x : Nat × Nat) : Prop :=
  (∃ (a b : Nat), x = (a, b) ∧ (Down kids hf a b)) ∨
  (∃ (a b c : Nat), x = (a, c) ∧ (Down kids hf a b) ∧ (R (b, c)))
structure Downs (kids : Nat → List Nat) (hf : Nat → Nat) (a : Nat) (b : Nat) : Prop where
  of ::
  lfp : Lfp (Jbl kids hf) (a, b)
theorem Downs.grows (kids : Nat → List Nat) (hf : Nat → Nat) : Qkq (Jbl kids hf) := by
  rintro R R' x h0 (⟨a, b, e0, h⟩ | ⟨a, b, c, e0, h, k⟩)
  · exact .inl ⟨a, b, e0, h⟩
  · exact .inr (⟨a, b, c, e0, h, h0 _ k⟩)
theorem Downs.one {kids : Nat → List Nat} {hf : Nat → Nat} {a b : Nat} (h : Down kids hf a b) : Downs kids hf a b :=
  ⟨Lfp.fold (Downs.grows kids hf) (.inl ⟨a, b, rfl, h⟩)⟩
theorem Downs.more {kids : Nat → List Nat} {hf : Nat → Nat} {a b c : Nat} (h : Down kids hf a b) (k : Downs kids hf b c) : Downs kids hf a c :=
  ⟨Lfp.fold (Downs.grows kids hf) (.inr (⟨a, b, c, rfl, h, k.lfp⟩))⟩
theorem Downs.elim {kids : Nat → List Nat} {hf : Nat → Nat} {motive : ∀ a b, Downs kids hf a b → Prop}
    (one : ∀ {a b : Nat} (h : Down kids hf a b), motive a b (Downs.one (a := a) (b := b) h))
    (more : ∀ {a b c : Nat} (h : Down kids hf a b) (k : Downs kids hf b c), motive b c (k) → motive a c (Downs.more (a := a) (b := b) (c := c) h k))
    {a : Nat} {b : Nat} (h : Downs kids hf a b) : motive a b h := by
  have key : ∀ h, motive (a, b).1 (a, b).2 h := Lfp.ind (Downs.grows kids hf) (p := fun x => ∀ h, motive x.1 x.2 h) (by
    rintro x (⟨a, b, e0, h⟩ | ⟨a, b, c, e0, h, k⟩) h9
    · subst e0; exact one (a := a) (b := b) h
    · subst e0; exact more (a := a) (b := b) (c := c) h ⟨k.1⟩ (k.2 _)) h.lfp
  exact key h
theorem Downs.snoc {kids : Nat → List Nat} {hf : Nat → Nat} {a b c : Nat} (h : Downs kids hf a b) (h2 : Down kids hf b c) : Downs kids hf a c := by
  induction h using Downs.elim with
  | one h1 => exact .more h1 (.one h2)
  | more h1 _ ih => exact .more h1 (ih h2)
def PathOk (kids : Nat → List Nat) (hf : Nat → Nat) (Lf : Nat → Prop) : Option Nat → List (Nat × List Nat) → Prop
  | _, [] => True
  | nx, (h, rest) :: p => (∃ done, kids h = done ++ rest ∧ (∀ k ∈ done, Lf (hf k) ∨ nx = some (hf k)) ∧ ∀ x, nx = some x → ∃ k ∈ done, hf k = x) ∧ PathOk kids hf Lf (some h) p
structure LeftOk (kids : Nat → List Nat) (hf : Nat → Nat) (Lf : Nat → Prop) (rk : Nat → Nat) : Prop where
  down : ∀ h, Lf h → ∀ k ∈ kids h, Lf (hf k) ∧ rk (hf k) < rk h
section
variable {kids : Nat → List Nat} {hf : Nat → Nat} {Lf : Nat → Prop}
theorem PathOk.push {h k : Nat} {rest : List Nat} {p : List (Nat × List Nat)} (H : PathOk kids hf Lf none ((h, k :: rest) :: p)) : PathOk kids hf Lf none ((hf k, kids (hf k)) :: (h, rest) :: p) := by
  obtain ⟨⟨done, h1, h2, _⟩, h4⟩ := H
  refine ⟨⟨[], rfl, by simp, (fun x e => by cases e)⟩, ⟨done ++ [k], by simp [h1], fun j hj => ?_, fun x e => ?_⟩, h4⟩
  · rcases List.mem_append.1 hj with hj | hj
    · rcases h2 j hj with h9 | h9
      · exact .inl h9
      · cases h9
    · simp only [List.mem_singleton] at hj
      subst hj
      exact .inr rfl
  · simp only [Option.some.injEq] at e
    exact ⟨k, by simp, e⟩
theorem PathOk.skip {h k : Nat} {rest : List Nat} {p : List (Nat × List Nat)} (H : PathOk kids hf Lf none ((h, k :: rest) :: p)) (hk : Lf (hf k)) : PathOk kids hf Lf none ((h, rest) :: p) := by
  obtain ⟨⟨done, h1, h2, _⟩, h4⟩ := H
  refine ⟨⟨done ++ [k], by simp [h1], fun j hj => ?_, (fun x e => by cases e)⟩, h4⟩
  rcases List.mem_append.1 hj with hj | hj
  · exact h2 j hj
  · simp only [List.mem_singleton] at hj
    subst hj
    exact .inl hk
theorem PathOk.mono {Lf' : Nat → Prop} (hL : ∀ x, Lf x → Lf' x) : ∀ {p : List (Nat × List Nat)} {nx : Option Nat}, PathOk kids hf Lf nx p → PathOk kids hf Lf' nx p := by
  intro p
  induction p with
  | nil => exact fun _ => trivial
  | cons a p ih =>
    intro nx H
    obtain ⟨⟨done, h1, h2, h3⟩, h4⟩ := H
    exact ⟨⟨done, h1, fun k hk => (h2 k hk).imp (hL _) id, h3⟩, ih h4⟩
theorem PathOk.pop {h : Nat} {p : List (Nat × List Nat)} (H : PathOk kids hf Lf none ((h, []) :: p)) : PathOk kids hf (fun x => Lf x ∨ x = h) none p := by
  obtain ⟨_, h4⟩ := H
  cases p with
  | nil => trivial
  | cons a p =>
    obtain ⟨⟨done, h1, h2, h3⟩, h5⟩ := h4
    refine ⟨⟨done, h1, fun k hk => .inl ?_, (fun x e => by cases e)⟩, h5.mono (fun x hx => .inl hx)⟩
    rcases h2 k hk with h9 | h9
    · exact .inl h9
    · simp only [Option.some.injEq] at h9
      exact .inr h9.symm
theorem Qvd (r : Nat → Nat) {l : List Nat} {k : Nat} (h : k ∈ l) : r k ≤ (l.map r).sum := by
  induction l with
  | nil => simp at h
  | cons a l ih =>
    simp only [List.map_cons, List.sum_cons]
    rcases List.mem_cons.1 h with rfl | h
    · omega
    · have := ih h
      omega
theorem LeftOk.pop {rk : Nat → Nat} (L : LeftOk kids hf Lf rk) {h : Nat} {p : List (Nat × List Nat)} (H : PathOk kids hf Lf none ((h, []) :: p)) (hn : ¬ Lf h) : ∃ rk', LeftOk kids hf (fun x => Lf x ∨ x = h) rk' := by
  obtain ⟨⟨done, h1, h2, _⟩, _⟩ := H
  rw [List.append_nil] at h1
  have hall : ∀ k ∈ kids h, Lf (hf k) := by
    intro k hk
    rw [h1] at hk
    rcases h2 k hk with h9 | h9
    · exact h9
    · cases h9
  refine ⟨fun x => if x = h then 1 + ((kids h).map (fun k => rk (hf k))).sum else rk x, ⟨fun x hx k hk => ?_⟩⟩
  rcases hx with hx | rfl
  · obtain ⟨a1, a2⟩ := L.down x hx k hk
    have n1 : x ≠ h := fun e => hn (e ▸ hx)
    have n2 : hf k ≠ h := fun e => hn (e ▸ a1)
    simp only [n1, n2, if_false]
    exact ⟨.inl a1, a2⟩
  · have a1 := hall k hk
    have n2 : hf k ≠ x := fun e => hn (e ▸ a1)
    simp only [n2, if_false, if_true]
    have := Qvd (fun k => rk (hf k)) hk
    exact ⟨.inl a1, by omega⟩
theorem PathOk.downs : ∀ {p : List (Nat × List Nat)} {h : Nat}, PathOk kids hf Lf (some h) p → ∀ x ∈ p.map Prod.fst, Downs kids hf x h := by
  intro p
  induction p with
  | nil => intro h _ x hx; simp at hx
  | cons a p ih =>
    intro h H x hx
    obtain ⟨⟨done, h1, _, h3⟩, h4⟩ := H
    obtain ⟨k, hk, e⟩ := h3 h rfl
    have hd : Down kids hf a.1 h := ⟨k, by rw [h1]; exact List.mem_append_left _ hk, e⟩
    rw [List.map_cons, List.mem_cons] at hx
    rcases hx with rfl | hx
    · exact .one hd
    · exact (ih h4 x hx).snoc hd
theorem PathOk.circle {h k : Nat} {rest : List Nat} {p : List (Nat × List Nat)} (H : PathOk kids hf Lf none ((h, k :: rest) :: p)) (hk : hf k = h ∨ hf k ∈ p.map Prod.fst) : Downs kids hf (hf k) (hf k) := by
  obtain ⟨⟨done, h1, _, _⟩, h4⟩ := H
  have hd : Down kids hf h (hf k) := ⟨k, by rw [h1]; simp, rfl⟩
  rcases hk with e | hx
  · rw [e] at hd ⊢
    exact .one hd
  · exact (h4.downs _ hx).snoc hd
theorem PathOk.reach {h k r : Nat} {rest : List Nat} {p : List (Nat × List Nat)} (H : PathOk kids hf Lf none ((h, k :: rest) :: p)) (hr : r = h ∨ r ∈ p.map Prod.fst) : Downs kids hf r (hf k) := by
  obtain ⟨⟨done, h1, _, _⟩, h4⟩ := H
  have hd : Down kids hf h (hf k) := ⟨k, by rw [h1]; simp, rfl⟩
  rcases hr with e | hx
  · rw [e]
    exact .one hd
  · exact (h4.downs _ hx).snoc hd
end
end Go.Proofs.YtoiiibplkhedcaaGreatDoor
namespace Go.Proofs.YtoiiibplkhedcaaGreatDoor
open Go.RowKit
def Shortened (X : Nat → Prop) (f : Nat → CC) (lk : Nat → Option Nat) (d : Nat → Nat) (w w' : World) : Prop := ∃ lk', Cells w' X f lk' ∧ SameHd lk lk' ∧ Acyc lk' d ∧ But X w w'
def Jcd : Value → Nat
  | .slice _ n _ => n
  | _ => 0
theorem But.undrew {S : Nat → Prop} {w w' : World} (h : But S w.drew w') : But S w w' := ⟨h.os, h.tape, h.output, h.size, h.block⟩
theorem Shortened.undrew {X : Nat → Prop} {f : Nat → CC} {lk : Nat → Option Nat} {d : Nat → Nat} {w w' : World} (h : Shortened X f lk d w.drew w') : Shortened X f lk d w w' := by
  obtain ⟨lk', h1, h2, h3, h4⟩ := h
  exact ⟨lk', h1, h2, h3, h4.undrew⟩
theorem Qtr (X : Nat → Prop) (f : Nat → CC) (lk : Nat → Option Nat) (d : Nat → Nat) (HA : Hid (Acyc lk d)) (w : World) (hC : Cells w X f lk) (c : Nat) (hX : X c) (hl : lk c = none) (bx : Nat) (level : Int) (hbx : w.cell? ⟨bx, 0, none⟩ = some (.int .i64 level)) (hbX : ¬ X bx) (hle : (f c).lv ≤ level) :
    Calls Tryz.prog 107 #[.pointer (some ⟨c, 0, none⟩), .pointer (some ⟨bx, 0, none⟩)] w fun e w' => e = .returned (.slice none 0 0) ∧ Shortened X f lk d w w' := by
  go_enter Tryz.func107, Tryz.ntmps107
  go_wp2_with fail
  refine (Qhh X f lk d HA w hC c c hX (Hd.root hl)).mono ?_
  rintro e w1 ⟨rfl, lk1, hC1, hS1, hA1, hB1, hz1⟩
  have hbx1 : w1.cell? ⟨bx, 0, none⟩ = some (.int .i64 level) := (hB1.cellB (Qaa hbx) hbX).trans hbx
  obtain ⟨_, _, _, _, _, _, _, _, c8, _, _, _, _, _⟩ := (hC1.at' c hX).cell
  have H9 : Hid (Shortened X f lk d w w1) := ⟨lk1, hC1, hS1, hA1, hB1⟩
  have tle : decide ((f c).lv ≤ level) = true := decide_eq_true hle
  clear hC hC1 hS1 hA1 hB1 hbx
  go_wp2
  go_quiet (fail)
  go_wp2
  go_ret
  obtain ⟨lk1, h1, h2, h3, h4⟩ := H9.out
  exact ⟨rfl, lk1, h1.drewN _, h2, h3, h4.drewN _⟩
theorem Qso (X : Nat → Prop) (f : Nat → CC) (lk : Nat → Option Nat) (d : Nat → Nat) (HA : Hid (Acyc lk d)) (w : World) (hC : Cells w X f lk) (c : Nat) (hX : X c) (hl : lk c = none) (bx g : Nat) (level : Int) (hbx : w.cell? ⟨bx, 0, none⟩ = some (.int .i64 level)) (hbX : ¬ X bx) (hle : (f c).lv ≤ level)
    (hg : w.cell? ⟨g, 0, none⟩ = some (.pointer (some ⟨c, 0, none⟩))) :
    Calls Tryz.prog 106 #[.slice (some ⟨g, 0, none⟩) 1 1, .func (.func 107) #[] #[.pointer (some ⟨bx, 0, none⟩)]] w fun e w' => e = .returned (.tuple #[]) ∧ Shortened X f lk d w w' := by
  have HC := Qtr X f lk d HA w.drew hC.drew c hX hl bx level hbx hbX hle
  go_enter Tryz.func106, Tryz.ntmps106
  go_wp2
  go_loopw [0] (fun v wr => (v = .slice (some ⟨g, 0, none⟩) 1 1 ∧ wr = w) ∨ (v = .slice (some ⟨g, 0, none⟩) 0 1 ∧ Shortened X f lk d w wr)) (fun v _ => Jcd v)
  case atStart => exact .inl ⟨rfl, rfl⟩
  case round =>
    rcases hrel with ⟨rfl, rfl⟩ | ⟨rfl, hS⟩
    · go_wp2_with fail
      go_region_law (go_simp; refine HC.mono ?_; rintro e w1 ⟨rfl, hS⟩)
      all_goals
        have hS := hS.undrew
        clear HC
        simp only [Act.put, List.getElem_toArray, List.getElem_cons_succ, List.getElem_cons_zero, List.setIfInBounds_toArray, List.set_cons_zero]
        go_wp2
        go_roundw
        case rel => exact .inr ⟨rfl, hS⟩
        case measure => simp [Jcd]
    · clear HC
      go_wp2
      go_end0
      exact ⟨rfl, hS⟩
theorem Qwr (X : Nat → Prop) (f : Nat → CC) (lk : Nat → Option Nat) (d : Nat → Nat) (HA : Hid (Acyc lk d)) (w : World) (hC : Cells w X f lk) (hlt : ∀ b, X b → b < w.heap.size) (c : Nat) (hX : X c) (hl : lk c = none) (level : Int) (hle : (f c).lv ≤ level) :
    Calls Tryz.prog 93 #[.pointer (some ⟨c, 0, none⟩), .int .i64 level] w fun e w' => e = .returned (.tuple #[]) ∧ Shortened X f lk d w w' := by
  have hb0 : Below w.heap.size w (w.alloc (.cells #[.int .i64 level] 3)) := (Below.refl _ w).alloc (Nat.le_refl _) _
  have hb1 := hb0.alloc hb0.size (.cells #[.pointer (some ⟨c, 0, none⟩)] 64)
  have hB : But (fun _ => False) w ((w.alloc (.cells #[.int .i64 level] 3)).alloc (.cells #[.pointer (some ⟨c, 0, none⟩)] 64)) := But.ofBelow hb1
  have hC1 := hC.but hB (fun _ _ h => h)
  have k0 : ((w.alloc (.cells #[.int .i64 level] 3)).alloc (.cells #[.pointer (some ⟨c, 0, none⟩)] 64)).cell? ⟨w.heap.size, 0, none⟩ = some (.int .i64 level) := by
    have h8 := heap_alloc_new w (.cells #[.int .i64 level] 3)
    have h9 := (heap_alloc_old (w.alloc (.cells #[.int .i64 level] 3)) (.cells #[.pointer (some ⟨c, 0, none⟩)] 64) (r := w.heap.size) (by simp)).trans h8
    rw [cell_of_row _ _ _ _ 3 (0, 0) h9]
    rfl
  have k1 : ((w.alloc (.cells #[.int .i64 level] 3)).alloc (.cells #[.pointer (some ⟨c, 0, none⟩)] 64)).cell? ⟨w.heap.size + 1, 0, none⟩ = some (.pointer (some ⟨c, 0, none⟩)) := by
    have h9 := heap_alloc_new (w.alloc (.cells #[.int .i64 level] 3)) (.cells #[.pointer (some ⟨c, 0, none⟩)] 64)
    rw [World.size_alloc] at h9
    rw [cell_of_row _ _ _ _ 64 (0, 0) h9]
    rfl
  have HU := Qso X f lk d HA _ hC1 c hX hl w.heap.size (w.heap.size + 1) level k0 (fun h => Nat.lt_irrefl _ (hlt _ h)) hle k1
  clear hC hC1 k0 k1 hb0 hb1
  go_enter Tryz.func93, Tryz.ntmps93
  go_wp2_with fail
  refine HU.mono ?_
  rintro e w1 ⟨rfl, lk1, h1, h2, h3, h4⟩
  clear HU
  have HR : Hid (Shortened X f lk d w w1) := ⟨lk1, h1, h2, h3, (hB.mono (fun _ h => h.elim)).trans h4⟩
  clear h1 h2 h3 h4 hB
  go_wp2
  go_end0
  exact ⟨rfl, HR.out⟩
end Go.Proofs.YtoiiibplkhedcaaGreatDoor
