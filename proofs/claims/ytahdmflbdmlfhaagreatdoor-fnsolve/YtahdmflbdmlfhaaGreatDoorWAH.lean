import Derived.Test.YtahdmflbdmlfhaaGreatDoorWAC
import Derived.Test.YtahdmflbdmlfhaaGreatDoorWAA
import Derived.Test.YtahdmflbdmlfhaaGreatDoorWAG
namespace Go.Proofs.YtahdmflbdmlfhaaGreatDoor

open Go.RowKit

/-- A pointer that may be nil, held against nil. -/
theorem ptr_some (j : Nat) : ptr (some j) = .pointer (some ⟨j, 0, none⟩) := rfl

theorem ptr_none : ptr none = .pointer none := rfl

set_option maxRecDepth 20000 in
set_option maxHeartbeats 2000000 in
theorem headAt_any (X : Nat → Prop) (f : Nat → CC) (lk : Nat → Option Nat) (t : Int) (d : Nat → Nat) (HA : Hid (Acyc (tdAt Classical.propDecidable X f t) d)) (HI : Hid (∀ b j, X b → (f b).td = some j → X j)) (w : World) (hC : Cells w X f lk) (b r : Nat) (hX : X b) (hr : Hd (tdAt Classical.propDecidable X f t) b r) :
    Calls Tryz.prog 94 #[.pointer (some ⟨b, 0, none⟩), .int .i64 t] w fun e w' => e = .returned (.pointer (some ⟨r, 0, none⟩)) ∧ w' = w := by
  go_enter Tryz.func94, Tryz.ntmps94
  go_wp2
  go_loopw [0] (fun v wr => ∃ (k : Nat), X k ∧ v = .pointer (some ⟨k, 0, none⟩) ∧ Hd (tdAt Classical.propDecidable X f t) k r ∧ wr = w) (fun v _ => d (blk v))
  case atStart => exact ⟨b, hX, rfl, hr, rfl⟩
  case round =>
    obtain ⟨k, hk, rfl, hrt, rfl⟩ := hrel
    obtain ⟨_, _, _, _, _, _, _, _, _, _, _, c11, c12, _⟩ := (hC.at' k hk).cell
    cases htd : (f k).td with
    | none =>
      have e : k = r := by
        cases hrt using Hd.inv with
        | root _ => rfl
        | step h1 _ => rw [tdAt_some, htd] at h1; cases h1.2.2
      subst e
      rw [htd, ptr_none] at c11
      clear hrt hr htd
      go_wp2
      go_ret
      exact ⟨rfl, rfl⟩
    | some j =>
      rw [htd, ptr_some] at c11
      by_cases hsi : (f k).si ≤ t
      · have tsi : decide ((f k).si ≤ t) = true := decide_eq_true hsi
        have e9 : tdAt Classical.propDecidable X f t k = some j := tdAt_some.2 ⟨hk, hsi, htd⟩
        have hj := HI.out k j hk htd
        have hrj : Hd (tdAt Classical.propDecidable X f t) j r := by
          cases hrt using Hd.inv with
          | root h1 => rw [e9] at h1; cases h1
          | step h1 h2 => rw [e9] at h1; cases h1; exact h2
        have hdj := HA.out k j e9
        clear hrt hr htd e9
        go_wp2
        go_roundw
        case rel => exact ⟨j, hj, rfl, hrj, trivial⟩
        case measure => simpa [blk] using hdj
      · have tsi : decide ((f k).si ≤ t) = false := decide_eq_false hsi
        have e : k = r := by
          cases hrt using Hd.inv with
          | root _ => rfl
          | step h1 _ => rw [tdAt_some] at h1; exact absurd h1.2.1 hsi
        subst e
        clear hrt hr htd
        go_wp2
        go_ret
        exact ⟨rfl, rfl⟩

end Go.Proofs.YtahdmflbdmlfhaaGreatDoor

namespace Go.Proofs.YtahdmflbdmlfhaaGreatDoor

/-! A walk that goes down first: what it is in is a path, what it has left leads to no circle. -/

/-- One step down, and more. -/
def Down (kids : Nat → List Nat) (hf : Nat → Nat) (a b : Nat) : Prop := ∃ k ∈ kids a, hf k = b

def DownsF (kids : Nat → List Nat) (hf : Nat → Nat) (R : Nat × Nat → Prop) (x : Nat × Nat) : Prop :=
  (∃ (a b : Nat), x = (a, b) ∧ (Down kids hf a b)) ∨
  (∃ (a b c : Nat), x = (a, c) ∧ (Down kids hf a b) ∧ (R (b, c)))

structure Downs (kids : Nat → List Nat) (hf : Nat → Nat) (a : Nat) (b : Nat) : Prop where
  of ::
  lfp : Lfp (DownsF kids hf) (a, b)

theorem Downs.grows (kids : Nat → List Nat) (hf : Nat → Nat) : Grows (DownsF kids hf) := by
  rintro R R' x h0 (⟨a, b, e0, h⟩ | ⟨a, b, c, e0, h, k⟩)
  · exact .inl ⟨a, b, e0, h⟩
  · exact .inr (⟨a, b, c, e0, h, h0 _ k⟩)

theorem Downs.one {kids : Nat → List Nat} {hf : Nat → Nat} {a b : Nat} (h : Down kids hf a b) : Downs kids hf a b :=
  ⟨Lfp.fold (Downs.grows kids hf) (.inl ⟨a, b, rfl, h⟩)⟩

theorem Downs.more {kids : Nat → List Nat} {hf : Nat → Nat} {a b c : Nat} (h : Down kids hf a b) (k : Downs kids hf b c) : Downs kids hf a c :=
  ⟨Lfp.fold (Downs.grows kids hf) (.inr (⟨a, b, c, rfl, h, k.lfp⟩))⟩

theorem Downs.elim {kids : Nat → List Nat} {hf : Nat → Nat} {motive : ∀ a b, Downs kids hf a b → Prop}
    (one : ∀ {a b : Nat} (h : Down kids hf a b), motive a b (Downs.one (a := a) (b := b) h))
    (more : ∀ {a b c : Nat} (h : Down kids hf a b) (k : Downs kids hf b c), motive b c (k) → motive a c (Downs.more (a := a) (b := b) (c := c) h k))
    {a : Nat} {b : Nat} (h : Downs kids hf a b) : motive a b h := by
  have key : ∀ h, motive (a, b).1 (a, b).2 h := Lfp.ind (Downs.grows kids hf) (p := fun x => ∀ h, motive x.1 x.2 h) (by
    rintro x (⟨a, b, e0, h⟩ | ⟨a, b, c, e0, h, k⟩) h9
    · subst e0; exact one (a := a) (b := b) h
    · subst e0; exact more (a := a) (b := b) (c := c) h ⟨k.1⟩ (k.2 _)) h.lfp
  exact key h

theorem Downs.inv {kids : Nat → List Nat} {hf : Nat → Nat} {motive : ∀ a b, Downs kids hf a b → Prop}
    (one : ∀ {a b : Nat} (h : Down kids hf a b), motive a b (Downs.one (a := a) (b := b) h))
    (more : ∀ {a b c : Nat} (h : Down kids hf a b) (k : Downs kids hf b c), motive a c (Downs.more (a := a) (b := b) (c := c) h k))
    {a : Nat} {b : Nat} (h : Downs kids hf a b) : motive a b h := by
  induction h using Downs.elim with
  | one h => exact one h
  | more h k _ => exact more h k

theorem Downs.snoc {kids : Nat → List Nat} {hf : Nat → Nat} {a b c : Nat} (h : Downs kids hf a b) (h2 : Down kids hf b c) : Downs kids hf a c := by
  induction h using Downs.elim with
  | one h1 => exact .more h1 (.one h2)
  | more h1 _ ih => exact .more h1 (ih h2)

/-- The path, its top first: each cell with its kids that are still to come; those ahead of them have been left, or are the next on the path. -/
def PathOk (kids : Nat → List Nat) (hf : Nat → Nat) (Lf : Nat → Prop) : Option Nat → List (Nat × List Nat) → Prop
  | _, [] => True
  | nx, (h, rest) :: p => (∃ done, kids h = done ++ rest ∧ (∀ k ∈ done, Lf (hf k) ∨ nx = some (hf k)) ∧ ∀ x, nx = some x → ∃ k ∈ done, hf k = x) ∧ PathOk kids hf Lf (some h) p

/-- What a walk leaves behind. -/
structure LeftOk (kids : Nat → List Nat) (hf : Nat → Nat) (Lf : Nat → Prop) (rk : Nat → Nat) : Prop where
  down : ∀ h, Lf h → ∀ k ∈ kids h, Lf (hf k) ∧ rk (hf k) < rk h

section
variable {kids : Nat → List Nat} {hf : Nat → Nat} {Lf : Nat → Prop}

theorem PathOk.push {h k : Nat} {rest : List Nat} {p : List (Nat × List Nat)} (H : PathOk kids hf Lf none ((h, k :: rest) :: p)) : PathOk kids hf Lf none ((hf k, kids (hf k)) :: (h, rest) :: p) := by
  obtain ⟨⟨done, h1, h2, _⟩, h4⟩ := H
  refine ⟨⟨[], rfl, by simp, (fun x e => by cases e)⟩, ⟨done ++ [k], by simp [h1], fun j hj => ?_, fun x e => ?_⟩, h4⟩
  · rcases List.mem_append.1 hj with hj | hj
    · rcases h2 j hj with h9 | h9
      · exact .inl h9
      · cases h9
    · simp only [List.mem_singleton] at hj
      subst hj
      exact .inr rfl
  · simp only [Option.some.injEq] at e
    exact ⟨k, by simp, e⟩

theorem PathOk.skip {h k : Nat} {rest : List Nat} {p : List (Nat × List Nat)} (H : PathOk kids hf Lf none ((h, k :: rest) :: p)) (hk : Lf (hf k)) : PathOk kids hf Lf none ((h, rest) :: p) := by
  obtain ⟨⟨done, h1, h2, _⟩, h4⟩ := H
  refine ⟨⟨done ++ [k], by simp [h1], fun j hj => ?_, (fun x e => by cases e)⟩, h4⟩
  rcases List.mem_append.1 hj with hj | hj
  · exact h2 j hj
  · simp only [List.mem_singleton] at hj
    subst hj
    exact .inl hk

theorem PathOk.mono {Lf' : Nat → Prop} (hL : ∀ x, Lf x → Lf' x) : ∀ {p : List (Nat × List Nat)} {nx : Option Nat}, PathOk kids hf Lf nx p → PathOk kids hf Lf' nx p := by
  intro p
  induction p with
  | nil => exact fun _ => trivial
  | cons a p ih =>
    intro nx H
    obtain ⟨⟨done, h1, h2, h3⟩, h4⟩ := H
    exact ⟨⟨done, h1, fun k hk => (h2 k hk).imp (hL _) id, h3⟩, ih h4⟩

theorem PathOk.pop {h : Nat} {p : List (Nat × List Nat)} (H : PathOk kids hf Lf none ((h, []) :: p)) : PathOk kids hf (fun x => Lf x ∨ x = h) none p := by
  obtain ⟨_, h4⟩ := H
  cases p with
  | nil => trivial
  | cons a p =>
    obtain ⟨⟨done, h1, h2, h3⟩, h5⟩ := h4
    refine ⟨⟨done, h1, fun k hk => .inl ?_, (fun x e => by cases e)⟩, h5.mono (fun x hx => .inl hx)⟩
    rcases h2 k hk with h9 | h9
    · exact .inl h9
    · simp only [Option.some.injEq] at h9
      exact .inr h9.symm

theorem sum_mem (r : Nat → Nat) {l : List Nat} {k : Nat} (h : k ∈ l) : r k ≤ (l.map r).sum := by
  induction l with
  | nil => simp at h
  | cons a l ih =>
    simp only [List.map_cons, List.sum_cons]
    rcases List.mem_cons.1 h with rfl | h
    · omega
    · have := ih h
      omega

theorem LeftOk.pop {rk : Nat → Nat} (L : LeftOk kids hf Lf rk) {h : Nat} {p : List (Nat × List Nat)} (H : PathOk kids hf Lf none ((h, []) :: p)) (hn : ¬ Lf h) : ∃ rk', LeftOk kids hf (fun x => Lf x ∨ x = h) rk' := by
  obtain ⟨⟨done, h1, h2, _⟩, _⟩ := H
  rw [List.append_nil] at h1
  have hall : ∀ k ∈ kids h, Lf (hf k) := by
    intro k hk
    rw [h1] at hk
    rcases h2 k hk with h9 | h9
    · exact h9
    · cases h9
  refine ⟨fun x => if x = h then 1 + ((kids h).map (fun k => rk (hf k))).sum else rk x, ⟨fun x hx k hk => ?_⟩⟩
  rcases hx with hx | rfl
  · obtain ⟨a1, a2⟩ := L.down x hx k hk
    have n1 : x ≠ h := fun e => hn (e ▸ hx)
    have n2 : hf k ≠ h := fun e => hn (e ▸ a1)
    simp only [n1, n2, if_false]
    exact ⟨.inl a1, a2⟩
  · have a1 := hall k hk
    have n2 : hf k ≠ x := fun e => hn (e ▸ a1)
    simp only [n2, if_false, if_true]
    have := sum_mem (fun k => rk (hf k)) hk
    exact ⟨.inl a1, by omega⟩

/-- What is on the path leads to its top. -/
theorem PathOk.downs : ∀ {p : List (Nat × List Nat)} {h : Nat}, PathOk kids hf Lf (some h) p → ∀ x ∈ p.map Prod.fst, Downs kids hf x h := by
  intro p
  induction p with
  | nil => intro h _ x hx; simp at hx
  | cons a p ih =>
    intro h H x hx
    obtain ⟨⟨done, h1, _, h3⟩, h4⟩ := H
    obtain ⟨k, hk, e⟩ := h3 h rfl
    have hd : Down kids hf a.1 h := ⟨k, by rw [h1]; exact List.mem_append_left _ hk, e⟩
    rw [List.map_cons, List.mem_cons] at hx
    rcases hx with rfl | hx
    · exact .one hd
    · exact (ih h4 x hx).snoc hd

theorem PathOk.circle {h k : Nat} {rest : List Nat} {p : List (Nat × List Nat)} (H : PathOk kids hf Lf none ((h, k :: rest) :: p)) (hk : hf k = h ∨ hf k ∈ p.map Prod.fst) : Downs kids hf (hf k) (hf k) := by
  obtain ⟨⟨done, h1, _, _⟩, h4⟩ := H
  have hd : Down kids hf h (hf k) := ⟨k, by rw [h1]; simp, rfl⟩
  rcases hk with e | hx
  · rw [e] at hd ⊢
    exact .one hd
  · exact (h4.downs _ hx).snoc hd

theorem PathOk.reach {h k r : Nat} {rest : List Nat} {p : List (Nat × List Nat)} (H : PathOk kids hf Lf none ((h, k :: rest) :: p)) (hr : r = h ∨ r ∈ p.map Prod.fst) : Downs kids hf r (hf k) := by
  obtain ⟨⟨done, h1, _, _⟩, h4⟩ := H
  have hd : Down kids hf h (hf k) := ⟨k, by rw [h1]; simp, rfl⟩
  rcases hr with e | hx
  · rw [e]
    exact .one hd
  · exact (h4.downs _ hx).snoc hd

end

end Go.Proofs.YtahdmflbdmlfhaaGreatDoor

namespace Go.Proofs.YtahdmflbdmlfhaaGreatDoor
open Go.RowKit

/-! A store that has grown was, at every time, what it was, and what is new. -/

section
variable {lv : Int} {ok : (Int → DT) → Prop} {X X' : Nat → Prop} {f f' : Nat → CC} {lk : Nat → Option Nat} {K K' : (Option Addr × Nat × Nat) → List Nat} {U U' : Int → Int → Option Nat} {now : Int}

theorem Grow.tdAt (h : Grow lv ok X f lk K U X' f' lk K' U') (t : Int) : tdAt Classical.propDecidable X' f' t = tdAt Classical.propDecidable X f t := by
  funext i
  by_cases hx : X i
  · have e := h.old i hx
    cases e2 : Go.Proofs.YtahdmflbdmlfhaaGreatDoor.tdAt Classical.propDecidable X f t i with
    | none =>
      rw [tdAt_none] at e2 ⊢
      intro _ h2
      rw [e] at h2 ⊢
      exact e2 hx h2
    | some j =>
      rw [tdAt_some] at e2 ⊢
      rw [e]
      exact ⟨h.sub i hx, e2.2⟩
  · have e2 : Go.Proofs.YtahdmflbdmlfhaaGreatDoor.tdAt Classical.propDecidable X f t i = none := tdAt_none.2 (fun h9 => absurd h9 hx)
    rw [e2, tdAt_none]
    intro h1 _
    exact (h.new i h1 hx).1

theorem Grow.gcAt_old (h : Grow lv ok X f lk K U X' f' lk K' U') (t : Int) {i : Nat} (hi : X i) : gcAt K' f' t i = gcAt K f t i := by
  have e := h.old i hi
  have e2 := congrArg GC.ks (h.same i hi)
  simp only [gc, e] at e2
  simp only [gcAt, e, e2]

theorem Grow.gcAt_new (h : Grow lv ok X f lk K U X' f' lk K' U') {t : Int} (ht : 0 ≤ t) {i : Nat} (hi : X' i) (hn : ¬ X i) : gcAt K' f' t i = gc K' f' i := by
  have e := (h.new i hi hn).2.1
  unfold gcAt gc
  rw [e, decide_eq_false (by omega), Bool.false_or]

theorem Grow.backAt (h : Grow lv ok X f lk K U X' f' lk K' U') {t : Int} {θ : Nat → DT} (hs : SatC X' (gcAt K' f' t) (Go.Proofs.YtahdmflbdmlfhaaGreatDoor.tdAt Classical.propDecidable X' f' t) θ) : SatC X (gcAt K f t) (Go.Proofs.YtahdmflbdmlfhaaGreatDoor.tdAt Classical.propDecidable X f t) θ := by
  rw [h.tdAt t] at hs
  refine ⟨hs.1, fun i hi hl ho => ?_⟩
  have h9 := hs.2 i (h.sub i hi) hl (by rw [h.gcAt_old t hi]; exact ho)
  rw [h.gcAt_old t hi] at h9
  exact h9

theorem Grow.onAt (h : Grow lv ok X f lk K U X' f' lk K' U') {t : Int} (ht : 0 ≤ t) (hX : ∀ b j, X b → (f b).td = some j → X j) (hself : ∀ i, X i → ∀ k ∈ K (f i).ks, X k) {θ : Nat → DT} (hs : SatC X (gcAt K f t) (Go.Proofs.YtahdmflbdmlfhaaGreatDoor.tdAt Classical.propDecidable X f t) θ) (ρ : Int → DT) (hρ : ok ρ) : ∃ θ', SatC X' (gcAt K' f' t) (Go.Proofs.YtahdmflbdmlfhaaGreatDoor.tdAt Classical.propDecidable X' f' t) θ' ∧ (∀ i, X i → θ' i = θ i) ∧ ∀ x b, U lv x = none → U' lv x = some b → θ' b = ρ x := by
  obtain ⟨θ', s1, s2, s3⟩ := h.onG (gcAt K f t) (Go.Proofs.YtahdmflbdmlfhaaGreatDoor.tdAt Classical.propDecidable X f t) (fun i j e => by rw [tdAt_some] at e; exact ⟨e.1, hX i j e.1 e.2.2⟩) hself θ hs ρ hρ
  refine ⟨θ', ?_, s2, s3⟩
  rw [h.tdAt t]
  refine satC_congr (fun i hi => ?_) s1
  by_cases hx : X i
  · rw [mixG_in hx, h.gcAt_old t hx]
  · rw [mixG_out hx, h.gcAt_new ht hi hx]

theorem Grow.hist (h : Grow 1 ok X f lk K U X' f' lk K' U') (H : Hist X f lk now) : Hist X' f' lk now := by
  have e := h.tdAt now
  refine ⟨H.now0, by rw [e]; exact H.hd, by rw [e]; exact H.acyc, fun b j hb hj => ?_, fun b j hb hj => ?_, fun b hb => ?_, fun b hb hk => ?_⟩
  all_goals by_cases hx : X b
  · rw [h.old b hx] at hj; exact h.sub j (H.inX b j hx hj)
  · rw [(h.new b hb hx).1] at hj; cases hj
  · rw [h.old b hx] at hj ⊢; exact H.si b j hx hj
  · rw [(h.new b hb hx).1] at hj; cases hj
  · rw [h.old b hx]; exact H.told b hx
  · rw [(h.new b hb hx).2.1]; exact ⟨Int.le_refl _, H.now0⟩
  · rw [h.old b hx] at hk ⊢; exact H.open' b hx hk
  · exact (h.new b hb hx).2.2.2 hk

/-- The time goes on. -/
theorem Hist.later (H : Hist X f lk now) {now' : Int} (hn : now ≤ now') : Hist X f lk now' := by
  have e : Go.Proofs.YtahdmflbdmlfhaaGreatDoor.tdAt Classical.propDecidable X f now' = Go.Proofs.YtahdmflbdmlfhaaGreatDoor.tdAt Classical.propDecidable X f now := by
    funext i
    cases e2 : Go.Proofs.YtahdmflbdmlfhaaGreatDoor.tdAt Classical.propDecidable X f now i with
    | none =>
      rw [tdAt_none] at e2 ⊢
      intro h1 _
      cases e3 : (f i).td with
      | none => rfl
      | some j =>
        have h9 := e2 h1 (H.si i j h1 e3)
        rw [e3] at h9
        cases h9
    | some j =>
      rw [tdAt_some] at e2 ⊢
      exact ⟨e2.1, by omega, e2.2.2⟩
  exact ⟨by have := H.now0; omega, by rw [e]; exact H.hd, by rw [e]; exact H.acyc, H.inX, fun b j hb hj => by have := H.si b j hb hj; omega, fun b hb => by have := H.told b hb; omega, H.open'⟩

theorem hd_inX (hin : ∀ i j, lk i = some j → X i ∧ X j) {i r : Nat} (hr : Hd lk i r) (hi : X i) : X r := by
  induction hr using Hd.elim with
  | root _ => exact hi
  | step h1 _ ih => exact ih (hin _ _ h1).2

theorem Grow.num (h : Grow 1 ok X f lk K U X' f' lk K' U') (hU : NumOk X (U 1) f lk) (hUX : ∀ x b, U 1 x = some b → X b) (hU' : ∀ i, X' i → ¬ X i → (f' i).nd.kind = 61 → U' 1 (f' i).nd.num = some i) : NumOk X' (U' 1) f' lk := by
  have hlX : ∀ i, ¬ X i → lk i = none := by
    intro i hx
    cases e : lk i with
    | none => rfl
    | some j => exact absurd (h.inX i j e).1 hx
  refine ⟨fun x b r hu hr ho => ?_, fun r hX hl ho => ?_⟩
  · cases e : U 1 x with
    | some c =>
      have h1 := h.keep 1 x c e
      rw [h1] at hu
      cases hu
      have hXr : X r := hd_inX h.inX hr (hUX x b e)
      rw [h.old r hXr] at ho ⊢
      exact hU.low x b r e hr ho
    | none =>
      obtain ⟨p1, p2, p3⟩ := h.leaf x b e hu
      have hrb : r = b := hr.fun (.root (hlX b p3))
      subst hrb
      omega
  · by_cases hx : X r
    · rw [h.old r hx] at ho ⊢
      obtain ⟨c, c1, c2⟩ := hU.has r hx hl ho
      exact ⟨c, h.keep 1 _ c c1, c2⟩
    · have hk : (f' r).nd.kind = 61 := by
        unfold CC.open? at ho
        simp only [Bool.and_eq_true, beq_iff_eq] at ho
        exact ho.1
      exact ⟨r, hU' r hX hx hk, .root (hlX r hx)⟩

end

end Go.Proofs.YtahdmflbdmlfhaaGreatDoor

namespace Go.Proofs.YtahdmflbdmlfhaaGreatDoor
open Go.RowKit

/-! What a store says of the pairs that it has taken in, at every time. -/

/-- The two terms of a pair make the same of what the unknowns are. -/
def Holds (σ : Nd → DT) (p : List Nd × List Nd) : Prop := ∃ d, Ev σ p.1 d ∧ Ev σ p.2 d

theorem Holds.congr {σ σ' : Nd → DT} {p : List Nd × List Nd} (h : Holds σ p) (hσ : ∀ n, n ∈ p.1 ∨ n ∈ p.2 → n.kind = 61 → σ n = σ' n) : Holds σ' p := by
  obtain ⟨d, h1, h2⟩ := h
  exact ⟨d, h1.congr fun n hn hk => hσ n (.inl hn) hk, h2.congr fun n hn hk => hσ n (.inr hn) hk⟩

section
variable {ps : List (List Nd × List Nd)} {k : Nat} {ok : (Int → DT) → Prop} {X X' : Nat → Prop} {f f' : Nat → CC} {lk lk' : Nat → Option Nat} {K K' : (Option Addr × Nat × Nat) → List Nat} {U U' : Int → Int → Option Nat}

/-- What holds at each of the first k times. -/
structure TimeM (ps : List (List Nd × List Nd)) (k : Nat) (X : Nat → Prop) (f : Nat → CC) (K : (Option Addr × Nat × Nat) → List Nat) (U : Int → Int → Option Nat) : Prop where
  known : ∀ i (h : i < ps.length), i < k → ∀ n, n ∈ ps[i].1 ∨ n ∈ ps[i].2 → n.kind = 61 → ∃ b, U 1 n.num = some b
  inX : ∀ x b, U 1 x = some b → X b
  sound : ∀ t : Nat, t < k → ∀ θ, SatC X (gcAt K f t) (tdAt Classical.propDecidable X f t) θ → ∀ i (h : i < ps.length), i ≤ t → Holds (sg U 1 θ) ps[i]
  full : ∀ t : Nat, t < k → ∀ ρ : Int → DT, (∀ i (h : i < ps.length), i ≤ t → Holds (fun n => ρ n.num) ps[i]) → ∃ θ, SatC X (gcAt K f t) (tdAt Classical.propDecidable X f t) θ ∧ ∀ x b, U 1 x = some b → θ b = ρ x

/-- The same, and what holds now. -/
structure LoopM (ps : List (List Nd × List Nd)) (k : Nat) (X : Nat → Prop) (f : Nat → CC) (lk : Nat → Option Nat) (K : (Option Addr × Nat × Nat) → List Nat) (U : Int → Int → Option Nat) : Prop where
  times : TimeM ps k X f K U
  csound : ∀ θ, SatC X (gc K f) lk θ → ∀ i (h : i < ps.length), i < k → Holds (sg U 1 θ) ps[i]
  cur : ∀ ρ : Int → DT, (∀ i (h : i < ps.length), i < k → Holds (fun n => ρ n.num) ps[i]) → ∃ θ, SatC X (gc K f) lk θ ∧ ∀ x b, U 1 x = some b → θ b = ρ x

theorem sg_keepL (hk : ∀ l x b, U l x = some b → U' l x = some b) (θ : Nat → DT) {n : Nd} (hn : ∃ b, U 1 n.num = some b) : sg U 1 θ n = sg U' 1 θ n := by
  obtain ⟨b, hb⟩ := hn
  unfold sg
  rw [hb, hk 1 _ b hb]

theorem sg_of {θ : Nat → DT} {ρ : Int → DT} (h : ∀ x b, U 1 x = some b → θ b = ρ x) {n : Nd} (hn : ∃ b, U 1 n.num = some b) : sg U 1 θ n = ρ n.num := by
  obtain ⟨b, hb⟩ := hn
  unfold sg
  rw [hb]
  exact h _ b hb

theorem grow_read (h : Grow 1 ok X f lk K U X' f' lk K' U') (hin : ∀ x b, U 1 x = some b → X b) {θ θ' : Nat → DT} {ρ : Int → DT} (h1 : ∀ x b, U 1 x = some b → θ b = ρ x) (s2 : ∀ i, X i → θ' i = θ i) (s3 : ∀ x b, U 1 x = none → U' 1 x = some b → θ' b = ρ x) (x : Int) (b : Nat) (hb : U' 1 x = some b) : θ' b = ρ x := by
  cases e : U 1 x with
  | some c =>
    have h9 := h.keep 1 x c e
    rw [h9] at hb
    cases hb
    rw [s2 b (hin x b e)]
    exact h1 x b e
  | none => exact s3 x b e hb

theorem TimeM.grow (M : TimeM ps k X f K U) (h : Grow 1 ok X f lk K U X' f' lk K' U') (hok : ∀ ρ, ok ρ) (hX : ∀ b j, X b → (f b).td = some j → X j) (hself : ∀ i, X i → ∀ k ∈ K (f i).ks, X k) (hin : ∀ x b, U' 1 x = some b → X' b) : TimeM ps k X' f' K' U' := by
  refine ⟨fun i hi hk n hn h61 => ?_, hin, fun t ht θ hs i hi hit => ?_, fun t ht ρ hρ => ?_⟩
  · obtain ⟨b, hb⟩ := M.known i hi hk n hn h61
    exact ⟨b, h.keep 1 _ b hb⟩
  · exact (M.sound t ht θ (h.backAt hs) i hi hit).congr fun n hn h61 => sg_keepL h.keep θ (M.known i hi (by omega) n hn h61)
  · obtain ⟨θ, h1, h2⟩ := M.full t ht ρ hρ
    obtain ⟨θ', s1, s2, s3⟩ := h.onAt (by omega) hX hself h1 ρ (hok ρ)
    exact ⟨θ', s1, grow_read h M.inX h2 s2 s3⟩

theorem LoopM.grow (M : LoopM ps k X f lk K U) (h : Grow 1 ok X f lk K U X' f' lk K' U') (hok : ∀ ρ, ok ρ) (hX : ∀ b j, X b → (f b).td = some j → X j) (hself : ∀ i, X i → ∀ k ∈ K (f i).ks, X k) (hin : ∀ x b, U' 1 x = some b → X' b) : LoopM ps k X' f' lk K' U' := by
  refine ⟨M.times.grow h hok hX hself hin, fun θ hs i hi hik => ?_, fun ρ hρ => ?_⟩
  · exact (M.csound θ (h.back hs) i hi hik).congr fun n hn h61 => sg_keepL h.keep θ (M.times.known i hi hik n hn h61)
  · obtain ⟨θ, h1, h2⟩ := M.cur ρ hρ
    obtain ⟨θ', s1, s2, s3⟩ := h.on θ h1 ρ (hok ρ)
    exact ⟨θ', s1, grow_read h M.times.inX h2 s2 s3⟩

theorem TimeM.ties (M : TimeM ps k X f K U) (hT : Ties X (k : Int) f lk f' lk') (H : Hist X f lk (k : Int)) : TimeM ps k X f' K U := by
  have h9 := (hT.hist H).2 K
  refine ⟨M.known, M.inX, fun t ht θ hs => M.sound t ht θ ((h9 t θ (by omega)).1 hs), fun t ht ρ hρ => ?_⟩
  obtain ⟨θ, h1, h2⟩ := M.full t ht ρ hρ
  exact ⟨θ, (h9 t θ (by omega)).2 h1, h2⟩

/-- A pair is taken in, and what it asks is done. -/
theorem LoopM.next (M : LoopM ps k X f lk K U) (H : Hist X f lk (k : Int)) (hk : k < ps.length) (hkn : ∀ n, n ∈ ps[k].1 ∨ n ∈ ps[k].2 → n.kind = 61 → ∃ b, U 1 n.num = some b) {a b : Nat} (hA : ∀ θ, SatC X (gc K f) lk θ → Ev (sg U 1 θ) ps[k].1 (θ a)) (hB : ∀ θ, SatC X (gc K f) lk θ → Ev (sg U 1 θ) ps[k].2 (θ b))
    (hT : Ties X (k : Int) f lk f' lk') {d' : Nat → Nat} (hd : Acyc lk' d') (hiff : ∀ θ, SatC X (gc K f') lk' θ ↔ SatC X (gc K f) lk θ ∧ θ a = θ b) : LoopM ps (k + 1) X f' lk' K U := by
  have T := M.times.ties hT H
  have H' := (hT.hist H).1
  have hnow := H'.satNow K hd
  have hcs : ∀ θ, SatC X (gc K f') lk' θ → ∀ i (h : i < ps.length), i < k + 1 → Holds (sg U 1 θ) ps[i] := by
    intro θ hs i hi hik
    obtain ⟨h1, h2⟩ := (hiff θ).1 hs
    by_cases e : i < k
    · exact M.csound θ h1 i hi e
    · have e2 : i = k := by omega
      subst e2
      have hb := hB θ h1
      rw [← h2] at hb
      exact ⟨θ a, hA θ h1, hb⟩
  have hcu : ∀ ρ : Int → DT, (∀ i (h : i < ps.length), i < k + 1 → Holds (fun n => ρ n.num) ps[i]) → ∃ θ, SatC X (gc K f') lk' θ ∧ ∀ x b, U 1 x = some b → θ b = ρ x := by
    intro ρ hρ
    obtain ⟨θ, h1, h2⟩ := M.cur ρ fun i hi hik => hρ i hi (by omega)
    refine ⟨θ, (hiff θ).2 ⟨h1, ?_⟩, h2⟩
    obtain ⟨d, e1, e2⟩ := (hρ k hk (by omega)).congr (σ' := sg U 1 θ) fun n hn h61 => (sg_of h2 (hkn n hn h61)).symm
    rw [(hA θ h1).fun e1, (hB θ h1).fun e2]
  refine ⟨⟨fun i hi hik n hn h61 => ?_, M.times.inX, fun t ht θ hs i hi hit => ?_, fun t ht ρ hρ => ?_⟩, hcs, hcu⟩
  · by_cases e : i < k
    · exact M.times.known i hi e n hn h61
    · have e2 : i = k := by omega
      subst e2
      exact hkn n hn h61
  · by_cases e : t < k
    · exact T.sound t e θ hs i hi hit
    · have e2 : t = k := by omega
      subst e2
      exact hcs θ ((hnow θ).1 hs) i hi (by omega)
  · by_cases e : t < k
    · exact T.full t e ρ hρ
    · have e2 : t = k := by omega
      subst e2
      obtain ⟨θ, h1, h2⟩ := hcu ρ fun i hi hik => hρ i hi (by omega)
      exact ⟨θ, (hnow θ).2 h1, h2⟩

/-- A pair is taken in that nothing can meet. -/
theorem LoopM.no (M : LoopM ps k X f lk K U) (hk : k < ps.length) (hkn : ∀ n, n ∈ ps[k].1 ∨ n ∈ ps[k].2 → n.kind = 61 → ∃ b, U 1 n.num = some b) {a b : Nat} (hA : ∀ θ, SatC X (gc K f) lk θ → Ev (sg U 1 θ) ps[k].1 (θ a)) (hB : ∀ θ, SatC X (gc K f) lk θ → Ev (sg U 1 θ) ps[k].2 (θ b))
    (hno : ∀ θ, SatC X (gc K f) lk θ → θ a ≠ θ b) (ρ : Int → DT) (hρ : ∀ i (h : i < ps.length), i ≤ k → Holds (fun n => ρ n.num) ps[i]) : False := by
  obtain ⟨θ, h1, h2⟩ := M.cur ρ fun i hi hik => hρ i hi (by omega)
  obtain ⟨d, e1, e2⟩ := (hρ k hk (by omega)).congr (σ' := sg U 1 θ) fun n hn h61 => (sg_of h2 (hkn n hn h61)).symm
  exact hno θ h1 (by rw [(hA θ h1).fun e1, (hB θ h1).fun e2])

/-- Nothing is taken in. -/
theorem LoopM.start (hX : ∀ i, ¬ X i) (hl : ∀ i, lk i = none) (hU : ∀ x, U 1 x = none) : LoopM ps 0 X f lk K U := by
  have hU' : ∀ {x : Int} {b : Nat} {P : Prop}, U 1 x = some b → P := by
    intro x b P h
    rw [hU] at h
    cases h
  refine ⟨⟨?_, ?_, ?_, ?_⟩, ?_, ?_⟩
  · intro i _ h
    omega
  · intro x b h
    exact hU' h
  · intro t h
    omega
  · intro t h
    omega
  · intro θ _ i _ h
    omega
  · intro ρ _
    refine ⟨fun _ _ => none, ⟨?_, ?_⟩, fun x b h => hU' h⟩
    · exact fun i j h => absurd ((hl i).symm.trans h) nofun
    · exact fun i h => absurd h (hX i)

end

end Go.Proofs.YtahdmflbdmlfhaaGreatDoor

namespace Go.Proofs.YtahdmflbdmlfhaaGreatDoor

open Go.RowKit

/-! A term as it is written, whatever its nodes are: what stands at each place. -/

def OtF (R : List Nd × DT → Prop) (x : List Nd × DT) : Prop :=
  (∃ (n : Nd) (xss : List (List Nd)) (ds : List DT), x = (xss.flatten ++ [n], con n ds) ∧ (n.kids = (ds.length : Int)) ∧ (ds.length = xss.length) ∧ (∀ i (h1 : i < xss.length) (h2 : i < ds.length), R (xss[i], ds[i])))

structure Ot (xs : List Nd) (d : DT) : Prop where
  of ::
  lfp : Lfp (OtF) (xs, d)

theorem Ot.grows : Grows (OtF) := by
  rintro R R' x h0 ⟨n, xss, ds, e0, hn, hl, h⟩
  · exact ⟨n, xss, ds, e0, hn, hl, fun i h1 h2 => h0 _ (h i h1 h2)⟩

theorem Ot.node (n : Nd) (xss : List (List Nd)) (ds : List DT) (hn : n.kids = (ds.length : Int)) (hl : ds.length = xss.length) (h : ∀ i (h1 : i < xss.length) (h2 : i < ds.length), Ot (xss[i]) (ds[i])) : Ot (xss.flatten ++ [n]) (con n ds) :=
  ⟨Lfp.fold (Ot.grows) (⟨n, xss, ds, rfl, hn, hl, fun i h1 h2 => (h i h1 h2).lfp⟩)⟩

theorem Ot.elim {motive : ∀ xs d, Ot xs d → Prop}
    (node : ∀ (n : Nd) (xss : List (List Nd)) (ds : List DT) (hn : n.kids = (ds.length : Int)) (hl : ds.length = xss.length) (h : ∀ i (h1 : i < xss.length) (h2 : i < ds.length), Ot (xss[i]) (ds[i])), (∀ i (h1 : i < xss.length) (h2 : i < ds.length), motive (xss[i]) (ds[i]) (h i h1 h2)) → motive (xss.flatten ++ [n]) (con n ds) (Ot.node n xss ds hn hl h))
    {xs : List Nd} {d : DT} (h : Ot xs d) : motive xs d h := by
  have key : ∀ h, motive (xs, d).1 (xs, d).2 h := Lfp.ind (Ot.grows) (p := fun x => ∀ h, motive x.1 x.2 h) (by
    rintro x ⟨n, xss, ds, e0, hn, hl, h⟩ h9
    · subst e0; exact node n xss ds hn hl (fun i h1 h2 => ⟨(h i h1 h2).1⟩) (fun i h1 h2 => (h i h1 h2).2 _)) h.lfp
  exact key h

theorem Ot.inv {motive : ∀ xs d, Ot xs d → Prop}
    (node : ∀ (n : Nd) (xss : List (List Nd)) (ds : List DT) (hn : n.kids = (ds.length : Int)) (hl : ds.length = xss.length) (h : ∀ i (h1 : i < xss.length) (h2 : i < ds.length), Ot (xss[i]) (ds[i])), motive (xss.flatten ++ [n]) (con n ds) (Ot.node n xss ds hn hl h))
    {xs : List Nd} {d : DT} (h : Ot xs d) : motive xs d h := by
  induction h using Ot.elim with
  | node n xss ds hn hl h _ => exact node n xss ds hn hl h

theorem Ot.last {xs : List Nd} {d : DT} (h : Ot xs d) : ∃ (n : Nd) (xss : List (List Nd)) (ds : List DT), n.kids = (ds.length : Int) ∧ ds.length = xss.length ∧ (∀ i (h1 : i < xss.length) (h2 : i < ds.length), Ot xss[i] ds[i]) ∧ xs = xss.flatten ++ [n] ∧ d = con n ds := by
  cases h using Ot.inv with
  | node n xss ds hn hl h => exact ⟨n, xss, ds, hn, hl, h, rfl, rfl⟩

theorem Ot.one {xs : List Nd} {d : DT} (h : Ot xs d) : One xs := by
  induction h using Ot.elim with
  | node n xss ds hn hl h ih =>
    refine One.join (fun x hx => ?_) (by rw [hn, hl])
    obtain ⟨i, hi, rfl⟩ := List.getElem_of_mem hx
    exact ih i hi (by omega)

theorem ot_ones {xss : List (List Nd)} {ds : List DT} (hl : ds.length = xss.length) (h : ∀ i (h1 : i < xss.length) (h2 : i < ds.length), Ot xss[i] ds[i]) : ∀ x ∈ xss, One x := by
  intro x hx
  obtain ⟨i, hi, rfl⟩ := List.getElem_of_mem hx
  exact (h i hi (by omega)).one

theorem Ot.fun {xs : List Nd} {d : DT} (h : Ot xs d) : ∀ {d' : DT}, Ot xs d' → d = d' := by
  induction h using Ot.elim with
  | node n xss ds hn hl h ih =>
    intro d' h'
    obtain ⟨m, yss, es, hn', hl', h2, e, rfl⟩ := h'.last
    obtain ⟨e1, e2⟩ := List.append_inj' e rfl
    simp at e2
    subst e2
    have e3 := ones_same (ot_ones hl h) (ot_ones hl' h2) e1
    subst e3
    have : ds = es := by
      apply List.ext_getElem (by omega)
      intro i h3 h4
      exact ih i (by omega) h3 (h2 i (by omega) h4)
    rw [this]

theorem Ot.fin {xs : List Nd} {d : DT} (h : Ot xs d) : Fin' d xs := by
  induction h using Ot.elim with
  | node n xss ds hn hl h ih => exact .mk n ds xss hl fun i h1 h2 => ih i h2 h1

theorem ot_span {t : List Nd} {S ys : List Sp} {n : Nat} (h : after t n = some (S, ys)) : ∀ i, i < n → ∀ s, ys[i]? = some s → ∃ d, Ot (span t s.fr i) d := by
  intro i
  induction i using Nat.strongRecOn with
  | ind i ih =>
    intro hi s hs
    have hle := after_le h
    have hit : i < t.length := by omega
    obtain ⟨K, hK, hsp, hO⟩ := span_kids h hi hs hit
    obtain ⟨_, hn⟩ := hK.num
    rw [hsp]
    have hk : ∀ r, ∃ d, ∀ hr : r < K.length, Ot (span t K[r].fr K[r].rt) d := by
      intro r
      by_cases hr : r < K.length
      · have hm := hK.mem r hr
        obtain ⟨d, hd⟩ := ih K[r].rt hm.2.2 (by omega) K[r] hm.1
        exact ⟨d, fun _ => hd⟩
      · exact ⟨fun _ => none, fun h => absurd h hr⟩
    obtain ⟨F, hF⟩ := Classical.axiomOfChoice hk
    refine ⟨con t[i] ((List.range K.length).map F), Ot.node t[i] (kidsIn t K) _ (by simpa using hn) (by simp [kidsIn]) (fun r h1 h2 => ?_)⟩
    have hr : r < K.length := by simpa using h2
    simp only [kidsIn, List.getElem_map, List.getElem_range]
    exact hF r hr

theorem ot_of {t : List Nd} (h : One t) : ∃ d, Ot t d := by
  have hne := List.length_pos_iff.2 h.ne
  obtain ⟨s, ys, hA⟩ := h
  have hf := after_fine hA
  have hc := hf.chain.2.2.1 (by simp)
  simp only [List.getElem_cons_zero, List.length_cons, List.length_nil, Nat.zero_add, Nat.sub_self] at hc
  have hm := hf.mem 0 (by simp)
  simp only [List.getElem_cons_zero] at hm
  have hrt : s.rt = t.length - 1 := by omega
  rw [hrt] at hm
  have hsp : span t s.fr (t.length - 1) = t := by
    unfold span
    rw [hc.1, List.drop_zero, List.take_of_length_le (by omega)]
  obtain ⟨d, hd⟩ := ot_span hA (t.length - 1) (by omega) s hm
  rw [hsp] at hd
  exact ⟨d, hd⟩

/-- From what its unknowns are written as, to what a term is written as. -/
theorem Ev.written {σ : Nd → DT} {g : List Nd} {d : DT} (h : Ev σ g d) {ρ : Int → List Nd} (hρ : ∀ n ∈ g, n.kind = 61 → Ot (ρ n.num) (σ n)) : Ot (fill ρ g) d := by
  induction h using Ev.elim with
  | leaf n hk h0 =>
    have h1 := hρ n (by simp) hk
    simp only [fill, fillN, List.flatMap_cons, List.flatMap_nil, hk, if_true, List.append_nil]
    exact h1
  | node n hk xss ds hn hl h ih =>
    rw [fill_append, fill_flatten]
    have e3 : fill ρ [n] = [n] := by simp [fill, fillN, hk]
    rw [e3]
    refine Ot.node n _ ds hn (by simp [hl]) (fun i h1 h2 => ?_)
    simp only [List.getElem_map]
    have hi : i < xss.length := by simpa using h1
    exact ih i hi h2 (fun m hm hm61 => hρ m (List.mem_append_left _ (List.mem_flatten.2 ⟨_, List.getElem_mem hi, hm⟩)) hm61)

/-- A term that is written in two ways is the same. -/
theorem Ot.same {xs ys : List Nd} {d : DT} (h : Ot xs d) (h' : Ot ys d) : xs = ys := h.fin.one h'.fin

/-- What solves a pair makes it hold. -/
theorem holds_of {g g' : List Nd} {ρ : Int → List Nd} {σ : Nd → DT} (hσ : ∀ n, Ot (ρ n.num) (σ n)) {d d' : DT} (h : Ev σ g d) (h' : Ev σ g' d') (e : fill ρ g = fill ρ g') : Holds σ (g, g') := by
  have h1 := h.written (ρ := ρ) fun n _ _ => hσ n
  have h2 := h'.written (ρ := ρ) fun n _ _ => hσ n
  rw [e] at h1
  have := h1.fun h2
  subst this
  exact ⟨d, h, h'⟩

/-- What makes a pair hold and is written solves it. -/
theorem solves_of {p : List Nd × List Nd} {ρ : Int → List Nd} {σ : Nd → DT} (h : Holds σ p) (hσ : ∀ n, n ∈ p.1 ∨ n ∈ p.2 → n.kind = 61 → Ot (ρ n.num) (σ n)) : fill ρ p.1 = fill ρ p.2 := by
  obtain ⟨d, h1, h2⟩ := h
  exact (h1.written fun n hn hk => hσ n (.inl hn) hk).same (h2.written fun n hn hk => hσ n (.inr hn) hk)

end Go.Proofs.YtahdmflbdmlfhaaGreatDoor
