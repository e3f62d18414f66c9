import Derived.Test.YtekogjmmfhbinaaLoop
namespace Go.Proofs.Ytekogjmmfhbinaa

open Go.RowKit Go.Shelf

/-- The blocks that a round may turn: the caller's own from before the loop, and those of U, which it made in rounds. -/
def Turns (n₀ B : Nat) (U : Nat → Prop) (k : Nat) : Prop := n₀ ≤ k ∧ (k < B ∨ U k)

/-- As 'Iter', for rounds that go on writing into blocks that earlier rounds made. -/
def Iter2 {α : Type} (F : Fence) (n : Nat) (P : Program) (g : Nat) (lb : Array Value) (encs : α → Array Value) (S Sp : List α → Prop) (Fit : List α → α → Prop) (Rd : World → Prop) (N n₀ : Nat) (w : World) : Prop :=
  ∀ (J : List α → (Nat → Prop) → World → Prop) (Jx : List α → World → Prop), (∀ s U A C, J s U A → But (fun k => w.heap.size + 2 ≤ k ∧ ¬ U k) A C → J s U C) → (∀ s U A, J s U A → (∀ k, U k → k < A.heap.size) ∧ Rd A) →
    (∀ pre U x W1, J pre U W1 → pre.length < N → Fit pre x → YieldAt F (n - 1) P (w.heap.size + 1) (encs x) W1 fun e W' =>
      (e = .returned (.bool true) ∧ (∃ U', J (pre ++ [x]) U' W' ∧ ∀ k, U' k → U k ∨ W1.heap.size ≤ k) ∧ But (Turns n₀ (w.heap.size + 2) U) W1 W') ∨ (e = .returned (.bool false) ∧ Jx (pre ++ [x]) W')) →
    ∀ W, Below w.heap.size w W → W.heap.size = w.heap.size + 2 → J [] (fun _ => False) W →
    CallsIn F n P g (#[.func (.yield (w.heap.size + 1)) #[] #[]] ++ lb) W fun e W' => (∃ v, e = .returned v) ∧ ((∃ xs U, S xs ∧ J xs U W') ∨ (∃ pre, Sp pre ∧ Jx pre W'))

theorem Iter2.iter {α : Type} {F : Fence} {n : Nat} {P : Program} {g : Nat} {lb : Array Value} {encs : α → Array Value} {S Sp : List α → Prop} {Fit : List α → α → Prop} {Rd : World → Prop} {N n₀ : Nat} {w : World} (h : Iter2 F n P g lb encs S Sp Fit Rd N n₀ w) : Iter F n P g lb encs S Sp Fit Rd N n₀ w := by
  intro J Jx hJ hRd hY W hW hWs h0
  have hsz : w.heap.size + 2 ≤ W.heap.size := by omega
  refine (h (fun s U A => J s A ∧ (∀ k, ¬ U k) ∧ w.heap.size + 2 ≤ A.heap.size) Jx ?_ ?_ ?_ W hW hWs ⟨h0, fun _ h => h, hsz⟩).mono ?_
  · rintro s U A C ⟨hj, hu, hs⟩ hb
    exact ⟨hJ s A C hj (hb.below hs (fun k hk => hk.1)), hu, Nat.le_trans hs hb.size⟩
  · rintro s U A ⟨hj, hu, _⟩
    exact ⟨fun k hk => (hu k hk).elim, hRd s A hj⟩
  · rintro pre U x W1 ⟨hj, hu, hs⟩ hlen hfit
    obtain ⟨fn, tmps, assign, body, hy, hR⟩ := hY pre x W1 hj hlen hfit
    refine ⟨fn, tmps, assign, body, hy, hR.mono ?_⟩
    rintro e W' (⟨rfl, hj', hb'⟩ | ⟨rfl, hx⟩)
    · exact .inl ⟨rfl, ⟨fun _ => False, ⟨hj', fun _ h => h, Nat.le_trans hs hb'.size⟩, fun _ h => h.elim⟩, hb'.mono (fun k hk => ⟨hk.1, Or.inl hk.2⟩)⟩
    · exact .inr ⟨rfl, hx⟩
  · rintro e W' ⟨hv, (⟨xs, U, hS, hj, _, _⟩ | hx)⟩
    · exact ⟨hv, .inl ⟨xs, hS, hj⟩⟩
    · exact ⟨hv, .inr hx⟩

end Go.Proofs.Ytekogjmmfhbinaa
