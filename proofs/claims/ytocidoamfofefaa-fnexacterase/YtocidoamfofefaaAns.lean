
import Derived.Test.YtocidoamfofefaaHeld
import Derived.Test.YtocidoamfofefaaEq
namespace Go.Proofs.Ytocidoamfofefaa
open Go.RowKit

/-- An answer: a slice of nodes that is empty, or a row of the call's own, from block B on. -/
def Ans (w : World) (B : Nat) (ao : Option Addr) (zs : List Nd) : Prop := zs = [] ∨ ∃ g, ao = some ⟨g, 0, none⟩ ∧ B ≤ g ∧ Row w g zs

theorem Ans.nodes {w : World} {B : Nat} {ao : Option Addr} {zs : List Nd} (h : Ans w B ao zs) : Nodes w ao zs := by
  rcases h with rfl | ⟨g, rfl, _, hr⟩
  · exact fun i hi => by simp at hi
  · exact hr.nodes

theorem Ans.below {w w' : World} {B : Nat} {ao : Option Addr} {zs : List Nd} (h : Ans w B ao zs) (hb : Below w.heap.size w w') : Ans w' B ao zs := by
  rcases h with rfl | ⟨g, rfl, hB, hr⟩
  · exact Or.inl rfl
  · exact Or.inr ⟨g, rfl, hB, hr.below hb⟩

theorem Ans.but {S : Nat → Prop} {w w' : World} {B : Nat} {ao : Option Addr} {zs : List Nd} (h : Ans w B ao zs) (hb : But S w w') (hS : ∀ g, ao = some ⟨g, 0, none⟩ → B ≤ g → Row w g zs → ¬ S g) : Ans w' B ao zs := by
  rcases h with rfl | ⟨g, rfl, hB, hr⟩
  · exact Or.inl rfl
  · exact Or.inr ⟨g, rfl, hB, hb.row hr (hS g rfl hB hr)⟩

theorem Ans.mono {w : World} {B B' : Nat} {ao : Option Addr} {zs : List Nd} (h : Ans w B ao zs) (hB : B' ≤ B) : Ans w B' ao zs := by
  rcases h with rfl | ⟨g, rfl, h1, hr⟩
  · exact Or.inl rfl
  · exact Or.inr ⟨g, rfl, by omega, hr⟩

theorem Row.ans {w : World} {B g : Nat} {zs : List Nd} (h : Row w g zs) (hB : B ≤ g) : Ans w B (some ⟨g, 0, none⟩) zs := Or.inr ⟨g, rfl, hB, h⟩

set_option maxHeartbeats 1000000 in
theorem markNodeS_none (ao : Option Addr) (cap k : Nat) (w : World) :
    Calls Try.prog 16 #[.slice ao 0 cap, .int .i64 k] w fun e w' => e = .returned (.int .i64 (k : Nat)) ∧ w' = w := by
  go_enter Try.func16, Try.ntmps16
  go_wp2
  go_loopw [1, 5] (fun a i wr => a = .int .i64 k ∧ i = .int .i64 0 ∧ wr = w) (fun _ _ _ => 0)
  case atStart => exact ⟨rfl, rfl, rfl⟩
  case round =>
    obtain ⟨rfl, rfl, rfl⟩ := hrel
    go_wp2
    go_ret
    exact ⟨rfl, rfl⟩

set_option maxHeartbeats 1000000 in
theorem heldNodeS_none (ao : Option Addr) (cap k : Nat) (w : World) :
    Calls Try.prog 17 #[.slice ao 0 cap, .int .i64 k] w fun e w' => e = .returned (.int .i64 (k : Nat)) ∧ w' = w := by
  go_enter Try.func17, Try.ntmps17
  go_wp2
  go_loopw [1, 5] (fun a i wr => a = .int .i64 k ∧ i = .int .i64 0 ∧ wr = w) (fun _ _ _ => 0)
  case atStart => exact ⟨rfl, rfl, rfl⟩
  case round =>
    obtain ⟨rfl, rfl, rfl⟩ := hrel
    go_wp2
    go_ret
    exact ⟨rfl, rfl⟩

theorem markNodeS_ans (zs : List Nd) (n B : Nat) (ao : Option Addr) (cap k : Nat) (w : World) (HN : Hid (zs.length = n)) (ha : Ans w B ao zs) (hn : n ≤ 1048577) (hk : k ≤ 100000000) (hk0 : 0 < k) :
    Calls Try.prog 16 #[.slice ao n cap, .int .i64 k] w fun e w' =>
      e = .returned (.int .i64 (k + 5 * n : Nat)) ∧ Ans w' B ao (marks k n) ∧ But (fun q => ao = some ⟨q, 0, none⟩ ∧ B ≤ q) w w' := by
  rcases ha with rfl | ⟨g, rfl, hB, hr⟩
  · have h0 : n = 0 := HN.out.symm
    subst h0
    exact (markNodeS_none ao cap k w).mono (by rintro e w' ⟨rfl, rfl⟩; exact ⟨rfl, Or.inl rfl, But.refl _ _⟩)
  · refine (markNodeS_any zs n g cap k w HN hr hn hk hk0).mono ?_
    rintro e w' ⟨rfl, hr', hb⟩
    exact ⟨rfl, Or.inr ⟨g, rfl, hB, hr'⟩, hb.mono (fun q hq => by subst hq; exact ⟨rfl, hB⟩)⟩

theorem heldNodeS_ans (n B : Nat) (ao : Option Addr) (cap k : Nat) (w : World) (ha : Ans w B ao (marks k n)) (hn : n ≤ 1048577) (hk : k ≤ 100000000) (hk0 : 0 < k) :
    Calls Try.prog 17 #[.slice ao n cap, .int .i64 k] w fun e w' => e = .returned (.int .i64 (k + 5 * n : Nat)) ∧ Below w.heap.size w w' := by
  rcases ha with h | ⟨g, rfl, hB, hr⟩
  · have h0 : n = 0 := by have := marks_length k n; rw [h] at this; exact this.symm
    subst h0
    exact (heldNodeS_none ao cap k w).mono (by rintro e w' ⟨rfl, rfl⟩; exact ⟨rfl, Below.refl _ _⟩)
  · exact heldNodeS_any n g cap k w hr hn hk hk0

end Go.Proofs.Ytocidoamfofefaa
