
import Derived.Test.YtkmlfpfgiblcdaaOpen
import Derived.Test.YtkmlfpfgiblcdaaSS
namespace Go.Proofs.Ytkmlfpfgiblcdaa
open Go.ChangeShapes Go.WideShapes Go.ChangeAt Go.RowKit Go.Deep

theorem Try.cells22 : Try.prog.cellsOf 22 = 1 := by kernel_rfl

theorem open_nodes_cell {H : Type} {enc : TypeId × Value → H} {W : World} {base : Nat} {spare : Nat → Bool} {held : Bool} {fuel : Nat} {v : Value} {x : DataW H × List MemPlace}
    (h : DataW.trod enc Try.prog W base spare held fuel 22 [v] = some x) :
    ∃ (ao : Option Addr) (cap : Nat) (xs : List Nd), v = .slice ao xs.length cap ∧ xs.length ≤ 9223372036854775807 ∧ Nodes W ao xs ∧ ∀ n ∈ xs, n.text.size ≤ maxLen := by
  have hv : ∃ ao len cap, v = .slice ao len cap := by
    rcases open_slice Try.underlying22 h with ⟨hcs, _⟩ | ⟨a, l, c, m, n, D, Pl, hcs, _⟩
    · simp at hcs; exact ⟨_, _, _, hcs⟩
    · simp at hcs; exact ⟨_, _, _, hcs⟩
  obtain ⟨ao, len, cap, rfl⟩ := hv
  obtain ⟨xs, rfl, hl, hn, hs⟩ := open_nodes h
  exact ⟨ao, cap, xs, rfl, hl, hn, hs⟩

/-- A slice of slices of nodes that came in. -/
theorem open_lists {H : Type} {enc : TypeId × Value → H} {W : World} {base : Nat} {spare : Nat → Bool} {held : Bool} {fuel : Nat} {ao : Option Addr} {len cap : Nat} {x : DataW H × List MemPlace}
    (h : DataW.trod enc Try.prog W base spare held fuel 32 [.slice ao len cap] = some x) :
    ∃ kss : List (List Nd), kss.length = len ∧ len ≤ 9223372036854775807 ∧ Lists W ao kss ∧ (∀ ks ∈ kss, ∀ y ∈ ks, y.text.size ≤ maxLen) ∧ ∀ ks ∈ kss, ks.length ≤ 9223372036854775807 := by
  rcases open_slice1 Try.underlying32 Try.cells22 h with ⟨hcs, _⟩ | ⟨a, l, c, m, n, V, D, Pl, hcs, _, hl, hm, hmm, _, hx⟩
  · simp at hcs
    obtain ⟨rfl, rfl, rfl⟩ := hcs
    exact ⟨[], rfl, by omega, fun i hi => by simp at hi, by simp, by simp⟩
  · simp at hcs
    obtain ⟨rfl, rfl, rfl⟩ := hcs
    have hlm : len ≤ m := by rw [hmm]; split <;> omega
    unfold maxLen at hm
    obtain ⟨b, o, sp⟩ := a
    have hsp : 0 < len → sp = none := by
      intro h0
      have z0 := (hx 0 (by omega)).1
      simpa [Addr.add] using World.cell?_spot z0
    have inh : Inhabited (List Nd) := ⟨[]⟩
    obtain ⟨F, hF⟩ := choose_lt (α := List Nd) (n := len) (p := fun i ks => ks.length ≤ 9223372036854775807 ∧ (∀ y ∈ ks, y.text.size ≤ maxLen) ∧ sp = none ∧ ∃ ai ci, W.cell? ⟨b, o + i, none⟩ = some (.slice ai ks.length ci) ∧ Nodes W ai ks) (fun i hi => by
      obtain ⟨h1, h2⟩ := hx i (by omega)
      obtain ⟨ai, ci, ks, hv, hk, hn, hs⟩ := open_nodes_cell h2
      have hs0 := hsp (by omega)
      subst hs0
      have ad : Addr.add ⟨b, o, none⟩ i = ⟨b, o + i, none⟩ := by
        unfold Addr.add
        split
        · simp_all
        · rfl
      rw [ad, hv] at h1
      exact ⟨ks, hk, hs, rfl, ai, ci, h1, hn⟩)
    refine ⟨(List.range len).map F, by simp, by omega, ?_, ?_, ?_⟩
    · intro i hi
      have hi' : i < len := by simpa using hi
      obtain ⟨_, _, rfl, ai, ci, h1, hn⟩ := hF i hi'
      exact ⟨b, o, ai, ci, rfl, by simpa using h1, by simpa using hn⟩
    · intro ks hk
      simp at hk
      obtain ⟨i, hi, rfl⟩ := hk
      exact (hF i hi).2.1
    · intro ks hk
      simp at hk
      obtain ⟨i, hi, rfl⟩ := hk
      exact (hF i hi).1

end Go.Proofs.Ytkmlfpfgiblcdaa
