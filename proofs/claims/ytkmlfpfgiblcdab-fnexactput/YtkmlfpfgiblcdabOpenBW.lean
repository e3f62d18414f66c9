
import Derived.Test.YtkmlfpfgiblcdabOpenW
import Derived.Test.YtkmlfpfgiblcdabBS
namespace Go.Proofs.Ytkmlfpfgiblcdab
open Go.ChangeShapes Go.WideShapes Go.ChangeAt Go.RowKit Go.Deep

theorem Try.cells22 : Try.prog.cellsOf 22 = 1 := by kernel_rfl

set_option maxRecDepth 4000 in
theorem open_nodes_cellW {H : Type} {enc : TypeId × Value → H} {W : World} {base : Nat} {spare : Nat → Bool} {held : Bool} {fuel : Nat} {v : Value} {x : DataW H × List MemPlace}
    (h : DataW.trod enc Try.prog W base spare held fuel 22 [v] = some x) :
    ∃ (ao : Option Addr) (cap : Nat) (xs : List Nd), v = .slice ao xs.length cap ∧ xs.length ≤ 9223372036854775807 ∧ Nodes W ao xs ∧ ∀ n ∈ xs, n.text.size ≤ maxLen ∧ (Lit.int .i64 n.num).wf = true := by
  have hv : ∃ ao len cap, v = .slice ao len cap := by
    rcases open_slice Try.underlying22 h with ⟨hcs, _⟩ | ⟨a, l, c, m, n, D, Pl, hcs, _⟩
    · simp at hcs; exact ⟨_, _, _, hcs⟩
    · simp at hcs; exact ⟨_, _, _, hcs⟩
  obtain ⟨ao, len, cap, rfl⟩ := hv
  obtain ⟨xs, rfl, hl, hn, hs⟩ := open_nodesW h
  exact ⟨ao, cap, xs, rfl, hl, hn, hs⟩

theorem Try.cells69 : Try.prog.cellsOf 69 = 2 := by kernel_rfl

set_option maxRecDepth 4000 in
/-- One Bind read out of two cells. -/
theorem open_bindW {H : Type} {enc : TypeId × Value → H} {W : World} {base : Nat} {spare : Nat → Bool} {held : Bool} {fuel : Nat} {cs : List Value} {x : DataW H × List MemPlace}
    (h : DataW.trod enc Try.prog W base spare held fuel 69 cs = some x) :
    ∃ (b : Int) (ao : Option Addr) (cap : Nat) (xs : List Nd), (Lit.int .i64 b).wf = true ∧ cs = [.int .i64 b, .slice ao xs.length cap] ∧ xs.length ≤ 9223372036854775807 ∧ Nodes W ao xs ∧ ∀ n ∈ xs, n.text.size ≤ maxLen ∧ (Lit.int .i64 n.num).wf = true := by
  obtain ⟨ys, k, _, _, hlen, hyl, hf⟩ := DataW.trod_struct Try.underlying69 h
  rw [Try.cells69] at hlen
  match cs, hlen with
  | [v0, v1], _ =>
    have l0 : ∃ y, ys[0]? = some y := ⟨_, List.getElem?_eq_getElem (by simp at hyl; omega)⟩
    have l1 : ∃ y, ys[1]? = some y := ⟨_, List.getElem?_eq_getElem (by simp at hyl; omega)⟩
    obtain ⟨y0, l0⟩ := l0
    obtain ⟨y1, l1⟩ := l1
    have g0 := (hf 0 { name := "Num", type := 2, offset := 0, embedded := false, tag := "", pkgPath := "", byteOffset := 0 } rfl).trans l0
    have g1 := (hf 1 { name := "Type", type := 22, offset := 1, embedded := false, tag := "", pkgPath := "", byteOffset := 8 } rfl).trans l1
    simp only [Try.cells2, Try.cells22, List.drop_zero, List.drop_succ_cons, List.take_succ_cons, List.take_zero] at g0 g1
    obtain ⟨a0, e0, _, hw⟩ := DataW.trod_int Try.underlying2 g0
    obtain ⟨ao, cap, xs, e1, hl, hn, hs⟩ := open_nodes_cellW g1
    simp at e0
    subst e0 e1
    exact ⟨a0, ao, cap, xs, hw, rfl, hl, hn, hs⟩

set_option maxRecDepth 4000 in
/-- A slice of Binds that came in. -/
theorem open_bindsW {H : Type} {enc : TypeId × Value → H} {W : World} {base : Nat} {spare : Nat → Bool} {held : Bool} {fuel : Nat} {ao : Option Addr} {len cap : Nat} {x : DataW H × List MemPlace}
    (h : DataW.trod enc Try.prog W base spare held fuel 35 [.slice ao len cap] = some x) :
    ∃ bs : List (Int × List Nd), bs.length = len ∧ len ≤ 9223372036854775807 ∧ Binds W ao bs ∧ (∀ b ∈ bs, (Lit.int .i64 b.1).wf = true ∧ ∀ y ∈ b.2, y.text.size ≤ maxLen ∧ (Lit.int .i64 y.num).wf = true) ∧ ∀ b ∈ bs, b.2.length ≤ 9223372036854775807 := by
  rcases open_slice Try.underlying35 h with ⟨hcs, _⟩ | ⟨a, l, c, m, n, D, Pl, hcs, _, hl, hm, hmm, _, hx⟩
  · simp at hcs
    obtain ⟨rfl, rfl, rfl⟩ := hcs
    exact ⟨[], rfl, by omega, fun i hi => by simp at hi, by simp, by simp⟩
  · simp at hcs
    obtain ⟨rfl, rfl, rfl⟩ := hcs
    have hlm : len ≤ m := by rw [hmm]; split <;> omega
    unfold maxLen at hm
    have inh : Inhabited (Int × List Nd) := ⟨(0, [])⟩
    obtain ⟨F, hF⟩ := choose_lt (α := Int × List Nd) (n := len) (p := fun i p => p.2.length ≤ 9223372036854775807 ∧ ((Lit.int .i64 p.1).wf = true ∧ ∀ y ∈ p.2, y.text.size ≤ maxLen ∧ (Lit.int .i64 y.num).wf = true) ∧ ∃ b o, a = ⟨b, o, none⟩ ∧ ∃ ai ci, W.cell? ⟨b, o + i * 2, none⟩ = some (.int .i64 p.1) ∧ W.cell? ⟨b, o + i * 2 + 1, none⟩ = some (.slice ai p.2.length ci) ∧ Nodes W ai p.2) (fun i hi => by
      obtain ⟨cs', h1, h2⟩ := hx i (by omega)
      obtain ⟨bn, ai, ci, xs, hw, rfl, hk, hn, hs⟩ := open_bindW h2
      rw [Try.cells69] at h1
      obtain ⟨_, _, hc⟩ := World.cells?_some h1
      simp only [add_add] at hc
      have c0 := hc 0 (by omega)
      have c1 := hc 1 (by omega)
      obtain ⟨b, o, sp⟩ := a
      have hsp : sp = none := by
        obtain ⟨cs0, z1, z2⟩ := hx 0 (by omega)
        obtain ⟨_, _, _, _, _, rfl, _⟩ := open_bindW z2
        rw [Try.cells69] at z1
        obtain ⟨_, _, zc⟩ := World.cells?_some z1
        have z0 := zc 0 (by omega)
        simpa [Addr.add] using World.cell?_spot (z0.trans rfl)
      subst hsp
      have ad : ∀ j, Addr.add ⟨b, o, none⟩ j = ⟨b, o + j, none⟩ := by
        intro j
        unfold Addr.add
        split
        · simp_all
        · rfl
      simp [ad, ← Nat.add_assoc] at c0 c1
      exact ⟨(bn, xs), hk, ⟨hw, hs⟩, b, o, rfl, ai, ci, c0, c1, hn⟩)
    refine ⟨(List.range len).map F, by simp, by omega, ?_, ?_, ?_⟩
    · intro i hi
      have hi' : i < len := by simpa using hi
      obtain ⟨_, _, b, o, rfl, ai, ci, h0, h1, hn⟩ := hF i hi'
      exact ⟨b, o, ai, ci, rfl, by simpa using h0, by simpa using h1, by simpa using hn⟩
    · intro p hp
      simp at hp
      obtain ⟨i, hi, rfl⟩ := hp
      exact (hF i hi).2.1
    · intro p hp
      simp at hp
      obtain ⟨i, hi, rfl⟩ := hp
      exact (hF i hi).1

end Go.Proofs.Ytkmlfpfgiblcdab
