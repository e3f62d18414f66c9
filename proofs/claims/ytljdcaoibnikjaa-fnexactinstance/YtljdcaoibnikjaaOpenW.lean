import Derived.Test.YtljdcaoibnikjaaProg
import Derived.Test.YtljdcaoibnikjaaWBZ
import Derived.ProofKit
import Derived.Deep.Slices
namespace Go.Proofs.Ytljdcaoibnikjaa

open Go.ChangeShapes Go.WideShapes Go.ChangeAt Go.RowKit Go.Deep

set_option maxRecDepth 4000 in
/-- One node read out of five cells. -/
theorem open_nodeW {H : Type} {enc : TypeId × Value → H} {W : World} {base : Nat} {spare : Nat → Bool} {held : Bool} {fuel : Nat} {cs : List Value} {x : DataW H × List MemPlace}
    (h : DataW.trod enc Try.prog W base spare held fuel 46 cs = some x) :
    ∃ n : Nd, (n.text.size ≤ maxLen ∧ (Lit.int .i64 n.num).wf = true) ∧ cs = [.int .i64 n.kind, .int .i64 n.num, .string n.text, .int .i64 n.kids, .int .i64 n.place] := by
  obtain ⟨ys, k, _, _, hlen, hyl, hf⟩ := DataW.trod_struct Try.underlying46 h
  rw [Try.cells46] at hlen
  match cs, hlen with
  | [v0, v1, v2, v3, v4], _ =>
    have l0 : ∃ y, ys[0]? = some y := ⟨_, List.getElem?_eq_getElem (by simp at hyl; omega)⟩
    have l1 : ∃ y, ys[1]? = some y := ⟨_, List.getElem?_eq_getElem (by simp at hyl; omega)⟩
    have l2 : ∃ y, ys[2]? = some y := ⟨_, List.getElem?_eq_getElem (by simp at hyl; omega)⟩
    have l3 : ∃ y, ys[3]? = some y := ⟨_, List.getElem?_eq_getElem (by simp at hyl; omega)⟩
    have l4 : ∃ y, ys[4]? = some y := ⟨_, List.getElem?_eq_getElem (by simp at hyl; omega)⟩
    obtain ⟨y0, l0⟩ := l0
    obtain ⟨y1, l1⟩ := l1
    obtain ⟨y2, l2⟩ := l2
    obtain ⟨y3, l3⟩ := l3
    obtain ⟨y4, l4⟩ := l4
    have g0 := (hf 0 { name := "Kind", type := 3, offset := 0, embedded := false, tag := "", pkgPath := "", byteOffset := 0 } rfl).trans l0
    have g1 := (hf 1 { name := "Num", type := 2, offset := 1, embedded := false, tag := "", pkgPath := "", byteOffset := 8 } rfl).trans l1
    have g2 := (hf 2 { name := "Text", type := 9, offset := 2, embedded := false, tag := "", pkgPath := "", byteOffset := 16 } rfl).trans l2
    have g3 := (hf 3 { name := "Kids", type := 3, offset := 3, embedded := false, tag := "", pkgPath := "", byteOffset := 32 } rfl).trans l3
    have g4 := (hf 4 { name := "At", type := 3, offset := 4, embedded := false, tag := "", pkgPath := "", byteOffset := 40 } rfl).trans l4
    simp only [Try.cells3, Try.cells2, Try.cells9, List.drop_zero, List.drop_succ_cons, List.take_succ_cons, List.take_zero] at g0 g1 g2 g3 g4
    obtain ⟨a0, e0, _, _⟩ := DataW.trod_int Try.underlying3 g0
    obtain ⟨a1, e1, _, hw⟩ := DataW.trod_int Try.underlying2 g1
    obtain ⟨a2, e2, _, hs⟩ := DataW.trod_string Try.underlying9 g2
    obtain ⟨a3, e3, _, _⟩ := DataW.trod_int Try.underlying3 g3
    obtain ⟨a4, e4, _, _⟩ := DataW.trod_int Try.underlying3 g4
    simp at e0 e1 e2 e3 e4
    subst e0 e1 e2 e3 e4
    exact ⟨⟨a0, a1, a2, a3, a4⟩, ⟨hs, hw⟩, rfl⟩

set_option maxRecDepth 4000 in
/-- A slice of nodes that came in. -/
theorem open_nodesW {H : Type} {enc : TypeId × Value → H} {W : World} {base : Nat} {spare : Nat → Bool} {held : Bool} {fuel : Nat} {ao : Option Addr} {len cap : Nat} {x : DataW H × List MemPlace}
    (h : DataW.trod enc Try.prog W base spare held fuel 22 [.slice ao len cap] = some x) :
    ∃ xs : List Nd, xs.length = len ∧ len ≤ 9223372036854775807 ∧ Nodes W ao xs ∧ ∀ n ∈ xs, n.text.size ≤ maxLen ∧ (Lit.int .i64 n.num).wf = true := by
  rcases open_slice Try.underlying22 h with ⟨hcs, _⟩ | ⟨a, l, c, m, n, D, Pl, hcs, _, hl, hm, hmm, _, hx⟩
  · simp at hcs
    obtain ⟨rfl, rfl, rfl⟩ := hcs
    exact ⟨[], rfl, by omega, fun i hi => by simp at hi, by simp⟩
  · simp at hcs
    obtain ⟨rfl, rfl, rfl⟩ := hcs
    have hlm : len ≤ m := by rw [hmm]; split <;> omega
    unfold maxLen at hm
    have inh : Inhabited Nd := ⟨⟨0, 0, ByteArray.empty, 0, 0⟩⟩
    obtain ⟨F, hF⟩ := choose_lt (α := Nd) (n := len) (p := fun i nd => (nd.text.size ≤ maxLen ∧ (Lit.int .i64 nd.num).wf = true) ∧ ∃ b o, a = ⟨b, o, none⟩ ∧ NodeAt W b (o + i * 5) nd) (fun i hi => by
      obtain ⟨cs', h1, h2⟩ := hx i (by omega)
      obtain ⟨nd, hs, rfl⟩ := open_nodeW h2
      rw [Try.cells46] at h1
      obtain ⟨_, _, hc⟩ := World.cells?_some h1
      simp only [add_add] at hc
      have c0 := hc 0 (by omega)
      have c1 := hc 1 (by omega)
      have c2 := hc 2 (by omega)
      have c3 := hc 3 (by omega)
      have c4 := hc 4 (by omega)
      obtain ⟨b, o, sp⟩ := a
      have hsp : sp = none := by
        obtain ⟨cs0, z1, z2⟩ := hx 0 (by omega)
        obtain ⟨nd0, _, rfl⟩ := open_nodeW z2
        rw [Try.cells46] at z1
        obtain ⟨_, _, zc⟩ := World.cells?_some z1
        have z0 := zc 0 (by omega)
        simpa [Addr.add] using World.cell?_spot (z0.trans rfl)
      subst hsp
      have ad : ∀ j, Addr.add ⟨b, o, none⟩ j = ⟨b, o + j, none⟩ := by
        intro j
        unfold Addr.add
        split
        · simp_all
        · rfl
      simp [ad, ← Nat.add_assoc] at c0 c1 c2 c3 c4
      exact ⟨nd, hs, b, o, rfl, c0, c1, c2, c3, c4⟩)
    refine ⟨(List.range len).map F, by simp, by omega, ?_, ?_⟩
    · intro i hi
      have hi' : i < len := by simpa using hi
      obtain ⟨_, b, o, rfl, hn⟩ := hF i hi'
      exact ⟨b, o, rfl, by simpa using hn⟩
    · intro nd hnd
      simp at hnd
      obtain ⟨i, hi, rfl⟩ := hnd
      exact (hF i hi).1

end Go.Proofs.Ytljdcaoibnikjaa
