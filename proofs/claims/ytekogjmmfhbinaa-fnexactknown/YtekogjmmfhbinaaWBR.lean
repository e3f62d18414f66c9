import Derived.Test.YtekogjmmfhbinaaProg
import Derived.Test.YtekogjmmfhbinaaWAA
import Derived.ProofKit
import Derived.Deep.Slices
import Derived.Test.YtekogjmmfhbinaaWAC
import Derived.Test.YtekogjmmfhbinaaWBQ
namespace Go.Proofs.Ytekogjmmfhbinaa

open Go.ChangeShapes Go.WideShapes Go.ChangeAt Go.RowKit Go.Deep

theorem Try.cells35 : Try.prog.cellsOf 35 = 5 := by kernel_rfl
theorem Try.cells3 : Try.prog.cellsOf 3 = 1 := by kernel_rfl
theorem Try.cells2 : Try.prog.cellsOf 2 = 1 := by kernel_rfl
theorem Try.cells9 : Try.prog.cellsOf 9 = 1 := by kernel_rfl

set_option maxRecDepth 4000 in
/-- One node read out of five cells. -/
theorem open_node {H : Type} {enc : TypeId × Value → H} {W : World} {base : Nat} {spare : Nat → Bool} {held : Bool} {fuel : Nat} {cs : List Value} {x : DataW H × List MemPlace}
    (h : DataW.trod enc Try.prog W base spare held fuel 35 cs = some x) :
    ∃ n : Nd, n.text.size ≤ maxLen ∧ cs = [.int .i64 n.kind, .int .i64 n.num, .string n.text, .int .i64 n.kids, .int .i64 n.place] := by
  obtain ⟨ys, k, _, _, hlen, hyl, hf⟩ := DataW.trod_struct Try.underlying35 h
  rw [Try.cells35] at hlen
  match cs, hlen with
  | [v0, v1, v2, v3, v4], _ =>
    have l0 : ∃ y, ys[0]? = some y := ⟨_, List.getElem?_eq_getElem (by simp at hyl; omega)⟩
    have l1 : ∃ y, ys[1]? = some y := ⟨_, List.getElem?_eq_getElem (by simp at hyl; omega)⟩
    have l2 : ∃ y, ys[2]? = some y := ⟨_, List.getElem?_eq_getElem (by simp at hyl; omega)⟩
    have l3 : ∃ y, ys[3]? = some y := ⟨_, List.getElem?_eq_getElem (by simp at hyl; omega)⟩
    have l4 : ∃ y, ys[4]? = some y := ⟨_, List.getElem?_eq_getElem (by simp at hyl; omega)⟩
    obtain ⟨y0, l0⟩ := l0
    obtain ⟨y1, l1⟩ := l1
    obtain ⟨y2, l2⟩ := l2
    obtain ⟨y3, l3⟩ := l3
    obtain ⟨y4, l4⟩ := l4
    have g0 := (hf 0 { name := "Kind", type := 3, offset := 0, embedded := false, tag := "", pkgPath := "", byteOffset := 0 } rfl).trans l0
    have g1 := (hf 1 { name := "Num", type := 2, offset := 1, embedded := false, tag := "", pkgPath := "", byteOffset := 8 } rfl).trans l1
    have g2 := (hf 2 { name := "Text", type := 9, offset := 2, embedded := false, tag := "", pkgPath := "", byteOffset := 16 } rfl).trans l2
    have g3 := (hf 3 { name := "Kids", type := 3, offset := 3, embedded := false, tag := "", pkgPath := "", byteOffset := 32 } rfl).trans l3
    have g4 := (hf 4 { name := "At", type := 3, offset := 4, embedded := false, tag := "", pkgPath := "", byteOffset := 40 } rfl).trans l4
    simp only [Try.cells3, Try.cells2, Try.cells9, List.drop_zero, List.drop_succ_cons, List.take_succ_cons, List.take_zero] at g0 g1 g2 g3 g4
    obtain ⟨a0, e0, _, _⟩ := DataW.trod_int Try.underlying3 g0
    obtain ⟨a1, e1, _, _⟩ := DataW.trod_int Try.underlying2 g1
    obtain ⟨a2, e2, _, hs⟩ := DataW.trod_string Try.underlying9 g2
    obtain ⟨a3, e3, _, _⟩ := DataW.trod_int Try.underlying3 g3
    obtain ⟨a4, e4, _, _⟩ := DataW.trod_int Try.underlying3 g4
    simp at e0 e1 e2 e3 e4
    subst e0 e1 e2 e3 e4
    exact ⟨⟨a0, a1, a2, a3, a4⟩, hs, rfl⟩

set_option maxRecDepth 4000 in
/-- A slice of nodes that came in. -/
theorem open_nodes {H : Type} {enc : TypeId × Value → H} {W : World} {base : Nat} {spare : Nat → Bool} {held : Bool} {fuel : Nat} {ao : Option Addr} {len cap : Nat} {x : DataW H × List MemPlace}
    (h : DataW.trod enc Try.prog W base spare held fuel 25 [.slice ao len cap] = some x) :
    ∃ xs : List Nd, xs.length = len ∧ len ≤ 9223372036854775807 ∧ Nodes W ao xs ∧ ∀ n ∈ xs, n.text.size ≤ maxLen := by
  rcases open_slice Try.underlying25 h with ⟨hcs, _⟩ | ⟨a, l, c, m, n, D, Pl, hcs, _, hl, hm, hmm, _, hx⟩
  · simp at hcs
    obtain ⟨rfl, rfl, rfl⟩ := hcs
    exact ⟨[], rfl, by omega, fun i hi => by simp at hi, by simp⟩
  · simp at hcs
    obtain ⟨rfl, rfl, rfl⟩ := hcs
    have hlm : len ≤ m := by rw [hmm]; split <;> omega
    unfold maxLen at hm
    have inh : Inhabited Nd := ⟨⟨0, 0, ByteArray.empty, 0, 0⟩⟩
    obtain ⟨F, hF⟩ := choose_lt (α := Nd) (n := len) (p := fun i nd => nd.text.size ≤ maxLen ∧ ∃ b o, a = ⟨b, o, none⟩ ∧ NodeAt W b (o + i * 5) nd) (fun i hi => by
      obtain ⟨cs', h1, h2⟩ := hx i (by omega)
      obtain ⟨nd, hs, rfl⟩ := open_node h2
      rw [Try.cells35] at h1
      obtain ⟨_, _, hc⟩ := World.cells?_some h1
      simp only [add_add] at hc
      have c0 := hc 0 (by omega)
      have c1 := hc 1 (by omega)
      have c2 := hc 2 (by omega)
      have c3 := hc 3 (by omega)
      have c4 := hc 4 (by omega)
      obtain ⟨b, o, sp⟩ := a
      have hsp : sp = none := by
        obtain ⟨cs0, z1, z2⟩ := hx 0 (by omega)
        obtain ⟨nd0, _, rfl⟩ := open_node z2
        rw [Try.cells35] at z1
        obtain ⟨_, _, zc⟩ := World.cells?_some z1
        have z0 := zc 0 (by omega)
        simpa [Addr.add] using World.cell?_spot (z0.trans rfl)
      subst hsp
      have ad : ∀ j, Addr.add ⟨b, o, none⟩ j = ⟨b, o + j, none⟩ := by
        intro j
        unfold Addr.add
        split
        · simp_all
        · rfl
      simp [ad, ← Nat.add_assoc] at c0 c1 c2 c3 c4
      exact ⟨nd, hs, b, o, rfl, c0, c1, c2, c3, c4⟩)
    refine ⟨(List.range len).map F, by simp, by omega, ?_, ?_⟩
    · intro i hi
      have hi' : i < len := by simpa using hi
      obtain ⟨_, b, o, rfl, hn⟩ := hF i hi'
      exact ⟨b, o, rfl, by simpa using hn⟩
    · intro nd hnd
      simp at hnd
      obtain ⟨i, hi, rfl⟩ := hnd
      exact (hF i hi).1

end Go.Proofs.Ytekogjmmfhbinaa

namespace Go.Proofs.Ytekogjmmfhbinaa

open Go.RowKit

theorem alike_sameK (xs : List Nd) : Alike Nd.eqb xs xs := ⟨rfl, fun _ _ _ => Nd.eqb_refl _⟩

set_option maxHeartbeats 1000000 in
theorem lawKnown (xs : List Nd) (ao : Option Addr) (cap : Nat) (w : World) (hx : Nodes w ao xs)
    (hsx : ∀ x ∈ xs, x.text.size ≤ maxLen) (hlx : xs.length ≤ 9223372036854775807) :
    Calls Try.prog 4 #[.slice ao xs.length cap] w fun e w' => e = .returned (.bool true) ∧ Below w.heap.size w w' := by
  go_enter Try.func4, Try.ntmps4
  go_wp2_with fail
  refine (szNodeS_any xs ao cap 1048576 w hx hsx hlx (by omega) (by omega)).mono ?_
  rintro e w1 ⟨⟨r, rfl, hr⟩, b1⟩
  have hx := hx.below b1
  rcases hr with hr | ⟨hr0, hr1⟩
  · subst hr
    go_wp2
    go_ret
    exact ⟨rfl, b1⟩
  have lx : xs.length ≤ 1048576 := by omega
  obtain ⟨l, hl⟩ : ∃ l, xs.length = l := ⟨_, rfl⟩
  have HL : Hid (xs.length = l) := hl
  have hx1 := hx
  rw [hl] at lx ⊢
  clear hl hr1 hlx hsx hx
  have toN : ∀ W, Nodes W ao xs → Calls Try.prog 9 #[.slice ao l cap] W fun e w' => ∃ g, e = .returned (.slice (some ⟨g, 0, none⟩) l l) ∧ W.heap.size ≤ g ∧ Row w' g xs ∧ Below W.heap.size W w' := by
    intro W hW
    have h9 := toNodeS_any xs ao cap W hW (by have := HL.out; omega)
    rw [HL.out] at h9
    exact h9
  have TON : Hid (∀ W, Nodes W ao xs → Calls Try.prog 9 #[.slice ao l cap] W fun e w' => ∃ g, e = .returned (.slice (some ⟨g, 0, none⟩) l l) ∧ W.heap.size ≤ g ∧ Row w' g xs ∧ Below W.heap.size W w') := toN
  clear toN
  go_wp2_with fail
  refine (TON.out w1 hx1).mono ?_
  rintro e w2 ⟨g1, rfl, _, R1, b2⟩
  have hx2 := hx1.below b2
  have b2 := Below.step b1 b2
  clear b1 hx1
  go_wp2_with fail
  refine (specKnown_any xs l HL lx _ _ w2 R1.nodes).mono ?_
  rintro e w3 ⟨⟨c1, rfl, hc1⟩, b3⟩
  have hx3 := hx2.below b3
  have b3 := Below.step b2 b3
  clear b2 hx2 R1
  go_wp2_with fail
  refine (TON.out w3 hx3).mono ?_
  rintro e w4 ⟨g2, rfl, _, R2, b4⟩
  have hx4 := hx3.below b4
  have b4 := Below.step b3 b4
  clear b3 hx3
  go_wp2_with fail
  refine (implKnown_any xs l HL lx _ _ w4 R2.nodes).mono ?_
  rintro e w5 ⟨⟨c2, rfl, hc2⟩, b5⟩
  obtain rfl : c1 = c2 := by rw [Bool.eq_iff_iff, hc1, hc2]
  clear hc1 hc2
  have hx5 := hx4.below b5
  have R2 := R2.below b5
  have b5 := Below.step b4 b5
  clear b4 hx4
  go_wp2_with fail
  refine (TON.out w5 hx5).mono ?_
  rintro e w6 ⟨g3, rfl, _, R3, b6⟩
  have R2 := R2.below b6
  have b6 := Below.step b5 b6
  clear b5 hx5
  go_wp2_with fail
  refine (eqNodeS_any xs xs l l HL HL _ _ _ _ w6 R2.nodes R3.nodes (by omega) (by omega)).mono ?_
  rintro e w7 ⟨⟨u, rfl, hu⟩, b7⟩
  have hu1 : u = true := hu.2 (alike_sameK xs)
  subst hu1
  have b7 := Below.step b6 b7
  clear b6 hu R2 R3
  go_wp2
  go_ret
  exact ⟨rfl, b7⟩

end Go.Proofs.Ytekogjmmfhbinaa
