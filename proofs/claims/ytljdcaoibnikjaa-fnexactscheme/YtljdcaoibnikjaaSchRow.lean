
import Derived.Test.YtljdcaoibnikjaaRows
import Derived.Test.YtljdcaoibnikjaaLawSch
import Derived.Test.YtljdcaoibnikjaaISch
import Derived.Test.YtljdcaoibnikjaaOpenW
import Derived.OpenShut
import Derived.ChangeOld
namespace Go.Proofs.Ytljdcaoibnikjaa
open Go.ChangeShapes Go.WideShapes Go.ChangeAt Go.RowKit Go.Deep

theorem Try.own : ownKnob Try.prog.godebug = none := by kernel_rfl
theorem Try.laidOut : laidOutB Try.prog = true := by kernel_rfl

theorem Try.cells35 : Try.prog.cellsOf 35 = 6 := by kernel_rfl
theorem Try.cells22 : Try.prog.cellsOf 22 = 1 := by kernel_rfl

set_option maxRecDepth 4000 in
theorem open_nodes_cellS {H : Type} {enc : TypeId × Value → H} {W : World} {base : Nat} {spare : Nat → Bool} {held : Bool} {fuel : Nat} {v : Value} {x : DataW H × List MemPlace}
    (h : DataW.trod enc Try.prog W base spare held fuel 22 [v] = some x) :
    ∃ (ao : Option Addr) (cap : Nat) (xs : List Nd), v = .slice ao xs.length cap ∧ xs.length ≤ 9223372036854775807 ∧ Nodes W ao xs ∧ ∀ n ∈ xs, n.text.size ≤ maxLen ∧ (Lit.int .i64 n.num).wf = true := by
  have hv : ∃ ao len cap, v = .slice ao len cap := by
    rcases open_slice Try.underlying22 h with ⟨hcs, _⟩ | ⟨a, l, c, m, n, D, Pl, hcs, _⟩
    · simp at hcs; exact ⟨_, _, _, hcs⟩
    · simp at hcs; exact ⟨_, _, _, hcs⟩
  obtain ⟨ao, len, cap, rfl⟩ := hv
  obtain ⟨xs, rfl, hl, hn, hs⟩ := open_nodesW h
  exact ⟨ao, cap, xs, rfl, hl, hn, hs⟩

set_option maxRecDepth 4000 in
/-- A binder read out of six cells. -/
theorem open_binder {H : Type} {enc : TypeId × Value → H} {W : World} {base : Nat} {spare : Nat → Bool} {held : Bool} {fuel : Nat} {cs : List Value} {x : DataW H × List MemPlace}
    (h : DataW.trod enc Try.prog W base spare held fuel 35 cs = some x) :
    ∃ (nm nd fr ct : Int) (na : ByteArray) (ao : Option Addr) (cap : Nat) (xs : List Nd), na.size ≤ maxLen ∧ cs = [.int .i64 nm, .string na, .int .i64 nd, .int .i64 fr, .int .i64 ct, .slice ao xs.length cap] ∧ xs.length ≤ 9223372036854775807 ∧ Nodes W ao xs ∧ ∀ n ∈ xs, n.text.size ≤ maxLen ∧ (Lit.int .i64 n.num).wf = true := by
  obtain ⟨ys, k, _, _, hlen, hyl, hf⟩ := DataW.trod_struct Try.underlying35 h
  rw [Try.cells35] at hlen
  match cs, hlen with
  | [v0, v1, v2, v3, v4, v5], _ =>
    have hl : ∀ i, i < 6 → ∃ y, ys[i]? = some y := fun i hi => ⟨_, List.getElem?_eq_getElem (by simp at hyl; omega)⟩
    obtain ⟨y0, l0⟩ := hl 0 (by omega)
    obtain ⟨y1, l1⟩ := hl 1 (by omega)
    obtain ⟨y2, l2⟩ := hl 2 (by omega)
    obtain ⟨y3, l3⟩ := hl 3 (by omega)
    obtain ⟨y4, l4⟩ := hl 4 (by omega)
    obtain ⟨y5, l5⟩ := hl 5 (by omega)
    have g0 := (hf 0 { name := "Num", type := 2, offset := 0, embedded := false, tag := "", pkgPath := "", byteOffset := 0 } rfl).trans l0
    have g1 := (hf 1 { name := "Name", type := 9, offset := 1, embedded := false, tag := "", pkgPath := "", byteOffset := 8 } rfl).trans l1
    have g2 := (hf 2 { name := "Node", type := 3, offset := 2, embedded := false, tag := "", pkgPath := "", byteOffset := 24 } rfl).trans l2
    have g3 := (hf 3 { name := "From", type := 2, offset := 3, embedded := false, tag := "", pkgPath := "", byteOffset := 32 } rfl).trans l3
    have g4 := (hf 4 { name := "Count", type := 3, offset := 4, embedded := false, tag := "", pkgPath := "", byteOffset := 40 } rfl).trans l4
    have g5 := (hf 5 { name := "Type", type := 22, offset := 5, embedded := false, tag := "", pkgPath := "", byteOffset := 48 } rfl).trans l5
    simp only [Try.cells3, Try.cells2, Try.cells9, Try.cells22, List.drop_zero, List.drop_succ_cons, List.take_succ_cons, List.take_zero] at g0 g1 g2 g3 g4 g5
    obtain ⟨a0, e0, _, _⟩ := DataW.trod_int Try.underlying2 g0
    obtain ⟨a1, e1, _, hs1⟩ := DataW.trod_string Try.underlying9 g1
    obtain ⟨a2, e2, _, _⟩ := DataW.trod_int Try.underlying3 g2
    obtain ⟨a3, e3, _, _⟩ := DataW.trod_int Try.underlying2 g3
    obtain ⟨a4, e4, _, _⟩ := DataW.trod_int Try.underlying3 g4
    obtain ⟨ao, cap, xs, e5, hlx, hn, hs⟩ := open_nodes_cellS g5
    simp at e0 e1 e2 e3 e4
    subst e0 e1 e2 e3 e4 e5
    exact ⟨a0, a2, a3, a4, a1, ao, cap, xs, hs1, rfl, hlx, hn, hs⟩

set_option maxRecDepth 100000 in
theorem lifted (os : Os) (started : os.Started) (H : Type) (enc : TypeId × Value → H) :
    ReturnsInHanded {} Try.checked os 4 .any (Rows.fnExactSchemeSpec.pre6 enc Try.prog Try.f4 Rows.fnExactSchemeRow.domain false) (Rows.fnExactSchemeSpec.post enc Try.prog Try.f4 false true false false) := by
  refine returnsInHanded_of_change (C := Try.checked) Try.own started (by kernel_rfl) Try.func4
    (ChangeSpec.witness6 (enc := enc) (C := Try.checked) false ⟨#[], #[.agg #[.int .i64 0, .string ByteArray.empty, .int .i64 0, .int .i64 0, .int .i64 0, .slice none 0 0]], []⟩ 8 (by kernel_rfl) (by kernel_rfl) (by kernel_rfl) (by kernel_rfl)) ?_
  intro W base args ds gs before hval0 hW hcnd _
  have hval : ∀ (j : Nat) t v, Try.f4.params[j]? = some t → args[j]? = some v → Value.okWide Try.prog W .any base t v := hval0
  have hW' := hW
  obtain ⟨p, q, hA0, hV, rfl, hfz, hnd⟩ := hW
  have hA : DataW.TrodAll enc Try.prog W 0 (fun _ => true) true Try.f4.params.toList args.toList ds p := hA0
  rw [Try.params4] at hA hval
  obtain ⟨v0, vs0, d0, ds0, p0, q0, hargs, rfl, rfl, h0, r0⟩ := trodAll_cons hA
  obtain ⟨rfl, rfl, rfl⟩ := trodAll_nil r0
  obtain rfl : args = #[v0] := by cases args; simp_all
  obtain ⟨rfl, rfl⟩ := trodVars_none hV
  obtain ⟨cs0, rfl, _⟩ := okWide_struct Try.underlying35 (hval 0 35 v0 rfl rfl)
  have k0 := h0
  have lt0 : ∀ x ∈ p0, x.block < W.heap.size := by obtain ⟨m, hm⟩ := k0; exact DataW.trod_lt m _ _ _ hm
  obtain ⟨nm, nd, fr, ct, na, a0, cap0, xs, hna, hcs, lx, nx, sx⟩ := open_binder h0.choose_spec
  obtain rfl : cs0 = #[.int .i64 nm, .string na, .int .i64 nd, .int .i64 fr, .int .i64 ct, .slice a0 xs.length cap0] := by
    have : cs0.toList = [.int .i64 nm, .string na, .int .i64 nd, .int .i64 fr, .int .i64 ct, .slice a0 xs.length cap0] := by simpa [Value.cells] using hcs
    cases cs0
    simp_all
  clear hA0 hval0
  refine (lawSch nm nd fr ct na hna xs a0 cap0 W nx (fun x hx => (sx x hx).1) lx (fun n hn => (sx n hn).2) (fun l g W hl hm hr => implScheme_any nm nd fr ct na xs l hl hm (fun n hn => (sx n hn).2) _ _ W hr.nodes)).mono fun e W' ⟨he, bel⟩ => ?_
  subst he
  exact ⟨_, rfl, _, _, _, [], _, [], hW', trodAll_mk1 (shut_bool Try.underlying4 _), (trodAll_cons_mk (Below.trod Try.laidOut (by kernel_rfl) (of_decide_eq_true (by kernel_rfl)) k0 bel lt0) trodAll_mk0), rfl, bel.frame _, fun h => by cases h⟩

theorem scheme_holds : Rows.FnExactSchemeSaid :=
  OpenClaim.holds_of_wide 4 Try.f4 rfl rfl rfl rfl rfl rfl rfl ⟨rfl, rfl, rfl, rfl, rfl⟩ rfl rfl rfl rfl rfl (by kernel_rfl) Try.func4 (by kernel_rfl)
    (of_decide_eq_true (by kernel_rfl)) (by unfold Func.isWrapper; first | (rw [if_pos (by decide +kernel)]; kernel_rfl) | (rw [if_neg (by decide +kernel)]; exact ⟨rfl, rfl⟩))
    (fun os started H enc _ => lifted os started H enc)
#print axioms scheme_holds

end Go.Proofs.Ytljdcaoibnikjaa
