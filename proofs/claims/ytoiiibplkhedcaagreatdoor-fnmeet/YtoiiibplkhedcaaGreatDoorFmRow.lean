import Derived.Test.YtoiiibplkhedcaaGreatDoorWBW
import Derived.Test.YtoiiibplkhedcaaGreatDoorRows
import Derived.Test.YtoiiibplkhedcaaGreatDoorCards
import Derived.Test.YtoiiibplkhedcaaGreatDoorTie
import Derived.ProofKit
import Derived.ChangeSame
import Derived.ChangeVars
import Derived.JoinedOf
import Derived.RowKit
import Derived.LaidLaws
import Derived.LaidHandle
import Derived.Stop.Joined
import Derived.OpenShut
import Derived.ChangeOld
import Derived.SevenTiedAt
set_option maxRecDepth 100000
namespace Go.Proofs.YtoiiibplkhedcaaGreatDoor
open Go.ChangeShapes Go.WideShapes Go.ChangeAt Go.RowKit Go.Deep
theorem Tryz.own : ownKnob Tryz.prog.godebug = none := by kernel_rfl
theorem Tryz.laidOut : laidOutB Tryz.prog = true := by kernel_rfl
theorem Tryz.et : Tryz.prog.globalNamed "errors.errorType" = some 1 := by kernel_rfl
theorem Tryz.tl : Tryz.prog.globalNamed "loop.example/s02665/impl.errTooLarge" = some 0 := by kernel_rfl
theorem Tryz.tlType : (Tryz.prog.globals[0]?).map (·.type) = some 62 := by kernel_rfl
theorem Tryz.rt : (Tryz.prog.cutTypes.find? (·.1 == "internal/reflectlite.rtype")).map (·.2) = some 177 := by kernel_rfl
theorem Tryz.size : Tryz.prog.types.size = 264 := by kernel_rfl
theorem Tryz.oneRow : ((List.range 264).filter fun t => Tryz.prog.rowNamed t [101, 114, 114, 111, 114]) = [62] := by kernel_rfl
theorem Tryz.cellsE : Tryz.prog.cellsOf 252 = 1 := by kernel_rfl
theorem Tryz.cellsS : Tryz.prog.cellsOf 9 = 1 := by kernel_rfl
theorem Tryz.star : "*" ++ "errors.errorString" = "*errors.errorString" := by decide
theorem Tryz.rowE (u : TypeId) (h : Tryz.prog.typeName? 3 u = some "*errors.errorString") : u = 232 :=
  typeName_ptr_named (nm := "errors.errorString") (by rw [Tryz.star]; kernel_rfl) (by kernel_rfl) (by decide) u (by rw [Tryz.star]; exact h)
theorem Tryz.cells5 : Tryz.prog.cellsOf 5 = 1 := by kernel_rfl
theorem Qof {H : Type} {enc : TypeId × Value → H} {W : World} {base : Nat} {spare : Nat → Bool} {held : Bool} {fuel : Nat} {ao : Option Addr} {len cap : Nat} {x : DataW H × List MemPlace}
    (h : DataW.trod enc Tryz.prog W base spare held fuel 22 [.slice ao len cap] = some x) : len ≤ 9223372036854775807 ∧ Code W ao len := by
  rcases open_slice1 Tryz.underlying22 Tryz.cells5 h with ⟨hcs, _⟩ | ⟨a, l, c, m, n, V, D, Pl, hcs, _, hl, hm, hmm, _, hx⟩
  · simp at hcs
    obtain ⟨rfl, rfl, rfl⟩ := hcs
    exact ⟨by omega, fun i hi => by omega⟩
  · simp at hcs
    obtain ⟨rfl, rfl, rfl⟩ := hcs
    have hlm : len ≤ m := by rw [hmm]; split <;> omega
    unfold maxLen at hm
    refine ⟨by omega, ?_⟩
    intro i hi
    obtain ⟨hc, ht⟩ := hx i (by omega)
    obtain ⟨v, hv, _, hw⟩ := DataW.trod_int Tryz.underlying5 ht
    simp at hv
    rw [hv] at hc
    obtain ⟨b, o, sp⟩ := a
    have hsp : sp = none := by
      obtain ⟨z0, _⟩ := hx 0 (by omega)
      simpa [Addr.add] using World.cell?_spot (z0.trans rfl)
    subst hsp
    have ad : Addr.add ⟨b, o, none⟩ i = ⟨b, o + i, none⟩ := by
      unfold Addr.add
      split
      · simp_all
      · rfl
    rw [ad] at hc
    have hr : 0 ≤ v ∧ v < 256 := by simp [Lit.wf, IntKind.min, IntKind.max, IntKind.bits, IntKind.signed] at hw; omega
    refine ⟨b, o, v.toNat, rfl, ?_, by omega⟩
    rw [hc]
    congr 2
    omega
theorem Qpk {W : World} (h : laidMetH Tryz.prog Rows.fnMeetRow.laid W) : ErrT W ∧ ∃ a, W.var? Tryz.prog "loop.example/s02665/impl.errTooLarge" = some #[.iface 232 (.pointer (some a))] := by
  have h' : laidMet Tryz.prog [("loop.example/s02665/impl.errTooLarge", Rows.laid_loop_example_s02665_impl_errTooLarge)] W ∧ handlesMet Tryz.prog [("errors.errorType", Rows.laid_errors_errorType)] W := h
  refine ⟨?_, ?_⟩
  · obtain ⟨name, u, ty, e1, e2, e3, e4, e5⟩ := h'.2 _ (List.mem_singleton.2 rfl)
    have en : name = [101, 114, 114, 111, 114] := (Option.some.inj e1).symm
    subst en
    obtain rfl := Option.some.inj (Tryz.rt.symm.trans e2)
    have hm : ty ∈ (List.range 264).filter fun t => Tryz.prog.rowNamed t [101, 114, 114, 111, 114] := List.mem_filter.2 ⟨List.mem_range.2 (by rw [← Tryz.size]; exact e3), e4⟩
    rw [Tryz.oneRow] at hm
    obtain rfl := List.mem_singleton.1 hm
    have hh : typeHandle Tryz.prog 62 = .pointer (some ⟨2, 62, none⟩) := by kernel_rfl
    rw [hh] at e5
    have h9 := World.var?_cell Tryz.et e5 0
    unfold ErrT
    simpa using h9
  · obtain ⟨ps, ⟨g0, t0, cs0, f0, p0, q0, hg0, ht0, hv0, hd0, hq0, e0⟩, hnd, hrows⟩ := h'.1
    obtain rfl := Option.some.inj (Tryz.tl.symm.trans hg0)
    obtain rfl := Option.some.inj (Tryz.tlType.symm.trans ht0)
    have hq0' : q0 = [] := hq0
    subst hq0'
    subst e0
    obtain ⟨l0⟩ := cs0
    have ok0 : ∀ u v, l0 = [.iface u v] → Value.okWide Tryz.prog W .any 0 u v := fun u v e => by
      subst e
      exact (hrows 0 0 (by simp [MemPlace.row])).2 u v (by simpa using World.var?_cell hg0 hv0 0)
    obtain ⟨a0, s0, rfl, _⟩ := errorString_of_trod Tryz.underlying62 Tryz.rowE Tryz.underlying232 Tryz.underlying252 rfl rfl Tryz.underlying9 Tryz.cellsE Tryz.cellsS hd0 ok0
    exact ⟨a0, hv0⟩
abbrev Jdg : ByteArray := { data := #[97, 32, 116, 121, 112, 101, 32, 105, 115, 32, 116, 111, 111, 32, 108, 97, 114, 103, 101] }
def lowW (p : Program) : Nat := (World.holding p default ⟨#[], #[], []⟩).heap.size
def Qor (p : Program) (os : Os) : World :=
  let w0 := World.holding p os ⟨#[.cells #[.string Jdg] 252], #[], []⟩
  { w0 with heap := (w0.heap.modify 0 fun
      | .cells _ t frozen => .cells #[.iface 232 (.pointer (some ⟨lowW p, 0, none⟩))] t frozen
      | o => o).modify 1 fun
      | .cells _ t frozen => .cells #[.iface 177 (.agg #[.pointer (some ⟨2, 62, none⟩)])] t frozen
      | o => o }
theorem Qmr (os : Os) (args : Array Value) : laidMetH Tryz.prog Rows.fnMeetRow.laid ((Qor Tryz.prog os).forCall (fun _ _ => 0) ⟨#[], args, []⟩).memory :=
  laidMetH_of_parts (laidMet_of_run (ps := [.cell 0 0, .cell (lowW Tryz.prog) 0]) 8 (by kernel_rfl) (by kernel_rfl) (by kernel_rfl)) (by kernel_rfl)
theorem Quq {W W' : World} {cs : Array Value} (h : W.var? Tryz.prog "loop.example/s02665/impl.errTooLarge" = some cs) (hb : Below W.heap.size W W') : W'.var? Tryz.prog "loop.example/s02665/impl.errTooLarge" = some cs := by
  unfold World.var? at h ⊢
  rw [Tryz.tl] at h ⊢
  simp only [Option.bind_some] at h ⊢
  have hlt : 0 < W.heap.size := by
    rcases Nat.lt_or_ge 0 W.heap.size with h' | h'
    · exact h'
    · simp [Array.getElem?_eq_none h'] at h
  rw [hb.block 0 hlt]
  exact h
theorem Qng {H : Type} (enc : TypeId × Value → H) {W : World} {x0 : Value} (h0 : W.var? Tryz.prog "loop.example/s02665/impl.errTooLarge" = some #[x0]) (i0 : IsIface x0) (sp : Nat → Bool) :
    DataW.TrodVars enc Tryz.prog W sp ["loop.example/s02665/impl.errTooLarge"] [tok enc x0] [.cell 0 0] :=
  ⟨0, 62, #[x0], 1, [], [], Tryz.tl, Tryz.tlType, h0, trod_held Tryz.underlying62 i0 0, rfl, rfl⟩
theorem Jdb (os : Os) (started : os.Started) (H : Type) (enc : TypeId × Value → H) :
    ReturnsInHanded {} Tryz.checked os 3 .any (fun w args => (Rows.fnMeetSpec.pre enc Tryz.prog Tryz.f3 Rows.fnMeetRow.domain false w args ∧ laidMetH Tryz.prog Rows.fnMeetRow.laid w) ∧ sizedMet enc Tryz.prog Tryz.f3 (OpenSpec.ofChange Rows.fnMeetSpec) false w args)
      (Rows.fnMeetSpec.post enc Tryz.prog Tryz.f3 false true false false) := by
  refine returnsInHanded_of_change_and (C := Tryz.checked) (X := fun w _ => laidMetH Tryz.prog Rows.fnMeetRow.laid w) (fun _ _ _ hh h => h.of_heap hh) Tryz.own started (by kernel_rfl) Tryz.func3
    (ChangeSpec.witness_at (enc := enc) (C := Tryz.checked) (os := os) (X := fun w _ => laidMetH Tryz.prog Rows.fnMeetRow.laid w) false (Qor Tryz.prog os) #[.slice none 0 0, .slice none 0 0] 8 rfl (by kernel_rfl) (by kernel_rfl) (by kernel_rfl) (by kernel_rfl) (by kernel_rfl) (Qmr os _)) ?_
  intro W base args ds gs before hval0 hW _ _ hL _
  have hval : ∀ (j : Nat) t v, Tryz.f3.params[j]? = some t → args[j]? = some v → Value.okWide Tryz.prog W .any base t v := hval0
  have hW' := hW
  obtain ⟨p, q, hA0, hV0, rfl, hfz, hnd⟩ := hW
  have hA : DataW.TrodAll enc Tryz.prog W 0 (fun _ => true) true Tryz.f3.params.toList args.toList ds p := hA0
  have hV : DataW.TrodVars enc Tryz.prog W (fun _ => true) ["loop.example/s02665/impl.errTooLarge"] gs q := hV0
  rw [Tryz.params3] at hA hval
  obtain ⟨v0, vs0, d0, ds0, p0, q0, hargs, rfl, rfl, h0, r0⟩ := trodAll_cons hA
  obtain ⟨v1, vs1, d1, ds1, p1, q1, rfl, rfl, rfl, h1, r1⟩ := trodAll_cons r0
  obtain ⟨rfl, rfl, rfl⟩ := trodAll_nil r1
  obtain rfl : args = #[v0, v1] := by cases args; simp_all
  obtain ⟨hgt, a9, hv0⟩ := Qpk hL
  obtain ⟨rfl, rfl⟩ := hV.unique (Qng enc hv0 trivial _)
  obtain ⟨a0, len0, cap0, rfl⟩ := okWide_slice Tryz.underlying22 (hval 0 22 v0 rfl rfl)
  obtain ⟨a1, len1, cap1, rfl⟩ := okWide_slice Tryz.underlying22 (hval 1 22 v1 rfl rfl)
  have k0 := h0
  have k1 := h1
  have lt0 : ∀ x ∈ p0, x.block < W.heap.size := by obtain ⟨m, hm⟩ := k0; exact DataW.trod_lt m _ _ _ hm
  have lt1 : ∀ x ∈ p1, x.block < W.heap.size := by obtain ⟨m, hm⟩ := k1; exact DataW.trod_lt m _ _ _ hm
  obtain ⟨l0, n0⟩ := Qof h0.choose_spec
  obtain ⟨l1, n1⟩ := Qof h1.choose_spec
  have hg0 : W.cell? ⟨0, 0, none⟩ = some (.iface 232 (.pointer (some a9))) := by simpa using World.var?_cell Tryz.tl hv0 0
  clear hA0 hV0 hval0
  refine (Jdt len0 len1 a0 a1 cap0 cap1 W l0 l1 n0 n1 (.pointer (some a9)) hg0 hgt).mono fun e W' ⟨he, bel⟩ => ?_
  subst he
  refine ⟨_, rfl, _, _, _, [], _, [.cell 0 0], hW', trodAll_mk1 (shut_bool Tryz.underlying4 _), (trodAll_cons_mk (Below.trod Tryz.laidOut (by kernel_rfl) (of_decide_eq_true (by kernel_rfl)) k0 bel lt0) (trodAll_cons_mk (Below.trod Tryz.laidOut (by kernel_rfl) (of_decide_eq_true (by kernel_rfl)) k1 bel lt1) trodAll_mk0)), Qng enc (Quq hv0 bel) trivial _, bel.frame _, fun h => by cases h⟩
theorem Qpf : Rows.FnMeetSaid :=
  OpenClaim.holds_of_wide 3 Tryz.f3 rfl rfl rfl rfl rfl rfl rfl ⟨rfl, rfl, rfl, rfl, rfl⟩ rfl rfl rfl rfl rfl (by kernel_rfl) Tryz.func3 (by kernel_rfl)
    (of_decide_eq_true (by kernel_rfl)) (by unfold Func.isWrapper; first | (rw [if_pos (by decide +kernel)]; kernel_rfl) | (rw [if_neg (by decide +kernel)]; exact ⟨rfl, rfl⟩))
    (fun os started H enc _ => Jdb os started H enc)
theorem fnmeet_card : Rows.FnMeetCardSaid :=
  Claim7.holds_tied_plain_at .later [] [.handle, .sentinel] true (true, "89d32ca3c23b808014af890112b013c7f486d71b3251e948b0e534328f278770") true
    Qpf (fun _ h => by cases h) (by kernel_rfl) (fun _ h => by cases h) fnMeet_row_tie rfl ⟨rfl, rfl⟩ (by kernel_rfl) rfl
    (fun f fn hf hfn => by
      obtain rfl : f = 3 := Option.some.inj ((show Tryz.prog.funcNamed "loop.example/s02665/laws.FnMeet" = some 3 by kernel_rfl).symm.trans hf) |>.symm
      obtain rfl : fn = Tryz.f3 := (Option.some.inj (Tryz.func3.symm.trans hfn)).symm
      exact ⟨by kernel_rfl, fun j t ht => by
        rw [Tryz.params3] at ht
        have hm : t ∈ [22] := by simpa using Array.mem_of_getElem? ht
        have hall : ([22].all fun u => !Tryz.prog.wantsStandIn u) = true := by kernel_rfl
        exact (show Tryz.prog.wantsStandIn t = false by simpa using List.all_eq_true.1 hall t hm)⟩)
    (by kernel_rfl)
#print axioms fnmeet_card
end Go.Proofs.YtoiiibplkhedcaaGreatDoor
