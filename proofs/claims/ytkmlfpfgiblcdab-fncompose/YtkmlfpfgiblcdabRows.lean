/-
  No cell of these rows narrows 'for every input' (looked for: loops, veiled, ifaces, maps, wideKeys, modest, calm, conditions, laid).
  DERIVED. THE GIVEN ROWS OF THIS SEAT. 6 by the template 'for every input the law returns true; each argument reads behind the call as it read before'; 0 by the template 'total and deterministic' (their statements: YtkmlfpfgiblcdabTotals.lean).
  GIVEN WITH THE SEED: the statements are not yours to turn. If you find one false, say at which input.
  Laid BY PROGRAM, IN A SANDBOX (cutbox-rows.mjs): the forced cells as the released guide's own fill.sh prints them over the translation cb6d88f20f7d1e55… (all of the seat's roots in one cut). By AI agents, Wed Nov 11 2026. No macro, syntax, notation, axiom, sorry.
-/
import Derived.Test.YtkmlfpfgiblcdabChecked
import GoSem.Claim
import GoSem.ClaimJoined
import GoSem.ClaimMapViews
import Derived.JoinedTies
import Derived.KernelRfl
namespace Go.Proofs.Ytkmlfpfgiblcdab
/- THE CELL 'sum', in the pinned program and in every row, IS THE sha256 OF THE DUMP (.gsa) THAT YtkmlfpfgiblcdabProg.lean LOADS. Nothing in Lean hashes anything: it is a label: what it is worth is what the hold of that sum in a sandbox is worth. -/
noncomputable def Try.pinned : Pinned := { name := "ytkmlfpfgiblcdab", sum := "cb6d88f20f7d1e557a0aba645e130cae02e5e8175ca13f87c1d503432b73a7da", checked := Try.checked }
namespace Rows
def none {H : Type} : Left H := { results := [], args := [] }

/-- 'laws.FnExactGround': WHATEVER THE INPUT: true; the input reads as it did. -/
def fnExactGroundSpec : ChangeSpec := { name := "fnExactGround", fn := fun _ => fun
  | [d] => { results := [.lit (.bool true)], args := [d] }
  | _ => none }
def fnExactGroundRow : OpenClaim := { program := "ytkmlfpfgiblcdab", sum := "cb6d88f20f7d1e557a0aba645e130cae02e5e8175ca13f87c1d503432b73a7da", func := "loop.example/s02665/laws.FnExactGround", spec := "fnExactGround", unfollowed := true, recurses := true, apart := false }
def FnExactGroundSaid : Prop := fnExactGroundRow.holds Try.pinned (OpenSpec.ofChange fnExactGroundSpec)

/-- ITS FALSE NEIGHBOUR: 'it returns false'. Refute it at one input. -/
def fnExactGroundWrong : ChangeSpec := { name := "fnExactGround", fn := fun _ => fun
  | [d] => { results := [.lit (.bool false)], args := [d] }
  | _ => none }
def FnExactGroundWrongFalsely : Prop := fnExactGroundRow.holds Try.pinned (OpenSpec.ofChange fnExactGroundWrong)

/-- 'laws.FnExactCanon': WHATEVER THE INPUT: true; the input reads as it did. -/
def fnExactCanonSpec : ChangeSpec := { name := "fnExactCanon", fn := fun _ => fun
  | [d] => { results := [.lit (.bool true)], args := [d] }
  | _ => none }
def fnExactCanonRow : OpenClaim := { program := "ytkmlfpfgiblcdab", sum := "cb6d88f20f7d1e557a0aba645e130cae02e5e8175ca13f87c1d503432b73a7da", func := "loop.example/s02665/laws.FnExactCanon", spec := "fnExactCanon", unfollowed := true, recurses := true, apart := false }
def FnExactCanonSaid : Prop := fnExactCanonRow.holds Try.pinned (OpenSpec.ofChange fnExactCanonSpec)

/-- ITS FALSE NEIGHBOUR: 'it returns false'. Refute it at one input. -/
def fnExactCanonWrong : ChangeSpec := { name := "fnExactCanon", fn := fun _ => fun
  | [d] => { results := [.lit (.bool false)], args := [d] }
  | _ => none }
def FnExactCanonWrongFalsely : Prop := fnExactCanonRow.holds Try.pinned (OpenSpec.ofChange fnExactCanonWrong)

/-- 'laws.FnExactUnknowns': WHATEVER THE INPUT: true; the input reads as it did. -/
def fnExactUnknownsSpec : ChangeSpec := { name := "fnExactUnknowns", fn := fun _ => fun
  | [d] => { results := [.lit (.bool true)], args := [d] }
  | _ => none }
def fnExactUnknownsRow : OpenClaim := { program := "ytkmlfpfgiblcdab", sum := "cb6d88f20f7d1e557a0aba645e130cae02e5e8175ca13f87c1d503432b73a7da", func := "loop.example/s02665/laws.FnExactUnknowns", spec := "fnExactUnknowns", unfollowed := true, recurses := true, apart := false }
def FnExactUnknownsSaid : Prop := fnExactUnknownsRow.holds Try.pinned (OpenSpec.ofChange fnExactUnknownsSpec)

/-- ITS FALSE NEIGHBOUR: 'it returns false'. Refute it at one input. -/
def fnExactUnknownsWrong : ChangeSpec := { name := "fnExactUnknowns", fn := fun _ => fun
  | [d] => { results := [.lit (.bool false)], args := [d] }
  | _ => none }
def FnExactUnknownsWrongFalsely : Prop := fnExactUnknownsRow.holds Try.pinned (OpenSpec.ofChange fnExactUnknownsWrong)

/-- 'laws.FnExactPut': WHATEVER THE INPUT: true; the input reads as it did. -/
def fnExactPutSpec : ChangeSpec := { name := "fnExactPut", fn := fun _ => fun
  | [d1, d2] => { results := [.lit (.bool true)], args := [d1, d2] }
  | _ => none }
def fnExactPutRow : OpenClaim := { program := "ytkmlfpfgiblcdab", sum := "cb6d88f20f7d1e557a0aba645e130cae02e5e8175ca13f87c1d503432b73a7da", func := "loop.example/s02665/laws.FnExactPut", spec := "fnExactPut", unfollowed := true, recurses := true, apart := false }
def FnExactPutSaid : Prop := fnExactPutRow.holds Try.pinned (OpenSpec.ofChange fnExactPutSpec)

/-- ITS FALSE NEIGHBOUR: 'it returns false'. Refute it at one input. -/
def fnExactPutWrong : ChangeSpec := { name := "fnExactPut", fn := fun _ => fun
  | [d1, d2] => { results := [.lit (.bool false)], args := [d1, d2] }
  | _ => none }
def FnExactPutWrongFalsely : Prop := fnExactPutRow.holds Try.pinned (OpenSpec.ofChange fnExactPutWrong)

/-- 'laws.FnExactCompose': WHATEVER THE INPUT: true; the input reads as it did. -/
def fnExactComposeSpec : ChangeSpec := { name := "fnExactCompose", fn := fun _ => fun
  | [d1, d2] => { results := [.lit (.bool true)], args := [d1, d2] }
  | _ => none }
def fnExactComposeRow : OpenClaim := { program := "ytkmlfpfgiblcdab", sum := "cb6d88f20f7d1e557a0aba645e130cae02e5e8175ca13f87c1d503432b73a7da", func := "loop.example/s02665/laws.FnExactCompose", spec := "fnExactCompose", unfollowed := true, recurses := true, apart := false }
def FnExactComposeSaid : Prop := fnExactComposeRow.holds Try.pinned (OpenSpec.ofChange fnExactComposeSpec)

/-- ITS FALSE NEIGHBOUR: 'it returns false'. Refute it at one input. -/
def fnExactComposeWrong : ChangeSpec := { name := "fnExactCompose", fn := fun _ => fun
  | [d1, d2] => { results := [.lit (.bool false)], args := [d1, d2] }
  | _ => none }
def FnExactComposeWrongFalsely : Prop := fnExactComposeRow.holds Try.pinned (OpenSpec.ofChange fnExactComposeWrong)

/-- 'laws.FnCompose': WHATEVER THE INPUT: true; the input reads as it did. -/
def fnComposeSpec : ChangeSpec := { name := "fnCompose", fn := fun _ => fun
  | [d1, d2] => { results := [.lit (.bool true)], args := [d1, d2] }
  | _ => none }
def fnComposeRow : OpenClaim := { program := "ytkmlfpfgiblcdab", sum := "cb6d88f20f7d1e557a0aba645e130cae02e5e8175ca13f87c1d503432b73a7da", func := "loop.example/s02665/laws.FnCompose", spec := "fnCompose", unfollowed := true, recurses := true, apart := false }
def FnComposeSaid : Prop := fnComposeRow.holds Try.pinned (OpenSpec.ofChange fnComposeSpec)

/-- ITS FALSE NEIGHBOUR: 'it returns false'. Refute it at one input. -/
def fnComposeWrong : ChangeSpec := { name := "fnCompose", fn := fun _ => fun
  | [d1, d2] => { results := [.lit (.bool false)], args := [d1, d2] }
  | _ => none }
def FnComposeWrongFalsely : Prop := fnComposeRow.holds Try.pinned (OpenSpec.ofChange fnComposeWrong)

/- THE SECOND FORM. 'bulk': how many values and letters a reading holds, each counted each time it is reached (what is shared counts as often as it is met; a slice's spare places count too). A statement '..UptoSaid' is the law's where the arguments, and the package variables that the reading takes, are together of bulk at most 1048576: NARROWER than '..Said'. Prove '..Said' where nothing that the law and all that it calls make is longer than what came in: it says more and counts as full. Else prove '..UptoSaid'. A law counts once. -/
mutual
def uptoBulk {H : Type} : DataW H → Nat
  | .lit (.string bytes) => bytes.length + 1
  | .lit _ => 1
  | .nil => 1
  | .ptr d => uptoBulk d + 1
  | .slice elems spare => uptoBulkAll elems + uptoBulkAll spare + 1
  | .agg parts => uptoBulkAll parts + 1
  | .iface _ d => uptoBulk d + 1
  | .map entries => uptoBulkEntries entries + 1
  | .held _ => 1
def uptoBulkAll {H : Type} : List (DataW H) → Nat
  | [] => 0
  | d :: r => uptoBulk d + uptoBulkAll r
def uptoBulkEntries {H : Type} : List (Lit × DataW H) → Nat
  | [] => 0
  | x :: r => uptoBulkEntry x + uptoBulkEntries r
def uptoBulkEntry {H : Type} : Lit × DataW H → Nat
  | (.string bytes, d) => bytes.length + uptoBulk d + 1
  | (_, d) => uptoBulk d + 1
 end
def uptoSmall : (H : Type) → List (DataW H) → Bool := fun _ ds => decide (uptoBulkAll ds ≤ 1048576)
def OpenSpec.upto (s : _root_.Go.ChangeSpec) : _root_.Go.OpenSpec := { _root_.Go.OpenSpec.ofChange s with cond := some uptoSmall }

/-- 'laws.FnExactGround', WHERE WHAT IT READS IS OF BULK AT MOST 1048576: true; the input reads as it did. -/
def fnExactGroundUptoRow : OpenClaim := { program := "ytkmlfpfgiblcdab", sum := "cb6d88f20f7d1e557a0aba645e130cae02e5e8175ca13f87c1d503432b73a7da", func := "loop.example/s02665/laws.FnExactGround", spec := "fnExactGround", unfollowed := true, recurses := true, apart := false, narrowed := true }
def FnExactGroundUptoSaid : Prop := fnExactGroundUptoRow.holds Try.pinned (OpenSpec.upto fnExactGroundSpec)

/-- 'laws.FnExactCanon', WHERE WHAT IT READS IS OF BULK AT MOST 1048576: true; the input reads as it did. -/
def fnExactCanonUptoRow : OpenClaim := { program := "ytkmlfpfgiblcdab", sum := "cb6d88f20f7d1e557a0aba645e130cae02e5e8175ca13f87c1d503432b73a7da", func := "loop.example/s02665/laws.FnExactCanon", spec := "fnExactCanon", unfollowed := true, recurses := true, apart := false, narrowed := true }
def FnExactCanonUptoSaid : Prop := fnExactCanonUptoRow.holds Try.pinned (OpenSpec.upto fnExactCanonSpec)

/-- 'laws.FnExactUnknowns', WHERE WHAT IT READS IS OF BULK AT MOST 1048576: true; the input reads as it did. -/
def fnExactUnknownsUptoRow : OpenClaim := { program := "ytkmlfpfgiblcdab", sum := "cb6d88f20f7d1e557a0aba645e130cae02e5e8175ca13f87c1d503432b73a7da", func := "loop.example/s02665/laws.FnExactUnknowns", spec := "fnExactUnknowns", unfollowed := true, recurses := true, apart := false, narrowed := true }
def FnExactUnknownsUptoSaid : Prop := fnExactUnknownsUptoRow.holds Try.pinned (OpenSpec.upto fnExactUnknownsSpec)

/-- 'laws.FnExactPut', WHERE WHAT IT READS IS OF BULK AT MOST 1048576: true; the input reads as it did. -/
def fnExactPutUptoRow : OpenClaim := { program := "ytkmlfpfgiblcdab", sum := "cb6d88f20f7d1e557a0aba645e130cae02e5e8175ca13f87c1d503432b73a7da", func := "loop.example/s02665/laws.FnExactPut", spec := "fnExactPut", unfollowed := true, recurses := true, apart := false, narrowed := true }
def FnExactPutUptoSaid : Prop := fnExactPutUptoRow.holds Try.pinned (OpenSpec.upto fnExactPutSpec)

/-- 'laws.FnExactCompose', WHERE WHAT IT READS IS OF BULK AT MOST 1048576: true; the input reads as it did. -/
def fnExactComposeUptoRow : OpenClaim := { program := "ytkmlfpfgiblcdab", sum := "cb6d88f20f7d1e557a0aba645e130cae02e5e8175ca13f87c1d503432b73a7da", func := "loop.example/s02665/laws.FnExactCompose", spec := "fnExactCompose", unfollowed := true, recurses := true, apart := false, narrowed := true }
def FnExactComposeUptoSaid : Prop := fnExactComposeUptoRow.holds Try.pinned (OpenSpec.upto fnExactComposeSpec)

/-- 'laws.FnCompose', WHERE WHAT IT READS IS OF BULK AT MOST 1048576: true; the input reads as it did. -/
def fnComposeUptoRow : OpenClaim := { program := "ytkmlfpfgiblcdab", sum := "cb6d88f20f7d1e557a0aba645e130cae02e5e8175ca13f87c1d503432b73a7da", func := "loop.example/s02665/laws.FnCompose", spec := "fnCompose", unfollowed := true, recurses := true, apart := false, narrowed := true }
def FnComposeUptoSaid : Prop := fnComposeUptoRow.holds Try.pinned (OpenSpec.upto fnComposeSpec)

end Rows
end Go.Proofs.Ytkmlfpfgiblcdab
