/-
  No cell of these rows narrows 'for every input' (looked for: loops, veiled, ifaces, maps, wideKeys, modest, calm, conditions, laid).
  DERIVED. THE GIVEN ROWS OF THIS SEAT. 2 by the template 'for every input the law returns true; each argument reads behind the call as it read before'; 0 by the template 'total and deterministic' (their statements: YtljdcaoibnikjaaTotals.lean).
  GIVEN WITH THE SEED: the statements are not yours to turn. If you find one false, say at which input.
  Laid BY PROGRAM, IN A SANDBOX (cutbox-rows.mjs): the forced cells as the released guide's own fill.sh prints them over the translation ae4eb25b0b66fd82… (all of the seat's roots in one cut). By AI agents, Wed Nov 11 2026. No macro, syntax, notation, axiom, sorry.
-/
import Derived.Test.YtljdcaoibnikjaaChecked
import GoSem.Claim
import GoSem.ClaimJoined
import GoSem.ClaimMapViews
import Derived.JoinedTies
import Derived.KernelRfl
namespace Go.Proofs.Ytljdcaoibnikjaa
/- THE CELL 'sum', in the pinned program and in every row, IS THE sha256 OF THE DUMP (.gsa) THAT YtljdcaoibnikjaaProg.lean LOADS. Nothing in Lean hashes anything: it is a label: what it is worth is what the hold of that sum in a sandbox is worth. -/
noncomputable def Try.pinned : Pinned := { name := "ytljdcaoibnikjaa", sum := "ae4eb25b0b66fd82d65c69265199c94cf50f0ac2e8bfbff4e6df2d0ed6aa6ba0", checked := Try.checked }
namespace Rows
def none {H : Type} : Left H := { results := [], args := [] }

/-- 'laws.FnExactInstance': WHATEVER THE INPUT: true; the input reads as it did. -/
def fnExactInstanceSpec : ChangeSpec := { name := "fnExactInstance", fn := fun _ => fun
  | [d1, d2] => { results := [.lit (.bool true)], args := [d1, d2] }
  | _ => none }
def fnExactInstanceRow : OpenClaim := { program := "ytljdcaoibnikjaa", sum := "ae4eb25b0b66fd82d65c69265199c94cf50f0ac2e8bfbff4e6df2d0ed6aa6ba0", func := "loop.example/s02665/laws.FnExactInstance", spec := "fnExactInstance", unfollowed := true, recurses := true, plainKeys := false, apart := false }
def FnExactInstanceSaid : Prop := fnExactInstanceRow.holds Try.pinned (OpenSpec.ofChange fnExactInstanceSpec)

/-- ITS FALSE NEIGHBOUR: 'it returns false'. Refute it at one input. -/
def fnExactInstanceWrong : ChangeSpec := { name := "fnExactInstance", fn := fun _ => fun
  | [d1, d2] => { results := [.lit (.bool false)], args := [d1, d2] }
  | _ => none }
def FnExactInstanceWrongFalsely : Prop := fnExactInstanceRow.holds Try.pinned (OpenSpec.ofChange fnExactInstanceWrong)

/-- 'laws.FnExactScheme': WHATEVER THE INPUT: true; the input reads as it did. -/
def fnExactSchemeSpec : ChangeSpec := { name := "fnExactScheme", fn := fun _ => fun
  | [d] => { results := [.lit (.bool true)], args := [d] }
  | _ => none }
def fnExactSchemeRow : OpenClaim := { program := "ytljdcaoibnikjaa", sum := "ae4eb25b0b66fd82d65c69265199c94cf50f0ac2e8bfbff4e6df2d0ed6aa6ba0", func := "loop.example/s02665/laws.FnExactScheme", spec := "fnExactScheme", unfollowed := true, recurses := true, plainKeys := false, apart := false }
def FnExactSchemeSaid : Prop := fnExactSchemeRow.holds Try.pinned (OpenSpec.ofChange fnExactSchemeSpec)

/-- ITS FALSE NEIGHBOUR: 'it returns false'. Refute it at one input. -/
def fnExactSchemeWrong : ChangeSpec := { name := "fnExactScheme", fn := fun _ => fun
  | [d] => { results := [.lit (.bool false)], args := [d] }
  | _ => none }
def FnExactSchemeWrongFalsely : Prop := fnExactSchemeRow.holds Try.pinned (OpenSpec.ofChange fnExactSchemeWrong)

/- THE SECOND FORM. 'bulk': how many values and letters a reading holds, each counted each time it is reached (what is shared counts as often as it is met; a slice's spare places count too). A statement '..UptoSaid' is the law's where the arguments, and the package variables that the reading takes, are together of bulk at most 1048576: NARROWER than '..Said'. Prove '..Said' where nothing that the law and all that it calls make is longer than what came in: it says more and counts as full. Else prove '..UptoSaid'. A law counts once. -/
mutual
def uptoBulk {H : Type} : DataW H → Nat
  | .lit (.string bytes) => bytes.length + 1
  | .lit _ => 1
  | .nil => 1
  | .ptr d => uptoBulk d + 1
  | .slice elems spare => uptoBulkAll elems + uptoBulkAll spare + 1
  | .agg parts => uptoBulkAll parts + 1
  | .iface _ d => uptoBulk d + 1
  | .map entries => uptoBulkEntries entries + 1
  | .held _ => 1
def uptoBulkAll {H : Type} : List (DataW H) → Nat
  | [] => 0
  | d :: r => uptoBulk d + uptoBulkAll r
def uptoBulkEntries {H : Type} : List (Lit × DataW H) → Nat
  | [] => 0
  | x :: r => uptoBulkEntry x + uptoBulkEntries r
def uptoBulkEntry {H : Type} : Lit × DataW H → Nat
  | (.string bytes, d) => bytes.length + uptoBulk d + 1
  | (_, d) => uptoBulk d + 1
 end
def uptoSmall : (H : Type) → List (DataW H) → Bool := fun _ ds => decide (uptoBulkAll ds ≤ 1048576)
def OpenSpec.upto (s : _root_.Go.ChangeSpec) : _root_.Go.OpenSpec := { _root_.Go.OpenSpec.ofChange s with cond := some uptoSmall }

/-- 'laws.FnExactInstance', WHERE WHAT IT READS IS OF BULK AT MOST 1048576: true; the input reads as it did. -/
def fnExactInstanceUptoRow : OpenClaim := { program := "ytljdcaoibnikjaa", sum := "ae4eb25b0b66fd82d65c69265199c94cf50f0ac2e8bfbff4e6df2d0ed6aa6ba0", func := "loop.example/s02665/laws.FnExactInstance", spec := "fnExactInstance", unfollowed := true, recurses := true, plainKeys := false, apart := false, narrowed := true }
def FnExactInstanceUptoSaid : Prop := fnExactInstanceUptoRow.holds Try.pinned (OpenSpec.upto fnExactInstanceSpec)

/-- 'laws.FnExactScheme', WHERE WHAT IT READS IS OF BULK AT MOST 1048576: true; the input reads as it did. -/
def fnExactSchemeUptoRow : OpenClaim := { program := "ytljdcaoibnikjaa", sum := "ae4eb25b0b66fd82d65c69265199c94cf50f0ac2e8bfbff4e6df2d0ed6aa6ba0", func := "loop.example/s02665/laws.FnExactScheme", spec := "fnExactScheme", unfollowed := true, recurses := true, plainKeys := false, apart := false, narrowed := true }
def FnExactSchemeUptoSaid : Prop := fnExactSchemeUptoRow.holds Try.pinned (OpenSpec.upto fnExactSchemeSpec)

end Rows
end Go.Proofs.Ytljdcaoibnikjaa
