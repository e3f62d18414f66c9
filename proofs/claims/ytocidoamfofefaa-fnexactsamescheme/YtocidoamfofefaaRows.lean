/-
  No cell of these rows narrows 'for every input' (looked for: loops, veiled, ifaces, maps, wideKeys, modest, calm, conditions, laid).
  DERIVED. THE GIVEN ROWS OF THIS SEAT. 4 by the template 'for every input the law returns true; each argument reads behind the call as it read before'; 0 by the template 'total and deterministic' (their statements: YtocidoamfofefaaTotals.lean).
  GIVEN WITH THE SEED: the statements are not yours to turn. If you find one false, say at which input.
  Laid BY PROGRAM, IN A SANDBOX (cutbox-rows.mjs): the forced cells as the released guide's own fill.sh prints them over the translation 036ea047ece0e4cb… (all of the seat's roots in one cut). By AI agents, Wed Nov 11 2026. No macro, syntax, notation, axiom, sorry.
-/
import Derived.Test.YtocidoamfofefaaChecked
import GoSem.Claim
import GoSem.ClaimJoined
import GoSem.ClaimMapViews
import Derived.JoinedTies
import Derived.KernelRfl
namespace Go.Proofs.Ytocidoamfofefaa
/- THE CELL 'sum', in the pinned program and in every row, IS THE sha256 OF THE DUMP (.gsa) THAT YtocidoamfofefaaProg.lean LOADS. Nothing in Lean hashes anything: it is a label: what it is worth is what the hold of that sum in a sandbox is worth. -/
noncomputable def Try.pinned : Pinned := { name := "ytocidoamfofefaa", sum := "036ea047ece0e4cbaf9613dba079a6d59d891b69946e7feb474b8e450f484ee1", checked := Try.checked }
namespace Rows
def none {H : Type} : Left H := { results := [], args := [] }

/-- 'laws.FnExactForm': WHATEVER THE INPUT: true; the input reads as it did. -/
def fnExactFormSpec : ChangeSpec := { name := "fnExactForm", fn := fun _ => fun
  | [d] => { results := [.lit (.bool true)], args := [d] }
  | _ => none }
def fnExactFormRow : OpenClaim := { program := "ytocidoamfofefaa", sum := "036ea047ece0e4cbaf9613dba079a6d59d891b69946e7feb474b8e450f484ee1", func := "loop.example/s02665/laws.FnExactForm", spec := "fnExactForm", unfollowed := true, recurses := true, apart := false }
def FnExactFormSaid : Prop := fnExactFormRow.holds Try.pinned (OpenSpec.ofChange fnExactFormSpec)

/-- ITS FALSE NEIGHBOUR: 'it returns false'. Refute it at one input. -/
def fnExactFormWrong : ChangeSpec := { name := "fnExactForm", fn := fun _ => fun
  | [d] => { results := [.lit (.bool false)], args := [d] }
  | _ => none }
def FnExactFormWrongFalsely : Prop := fnExactFormRow.holds Try.pinned (OpenSpec.ofChange fnExactFormWrong)

/-- 'laws.FnExactPlainForm': WHATEVER THE INPUT: true; the input reads as it did. -/
def fnExactPlainFormSpec : ChangeSpec := { name := "fnExactPlainForm", fn := fun _ => fun
  | [d] => { results := [.lit (.bool true)], args := [d] }
  | _ => none }
def fnExactPlainFormRow : OpenClaim := { program := "ytocidoamfofefaa", sum := "036ea047ece0e4cbaf9613dba079a6d59d891b69946e7feb474b8e450f484ee1", func := "loop.example/s02665/laws.FnExactPlainForm", spec := "fnExactPlainForm", unfollowed := true, recurses := true, apart := false }
def FnExactPlainFormSaid : Prop := fnExactPlainFormRow.holds Try.pinned (OpenSpec.ofChange fnExactPlainFormSpec)

/-- ITS FALSE NEIGHBOUR: 'it returns false'. Refute it at one input. -/
def fnExactPlainFormWrong : ChangeSpec := { name := "fnExactPlainForm", fn := fun _ => fun
  | [d] => { results := [.lit (.bool false)], args := [d] }
  | _ => none }
def FnExactPlainFormWrongFalsely : Prop := fnExactPlainFormRow.holds Try.pinned (OpenSpec.ofChange fnExactPlainFormWrong)

/-- 'laws.FnExactErase': WHATEVER THE INPUT: true; the input reads as it did. -/
def fnExactEraseSpec : ChangeSpec := { name := "fnExactErase", fn := fun _ => fun
  | [d] => { results := [.lit (.bool true)], args := [d] }
  | _ => none }
def fnExactEraseRow : OpenClaim := { program := "ytocidoamfofefaa", sum := "036ea047ece0e4cbaf9613dba079a6d59d891b69946e7feb474b8e450f484ee1", func := "loop.example/s02665/laws.FnExactErase", spec := "fnExactErase", unfollowed := true, recurses := true, apart := false }
def FnExactEraseSaid : Prop := fnExactEraseRow.holds Try.pinned (OpenSpec.ofChange fnExactEraseSpec)

/-- ITS FALSE NEIGHBOUR: 'it returns false'. Refute it at one input. -/
def fnExactEraseWrong : ChangeSpec := { name := "fnExactErase", fn := fun _ => fun
  | [d] => { results := [.lit (.bool false)], args := [d] }
  | _ => none }
def FnExactEraseWrongFalsely : Prop := fnExactEraseRow.holds Try.pinned (OpenSpec.ofChange fnExactEraseWrong)

/-- 'laws.FnExactSameScheme': WHATEVER THE INPUT: true; the input reads as it did. -/
def fnExactSameSchemeSpec : ChangeSpec := { name := "fnExactSameScheme", fn := fun _ => fun
  | [d1, d2] => { results := [.lit (.bool true)], args := [d1, d2] }
  | _ => none }
def fnExactSameSchemeRow : OpenClaim := { program := "ytocidoamfofefaa", sum := "036ea047ece0e4cbaf9613dba079a6d59d891b69946e7feb474b8e450f484ee1", func := "loop.example/s02665/laws.FnExactSameScheme", spec := "fnExactSameScheme", unfollowed := true, recurses := true, apart := false }
def FnExactSameSchemeSaid : Prop := fnExactSameSchemeRow.holds Try.pinned (OpenSpec.ofChange fnExactSameSchemeSpec)

/-- ITS FALSE NEIGHBOUR: 'it returns false'. Refute it at one input. -/
def fnExactSameSchemeWrong : ChangeSpec := { name := "fnExactSameScheme", fn := fun _ => fun
  | [d1, d2] => { results := [.lit (.bool false)], args := [d1, d2] }
  | _ => none }
def FnExactSameSchemeWrongFalsely : Prop := fnExactSameSchemeRow.holds Try.pinned (OpenSpec.ofChange fnExactSameSchemeWrong)

/- THE SECOND FORM. 'bulk': how many values and letters a reading holds, each counted each time it is reached (what is shared counts as often as it is met; a slice's spare places count too). A statement '..UptoSaid' is the law's where the arguments, and the package variables that the reading takes, are together of bulk at most 1048576: NARROWER than '..Said'. Prove '..Said' where nothing that the law and all that it calls make is longer than what came in: it says more and counts as full. Else prove '..UptoSaid'. A law counts once. -/
mutual
def uptoBulk {H : Type} : DataW H → Nat
  | .lit (.string bytes) => bytes.length + 1
  | .lit _ => 1
  | .nil => 1
  | .ptr d => uptoBulk d + 1
  | .slice elems spare => uptoBulkAll elems + uptoBulkAll spare + 1
  | .agg parts => uptoBulkAll parts + 1
  | .iface _ d => uptoBulk d + 1
  | .map entries => uptoBulkEntries entries + 1
  | .held _ => 1
def uptoBulkAll {H : Type} : List (DataW H) → Nat
  | [] => 0
  | d :: r => uptoBulk d + uptoBulkAll r
def uptoBulkEntries {H : Type} : List (Lit × DataW H) → Nat
  | [] => 0
  | x :: r => uptoBulkEntry x + uptoBulkEntries r
def uptoBulkEntry {H : Type} : Lit × DataW H → Nat
  | (.string bytes, d) => bytes.length + uptoBulk d + 1
  | (_, d) => uptoBulk d + 1
 end
def uptoSmall : (H : Type) → List (DataW H) → Bool := fun _ ds => decide (uptoBulkAll ds ≤ 1048576)
def OpenSpec.upto (s : _root_.Go.ChangeSpec) : _root_.Go.OpenSpec := { _root_.Go.OpenSpec.ofChange s with cond := some uptoSmall }

/-- 'laws.FnExactForm', WHERE WHAT IT READS IS OF BULK AT MOST 1048576: true; the input reads as it did. -/
def fnExactFormUptoRow : OpenClaim := { program := "ytocidoamfofefaa", sum := "036ea047ece0e4cbaf9613dba079a6d59d891b69946e7feb474b8e450f484ee1", func := "loop.example/s02665/laws.FnExactForm", spec := "fnExactForm", unfollowed := true, recurses := true, apart := false, narrowed := true }
def FnExactFormUptoSaid : Prop := fnExactFormUptoRow.holds Try.pinned (OpenSpec.upto fnExactFormSpec)

/-- 'laws.FnExactPlainForm', WHERE WHAT IT READS IS OF BULK AT MOST 1048576: true; the input reads as it did. -/
def fnExactPlainFormUptoRow : OpenClaim := { program := "ytocidoamfofefaa", sum := "036ea047ece0e4cbaf9613dba079a6d59d891b69946e7feb474b8e450f484ee1", func := "loop.example/s02665/laws.FnExactPlainForm", spec := "fnExactPlainForm", unfollowed := true, recurses := true, apart := false, narrowed := true }
def FnExactPlainFormUptoSaid : Prop := fnExactPlainFormUptoRow.holds Try.pinned (OpenSpec.upto fnExactPlainFormSpec)

/-- 'laws.FnExactErase', WHERE WHAT IT READS IS OF BULK AT MOST 1048576: true; the input reads as it did. -/
def fnExactEraseUptoRow : OpenClaim := { program := "ytocidoamfofefaa", sum := "036ea047ece0e4cbaf9613dba079a6d59d891b69946e7feb474b8e450f484ee1", func := "loop.example/s02665/laws.FnExactErase", spec := "fnExactErase", unfollowed := true, recurses := true, apart := false, narrowed := true }
def FnExactEraseUptoSaid : Prop := fnExactEraseUptoRow.holds Try.pinned (OpenSpec.upto fnExactEraseSpec)

/-- 'laws.FnExactSameScheme', WHERE WHAT IT READS IS OF BULK AT MOST 1048576: true; the input reads as it did. -/
def fnExactSameSchemeUptoRow : OpenClaim := { program := "ytocidoamfofefaa", sum := "036ea047ece0e4cbaf9613dba079a6d59d891b69946e7feb474b8e450f484ee1", func := "loop.example/s02665/laws.FnExactSameScheme", spec := "fnExactSameScheme", unfollowed := true, recurses := true, apart := false, narrowed := true }
def FnExactSameSchemeUptoSaid : Prop := fnExactSameSchemeUptoRow.holds Try.pinned (OpenSpec.upto fnExactSameSchemeSpec)

end Rows
end Go.Proofs.Ytocidoamfofefaa
