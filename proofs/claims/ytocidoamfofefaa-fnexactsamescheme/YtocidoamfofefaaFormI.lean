
import Derived.Test.YtocidoamfofefaaTab
namespace Go.Proofs.Ytocidoamfofefaa
open Go.RowKit

set_option maxRecDepth 100000 in
set_option maxHeartbeats 1000000 in
theorem implForm_any (t : List Nd) (m : Nat) (HM : Hid (t.length = m)) (hm : m ≤ 1048576) (ao : Option Addr) (cap : Nat) (w : World) (hx : Nodes w ao t) :
    Calls Try.prog 10 #[.slice ao m cap] w fun e w' => (∃ b : Bool, e = .returned (.bool b) ∧ (b = true ↔ InForm codeOwn codeKids pCode t)) ∧ Below w.heap.size w w' := by
  go_enter Try.func10, Try.ntmps10
  go_wp2_with fail
  refine (codeDemands_any w).mono ?_
  rintro e w1 ⟨⟨tab, hts, rfl, htab⟩, hb1⟩
  have HF := isInForm_any codeOwn codeKids pCode tab (.func (.func 30) #[] #[]) t m HM hm ao cap w1 (hx.below hb1) htab (isCodeV w1)
  clear htab hx
  go_wp2_with fail
  refine HF.mono ?_
  rintro e w2 ⟨⟨b, rfl, hb⟩, hb2⟩
  have HB : Hid (b = true ↔ InForm codeOwn codeKids pCode t) := hb
  have hbb := Below.step hb1 hb2
  clear HF hb hb1 hb2
  go_wp2
  go_ret
  exact ⟨⟨b, rfl, HB.out⟩, hbb⟩

end Go.Proofs.Ytocidoamfofefaa
