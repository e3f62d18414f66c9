
import Derived.Test.YtocidoamfofefaaIErase
import Derived.Test.YtocidoamfofefaaFormI
namespace Go.Proofs.Ytocidoamfofefaa
open Go.RowKit

set_option maxHeartbeats 2000000 in
set_option maxRecDepth 20000 in
theorem implErase_any (t : List Nd) (m : Nat) (HM : Hid (t.length = m)) (hm : m ≤ 1048576) (ao : Option Addr) (cap : Nat) (w : World) (hx : Nodes w ao t) :
    Calls Try.prog 15 #[.slice ao m cap] w fun e w' => ∃ (g c l : Nat) (bt : Bool), e = .returned (.tuple #[.slice (some ⟨g, 0, none⟩) l c, .bool bt]) ∧ (bt = true ↔ FormS t) ∧ OwnN w' w.heap.size g c l (if bt then outTo t m else []) ∧ Below w.heap.size w w' := by
  go_enter Try.func15, Try.ntmps15
  go_wp2_with fail
  refine (implForm_any t m HM hm ao cap w hx).mono ?_
  rintro e w1 ⟨⟨bt, rfl, hbt⟩, hb1⟩
  have HB : Hid (bt = true ↔ FormS t) := by show _ ↔ _; rw [hbt]; exact (form_eq t).symm
  clear hbt
  cases bt
  · have hO := OwnN.empty (w := w1) (B := w.heap.size) hb1.size
    have hbb := hb1.alloc hb1.size (.cells #[] 39)
    clear hx hb1
    go_wp2
    go_ret2
    exact ⟨_, _, _, false, rfl, HB.out, hO, hbb⟩
  · have HW := withoutTypes_any t m HM hm ao cap w1 (hx.below hb1)
    clear hx
    go_wp2_with fail
    refine HW.mono ?_
    rintro e w2 ⟨g, c, l, rfl, hO, hb2⟩
    have hO2 : OwnN w2 w.heap.size g c l (outTo t m) := by
      obtain ⟨h1, h2, h3⟩ := hO
      refine ⟨h1, h2, ?_⟩
      rcases h3 with h3 | ⟨g', c', cur, h4, h5, h6⟩
      · exact Or.inl h3
      · exact Or.inr ⟨g', c', cur, h4, Nat.le_trans hb1.size h5, h6⟩
    have hbb := Below.step hb1 hb2
    clear HW hO hb1 hb2
    go_wp2
    go_ret2
    exact ⟨g, c, l, true, rfl, by have h9 := HB.out; simpa using h9, hO2, hbb⟩

end Go.Proofs.Ytocidoamfofefaa
