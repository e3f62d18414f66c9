
import Derived.Test.YtocidoamfofefaaSchE
import Derived.Test.YtocidoamfofefaaSSchQ
import Derived.Test.YtocidoamfofefaaSpecSame
namespace Go.Proofs.Ytocidoamfofefaa
open Go.RowKit

set_option maxRecDepth 20000 in
set_option maxHeartbeats 2000000 in
theorem specSS_any (xs ys : List Nd) (n m : Nat) (HX : Hid (xs.length = n)) (HY : Hid (ys.length = m)) (hn : n ≤ 1048576) (hm : m ≤ 1048576) (ao bo : Option Addr) (ca cb : Nat) (w : World) (hx : Nodes w ao xs) (hy : Nodes w bo ys) :
    Calls Try.prog 18 #[.slice ao n ca, .slice bo m cb] w fun e w' => (∃ b : Bool, e = .returned (.bool b) ∧ (b = true ↔ SameS xs ys)) ∧ Below w.heap.size w w' := by
  have HXN : Hid (Nodes w ao xs) := hx
  have HYN : Hid (Nodes w bo ys) := hy
  have H1 := specScheme_any xs n HX hn ao ca w hx
  clear hx hy
  go_enter Try.func18, Try.ntmps18
  go_wp2_with fail
  refine H1.mono ?_
  rintro e w1 ⟨⟨b1, rfl, h1⟩, bb1⟩
  clear H1
  cases b1
  · have HN : Hid (¬ SameS xs ys) := fun h => by have h9 := h1.2 h.1; cases h9
    clear h1
    go_wp2
    go_ret
    exact ⟨⟨false, rfl, by simp only [Bool.false_eq_true, false_iff]; exact HN.out⟩, bb1⟩
  have HS1 : Hid (SchS xs) := h1.1 rfl
  have H2 := specScheme_any ys m HY hm bo cb w1 (HYN.out.below bb1)
  clear h1
  go_wp2_with fail
  refine H2.mono ?_
  rintro e w2 ⟨⟨b2, rfl, h2⟩, hb2⟩
  have bb2 := Below.step bb1 hb2
  clear H2 hb2 bb1
  cases b2
  · have HN : Hid (¬ SameS xs ys) := fun h => by have h9 := h2.2 h.2.1; cases h9
    clear h2
    go_wp2
    go_ret
    exact ⟨⟨false, rfl, by simp only [Bool.false_eq_true, false_iff]; exact HN.out⟩, bb2⟩
  have HS2 : Hid (SchS ys) := h2.1 rfl
  clear h2
  obtain ⟨A, hA⟩ : ∃ A, alls xs xs.length = A := ⟨_, rfl⟩
  obtain ⟨B, hB⟩ : ∃ B, alls ys ys.length = B := ⟨_, rfl⟩
  have HEX : Hid (AllsEnd xs A) := by show AllsEnd _ _; rw [← hA]; exact ((sch_iff xs).1 HS1.out).1.endA
  have HEY : Hid (AllsEnd ys B) := by show AllsEnd _ _; rw [← hB]; exact ((sch_iff ys).1 HS2.out).1.endA
  have hAn : A < n := by have := HEX.out.lt; have := HX.out; omega
  have hBn : B < m := by have := HEY.out.lt; have := HY.out; omega
  have h6 : n ≤ 60000 := by have := HS1.out.1; have := HX.out; omega
  have h7 : m ≤ 60000 := by have := HS2.out.1; have := HY.out; omega
  have HSS : Hid (SameS xs ys ↔ Alike Nd.sameb (xs.map (levN (bkL xs A))) (ys.map (levN (bkL ys B)))) := by
    show _ ↔ _
    unfold SameS
    rw [hA, hB]
    exact ⟨fun h => h.2.2, fun h => ⟨HS1.out, HS2.out, h⟩⟩
  have H3 := l12Level_any xs n HX h6 A HEX hAn ao ca w2 (HXN.out.below bb2)
  clear hA hB HS1 HS2
  go_wp2_with fail
  refine H3.mono ?_
  rintro e w3 ⟨g3, c3, rfl, hO3, hb3⟩
  have R3 := hO3.row.2
  have bb3 := Below.step bb2 hb3
  have H4 := l12Level_any ys m HY h7 B HEY hBn bo cb w3 (HYN.out.below bb3)
  clear H3 hO3 hb3 bb2
  go_wp2_with fail
  refine H4.mono ?_
  rintro e w4 ⟨g4, c4, rfl, hO4, hb4⟩
  have R4 := hO4.row.2
  have R3' := R3.below hb4
  have bb4 := Below.step bb3 hb4
  have H5 := specSame_any (xs.map (levN (bkL xs A))) (ys.map (levN (bkL ys B))) n m (by show _ = _; rw [List.length_map]; exact HX.out) (by show _ = _; rw [List.length_map]; exact HY.out) (some ⟨g3, 0, none⟩) (some ⟨g4, 0, none⟩) c3 c4 w4 R3'.nodes R4.nodes (by omega) (by omega)
  clear H4 hO4 hb4 bb3 R3 R3' R4
  go_wp2_with fail
  refine H5.mono ?_
  rintro e w5 ⟨⟨r, rfl, hr⟩, hb5⟩
  have HR : Hid (r = true ↔ SameS xs ys) := by show _ ↔ _; rw [HSS.out]; exact hr
  have bb5 := Below.step bb4 hb5
  clear H5 hr hb5 bb4 HSS
  cases r
  all_goals
    go_wp2
    go_ret
    exact ⟨⟨_, rfl, by simpa using HR.out⟩, bb5⟩

end Go.Proofs.Ytocidoamfofefaa
