import Derived.Test.YtoiiibplkhedcaaGreatDoorGA
import Derived.Test.YtoiiibplkhedcaaGreatDoorGD
import Derived.StillTactics
namespace Go.Proofs.YtoiiibplkhedcaaGreatDoor
open Go.RowKit
theorem neqS (x : Nd) (w : World) :
    (binOp .neq 43 (.agg #[.int .i64 x.kind, .int .i64 x.num, .string x.text, .int .i64 x.kids, .int .i64 x.place]) (.agg #[.int .i64 x.kind, .int .i64 x.num, .string x.text, .int .i64 x.kids, .int .i64 x.place])).run Tryz.prog w =
      .ok (.bool false) w := by
  go_simp
  repeat' split
  all_goals simp_all
theorem Tryz.mixed : Tryz.prog.follows .mixedOrders = true := by kernel_rfl
set_option maxRecDepth 20000 in
set_option maxHeartbeats 1000000 in
theorem Qca (xs : List Nd) (n : Nat) (HX : Hid (xs.length = n)) (ao bo : Option Addr) (cap cbp : Nat) (w : World) (hx : Nodes w ao xs) (hy : Nodes w bo xs) (hlx : n ≤ 1048576) :
    Calls Tryz.prog 7 #[.slice ao n cap, .slice bo n cbp] w fun e w' => e = .returned (.bool true) ∧ Below w.heap.size w w' := by
  go_enter Tryz.func7, Tryz.ntmps7
  go_wp2
  go_loopw [5] (fun i wr => ∃ (k : Nat), k ≤ n ∧ i = .int .i64 k ∧ Below w.heap.size w wr) (fun i _ => n - (intOf i).toNat)
  case atStart => exact ⟨0, Nat.zero_le _, rfl, Below.refl _ _⟩
  case round =>
    obtain ⟨k, hk, rfl, hb⟩ := hrel
    by_cases hlt : k < n
    · have hltk : k < xs.length := by have := HX.out; omega
      obtain ⟨b, o, rfl, hn⟩ := hx.below hb k hltk
      obtain ⟨b', o', rfl, hn'⟩ := hy.below hb k hltk
      obtain ⟨x, hxk⟩ : ∃ x, xs[k] = x := ⟨_, rfl⟩
      rw [hxk] at hn hn'
      obtain ⟨c0, c1, c2, c3, c4⟩ := hn
      obtain ⟨d0, d1, d2, d3, d4⟩ := hn'
      clear hx hy hxk
      have hne := neqS x
      go_wp2
      go_still Tryz.mixed
      have hb2 : Below w.heap.size w wr.drew := hb.drew
      go_wp2
      go_roundw
      case rel => exact ⟨k + 1, by omega, by go_num, hb2⟩
      case measure => (simp [intOf]) <;> omega
    · clear hx hy
      go_wp2
      go_ret
      exact ⟨rfl, hb⟩
end Go.Proofs.YtoiiibplkhedcaaGreatDoor
