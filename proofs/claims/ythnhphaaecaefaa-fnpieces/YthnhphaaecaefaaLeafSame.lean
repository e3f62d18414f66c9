
import Derived.Test.YthnhphaaecaefaaProg
import Derived.Test.YthnhphaaecaefaaLeaf
import Derived.Deep.Light
namespace Go.Proofs.Ythnhphaaecaefaa
open Go.RowKit

set_option maxHeartbeats 400000 in
theorem sameNode_any (x y : Nd) (w : World) :
    Calls Try.prog 23 #[.agg #[.int .i64 x.kind, .int .i64 x.num, .string x.text, .int .i64 x.kids, .int .i64 x.place], .agg #[.int .i64 y.kind, .int .i64 y.num, .string y.text, .int .i64 y.kids, .int .i64 y.place]] w fun e w' =>
      e = .returned (.bool (x.sameb y)) ∧ Below w.heap.size w w' := by
  unfold Nd.sameb
  go_enter Try.func23, Try.ntmps23
  go_wp2
  all_goals
    go_ret
    refine ⟨ret_bool ?_, ((Below.refl _ _).alloc (Nat.le_refl _) _).alloc (by simp) _⟩
    go_light
    simp_all

/-- '!=' of two nodes whose places are struck, in one line. -/
theorem neqN (x y : Nd) (w : World) :
    (binOp .neq 32 (.agg #[.int .i64 x.kind, .int .i64 x.num, .string x.text, .int .i64 x.kids, .int .i64 0]) (.agg #[.int .i64 y.kind, .int .i64 y.num, .string y.text, .int .i64 y.kids, .int .i64 0])).run Try.prog w =
      .ok (.bool (!(x.sameb y))) w := by
  unfold Nd.sameb
  go_simp
  repeat' split
  all_goals simp_all

end Go.Proofs.Ythnhphaaecaefaa
