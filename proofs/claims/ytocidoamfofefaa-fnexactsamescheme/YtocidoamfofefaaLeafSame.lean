
import Derived.Test.YtocidoamfofefaaProg
import Derived.Test.YtocidoamfofefaaYAA
import Derived.Deep.Light
namespace Go.Proofs.Ytocidoamfofefaa
open Go.RowKit

set_option maxHeartbeats 400000 in
theorem bare_any (x : Nd) (w : World) :
    Calls Try.prog 68 #[.agg #[.int .i64 x.kind, .int .i64 x.num, .string x.text, .int .i64 x.kids, .int .i64 x.place]] w fun e w' =>
      e = .returned (.agg #[.int .i64 x.kind, .int .i64 x.num, .string x.text, .int .i64 x.kids, .int .i64 0]) ∧ Below w.heap.size w w' := by
  go_enter Try.func68, Try.ntmps68
  go_wp2
  refine bodyPost_ret (v := .agg #[.int .i64 x.kind, .int .i64 x.num, .string x.text, .int .i64 x.kids, .int .i64 0]) (by simp [results, Try.results68, go_sem]) rfl ⟨rfl, ?_⟩
  exact ((Below.refl _ _).alloc (Nat.le_refl _) _).alloc (by simp) _

/-- '!=' of two nodes whose places are struck, in one line. -/
theorem neqN (x y : Nd) (w : World) :
    (binOp .neq 39 (.agg #[.int .i64 x.kind, .int .i64 x.num, .string x.text, .int .i64 x.kids, .int .i64 0]) (.agg #[.int .i64 y.kind, .int .i64 y.num, .string y.text, .int .i64 y.kids, .int .i64 0])).run Try.prog w =
      .ok (.bool (!(x.sameb y))) w := by
  unfold Nd.sameb
  go_simp
  repeat' split
  all_goals simp_all

end Go.Proofs.Ytocidoamfofefaa
