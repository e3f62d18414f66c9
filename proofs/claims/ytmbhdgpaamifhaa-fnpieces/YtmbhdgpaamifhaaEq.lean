
import Derived.Test.YtmbhdgpaamifhaaLeaf
import Derived.Test.YtmbhdgpaamifhaaOwn
import Derived.Deep.RegionWith
namespace Go.Proofs.Ytmbhdgpaamifhaa
open Go.RowKit

/-- Alike, node by node. -/
def Alike (f : Nd → Nd → Bool) (xs ys : List Nd) : Prop := xs.length = ys.length ∧ ∀ i (h : i < xs.length) (h' : i < ys.length), f xs[i] ys[i] = true

end Go.Proofs.Ytmbhdgpaamifhaa
