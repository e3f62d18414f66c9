
import Derived.Test.YthnhphaaecaefaaLeaf
import Derived.Test.YthnhphaaecaefaaOwn
import Derived.Deep.RegionWith
namespace Go.Proofs.Ythnhphaaecaefaa
open Go.RowKit

/-- Alike, node by node. -/
def Alike (f : Nd → Nd → Bool) (xs ys : List Nd) : Prop := xs.length = ys.length ∧ ∀ i (h : i < xs.length) (h' : i < ys.length), f xs[i] ys[i] = true

end Go.Proofs.Ythnhphaaecaefaa
