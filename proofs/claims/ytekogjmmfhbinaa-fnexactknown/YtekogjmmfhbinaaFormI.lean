
import Derived.Test.YtekogjmmfhbinaaTab
namespace Go.Proofs.Ytekogjmmfhbinaa
open Go.RowKit

end Go.Proofs.Ytekogjmmfhbinaa
