
import Derived.Test.YthnhphaaecaefaaMark2
namespace Go.Proofs.Ythnhphaaecaefaa
open Go.RowKit

end Go.Proofs.Ythnhphaaecaefaa
