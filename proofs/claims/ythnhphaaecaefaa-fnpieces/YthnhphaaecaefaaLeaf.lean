
import Derived.Test.YthnhphaaecaefaaProg
import Derived.Test.YthnhphaaecaefaaParts
import Derived.Deep.Light
namespace Go.Proofs.Ythnhphaaecaefaa
open Go.RowKit

end Go.Proofs.Ythnhphaaecaefaa
