
import Derived.Test.YtmbhdgpaamifhaaProg
import Derived.Test.YtmbhdgpaamifhaaParts
import Derived.Deep.Light
namespace Go.Proofs.Ytmbhdgpaamifhaa
open Go.RowKit

end Go.Proofs.Ytmbhdgpaamifhaa
