
import Derived.Test.YtmbhdgpaamifhaaMark2
namespace Go.Proofs.Ytmbhdgpaamifhaa
open Go.RowKit

end Go.Proofs.Ytmbhdgpaamifhaa
