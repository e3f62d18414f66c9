
import Derived.Test.YtbiohehlgleonaaMark2
namespace Go.Proofs.Ytbiohehlgleonaa
open Go.RowKit

end Go.Proofs.Ytbiohehlgleonaa
