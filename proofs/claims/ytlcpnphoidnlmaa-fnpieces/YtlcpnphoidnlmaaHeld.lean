
import Derived.Test.YtlcpnphoidnlmaaMark2
namespace Go.Proofs.Ytlcpnphoidnlmaa
open Go.RowKit

end Go.Proofs.Ytlcpnphoidnlmaa
