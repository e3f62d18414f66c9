
import Derived.Test.YtlcpnphoidnlmaaProg
import Derived.Test.YtlcpnphoidnlmaaParts
import Derived.Deep.Light
namespace Go.Proofs.Ytlcpnphoidnlmaa
open Go.RowKit

end Go.Proofs.Ytlcpnphoidnlmaa
