/- What kedgeref13.Get answers of bytes with Data; Same. -/
import Derived.Test.YtpdnpfohcnpenaaRpr2
namespace Go.Proofs.Ytpdnpfohcnpenaa
open Go.RowKit
set_option maxRecDepth 20000

end Go.Proofs.Ytpdnpfohcnpenaa
