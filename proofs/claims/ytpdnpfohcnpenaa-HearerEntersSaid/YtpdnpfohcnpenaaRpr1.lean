/- What kedgeref13.Right, head answer. -/
import Derived.Test.YtpdnpfohcnpenaaProbeM
namespace Go.Proofs.Ytpdnpfohcnpenaa
open Go.RowKit
set_option maxRecDepth 20000

end Go.Proofs.Ytpdnpfohcnpenaa
