/- What kedgeref13.Right, head answer. -/
import Derived.Test.YtodgnfjaidiibaaProbeM
namespace Go.Proofs.Ytodgnfjaidiibaa
open Go.RowKit
set_option maxRecDepth 20000

end Go.Proofs.Ytodgnfjaidiibaa
