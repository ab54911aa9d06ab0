/- What kedgeref13.Right, head answer. -/
import Derived.Test.YtepmecmhnefhkaaProbeM
namespace Go.Proofs.Ytepmecmhnefhkaa
open Go.RowKit
set_option maxRecDepth 20000

end Go.Proofs.Ytepmecmhnefhkaa
