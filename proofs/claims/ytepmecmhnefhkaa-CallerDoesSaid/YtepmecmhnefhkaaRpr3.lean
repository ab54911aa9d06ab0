/- What kedgeref13.Get answers of bytes with Data; Same. -/
import Derived.Test.YtepmecmhnefhkaaRpr2
namespace Go.Proofs.Ytepmecmhnefhkaa
open Go.RowKit
set_option maxRecDepth 20000

end Go.Proofs.Ytepmecmhnefhkaa
