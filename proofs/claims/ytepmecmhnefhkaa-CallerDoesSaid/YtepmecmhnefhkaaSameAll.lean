/- What kedgeref01.SameAll answers of two lists that read the same. -/
import Derived.Test.YtepmecmhnefhkaaSame
import Derived.Test.YtepmecmhnefhkaaFresh
import Derived.Deep.RegionHeld3
namespace Go.Proofs.Ytepmecmhnefhkaa
open Go.RowKit
set_option maxRecDepth 20000

end Go.Proofs.Ytepmecmhnefhkaa
