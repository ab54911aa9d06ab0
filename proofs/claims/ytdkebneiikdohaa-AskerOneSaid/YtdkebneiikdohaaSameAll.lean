/- What kedgeref01.SameAll answers of two lists that read the same. -/
import Derived.Test.YtdkebneiikdohaaSame
import Derived.Test.YtdkebneiikdohaaFresh
import Derived.Deep.RegionHeld3
namespace Go.Proofs.Ytdkebneiikdohaa
open Go.RowKit
set_option maxRecDepth 20000

end Go.Proofs.Ytdkebneiikdohaa
