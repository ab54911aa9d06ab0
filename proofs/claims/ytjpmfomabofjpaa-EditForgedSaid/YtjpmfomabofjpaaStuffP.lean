/- What stuff.Size and stuff.Put answer. -/
import Derived.Test.YtjpmfomabofjpaaStuffM
import Derived.Test.YtjpmfomabofjpaaRoom
namespace Go.Proofs.Ytjpmfomabofjpaa
open Go.RowKit

end Go.Proofs.Ytjpmfomabofjpaa
