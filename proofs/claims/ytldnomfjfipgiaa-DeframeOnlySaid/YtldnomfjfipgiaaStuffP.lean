/- What stuff.Size and stuff.Put answer. -/
import Derived.Test.YtldnomfjfipgiaaStuffM
import Derived.Test.YtldnomfjfipgiaaRoom
namespace Go.Proofs.Ytldnomfjfipgiaa
open Go.RowKit

end Go.Proofs.Ytldnomfjfipgiaa
