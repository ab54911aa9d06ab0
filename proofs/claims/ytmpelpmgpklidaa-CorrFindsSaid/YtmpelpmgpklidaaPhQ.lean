/- Package phase: of which kind a point is (a switch whose cases fall into one another). -/
import Derived.Test.YtmpelpmgpklidaaPhC
import Derived.WalkLawsBesides
namespace Go.Proofs.Ytmpelpmgpklidaa
open Go.RowKit

end Go.Proofs.Ytmpelpmgpklidaa
