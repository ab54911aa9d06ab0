/- What kedgeref07's Turn and Points answer. -/
import Derived.Test.YtmpelpmgpklidaaRph1
import Derived.Test.YtmpelpmgpklidaaPtV
namespace Go.Proofs.Ytmpelpmgpklidaa
open Go.RowKit

/-- parts that a turn may negate -/
def Tame (l : List Pt) : Prop := ∀ p ∈ l, -4611686018427387904 ≤ p.1 ∧ p.1 ≤ 4611686018427387904 ∧ -4611686018427387904 ≤ p.2 ∧ p.2 ≤ 4611686018427387904

end Go.Proofs.Ytmpelpmgpklidaa
