/- What kedgeref01.Same answers: whether two slices read as the same bytes. -/
import Derived.Test.YtmpelpmgpklidaaBase
namespace Go.Proofs.Ytmpelpmgpklidaa
open Go.RowKit

def sameB (l m : List UInt8) : Bool := decide (l = m)
theorem sameB_self (l : List UInt8) : sameB l l = true := by simp [sameB]
theorem sameB_eq {l m : List UInt8} (h : l = m) : sameB l m = true := by simp [sameB, h]
theorem sameB_iff (l m : List UInt8) : sameB l m = true ↔ l = m := by simp [sameB]

end Go.Proofs.Ytmpelpmgpklidaa
