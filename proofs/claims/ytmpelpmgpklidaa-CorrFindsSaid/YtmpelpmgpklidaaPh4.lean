/- Package phase: Points. -/
import Derived.Test.YtmpelpmgpklidaaPh3
namespace Go.Proofs.Ytmpelpmgpklidaa
open Go.RowKit

theorem rot_shift (x : UInt8) (t : Nat) (p : Pt) (m : Nat) (hm : m = x.toNat / 4 ^ (3 - t)) : rotK (m : Int) p = rotN (twoB x t) p := by
  unfold rotK
  rw [rest4_nat, hm]
  rfl
end Go.Proofs.Ytmpelpmgpklidaa
