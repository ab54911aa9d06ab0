/- What kedgeref13's Put, Get, Same answer. -/
import Derived.Test.YtpdnpfohcnpenaaRpr1
import Derived.Test.YtpdnpfohcnpenaaRcopy
import Derived.Test.YtpdnpfohcnpenaaSame
import Derived.Test.YtpdnpfohcnpenaaResC
import Derived.Deep.RegionHeld3
namespace Go.Proofs.Ytpdnpfohcnpenaa
open Go.RowKit
set_option maxRecDepth 20000

/-- A call's end that makes a []byte and a number of the kind int. -/
def GivesI (w : World) (r : Int) (l : List UInt8) (e : Ending) (w' : World) : Prop :=
  ∃ A n c, e = .returned (.tuple #[.slice A n c, .int .i64 r]) ∧ Bys w' A n c l ∧ Below w.heap.size w w'
/-- a literal of one byte is the call's own row -/
theorem own_lit1 (w : World) (x : UInt8) : (w.alloc (.cells #[.int .u8 (x.toNat : Int)] 5)).ownsRow w.heap.size 5 1 (.slice (some ⟨w.heap.size, 0, none⟩) 1 1) 1 (bvs [x]) := by
  have := World.ownsRow_lit (base := w.heap.size) (e := 5) (size := 1) w (bvs [x]).toArray 1 (Nat.le_refl _) (by unfold maxLen; omega) (by simp [bvs])
  simpa [bvs, bv] using this
/-- A call's end that makes a packet and a number of the kind int. -/
def GivesPr (w : World) (k l : Int) (d : List UInt8) (r : Int) (e : Ending) (w' : World) : Prop :=
  ∃ A n c, e = .returned (.tuple #[.agg #[.int .i64 k, .int .i64 l, .slice A n c], .int .i64 r]) ∧ Bys w' A n c d ∧ Below w.heap.size w w'
end Go.Proofs.Ytpdnpfohcnpenaa
