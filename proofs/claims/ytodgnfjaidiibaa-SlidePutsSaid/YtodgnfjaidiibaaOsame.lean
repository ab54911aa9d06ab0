/- What bytes.Equal and octet.Same answer. -/
import Derived.Test.YtodgnfjaidiibaaSame
import Derived.Test.YtodgnfjaidiibaaWords
namespace Go.Proofs.Ytodgnfjaidiibaa
open Go.RowKit
set_option maxRecDepth 20000

set_option maxHeartbeats 1000000 in
theorem equal_any (A A' : Option Addr) (n c n' c' : Nat) (l m : List UInt8) (w : World) (h : Bys w A n c l) (h' : Bys w A' n' c' m) :
    Calls Try.prog 24 #[.slice A n c, .slice A' n' c'] w fun e w' => e = .returned (.bool (sameB l m)) ∧ w' = w := by
  have k1 := conv_bys h
  have k2 := conv_bys h'
  clear h h'
  go_enter Try.func24, Try.ntmps24
  go_wp2
  go_ret
  refine ⟨ret_bool ?_, rfl⟩
  rw [Bool.eq_iff_iff, sameB_iff]
  simp

end Go.Proofs.Ytodgnfjaidiibaa
