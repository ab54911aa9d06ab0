/- What bytes.Equal and octet.Same answer. -/
import Derived.Test.YtabackggnkplhaaDoorSame
import Derived.Test.YtabackggnkplhaaDoorWords
namespace Go.Proofs.YtabackggnkplhaaDoor
open Go.RowKit
set_option maxRecDepth 20000

set_option maxHeartbeats 1000000 in
theorem equal_any (A A' : Option Addr) (n c n' c' : Nat) (l m : List UInt8) (w : World) (h : Bys w A n c l) (h' : Bys w A' n' c' m) :
    Calls Tryd.prog 27 #[.slice A n c, .slice A' n' c'] w fun e w' => e = .returned (.bool (sameB l m)) ∧ w' = w := by
  have k1 := conv_bys h
  have k2 := conv_bys h'
  clear h h'
  go_enter Tryd.func27, Tryd.ntmps27
  go_wp2
  go_ret
  refine ⟨ret_bool ?_, rfl⟩
  rw [Bool.eq_iff_iff, sameB_iff]
  simp

set_option maxHeartbeats 1000000 in
theorem osame_any (A A' : Option Addr) (n c n' c' : Nat) (l m : List UInt8) (w : World) (h : Bys w A n c l) (h' : Bys w A' n' c' m) :
    Calls Tryd.prog 23 #[.slice A n c, .slice A' n' c'] w fun e w' => e = .returned (.bool (sameB l m)) ∧ w' = w := by
  have H := Lib.hid (equal_any A A' n c n' c' l m w h h')
  clear h h'
  go_enter Tryd.func23, Tryd.ntmps23
  go_wp2_with (fail)
  refine H.out.mono ?_
  rintro e w' ⟨rfl, rfl⟩
  go_wp2
  go_ret
  exact ⟨rfl, rfl⟩
end Go.Proofs.YtabackggnkplhaaDoor
