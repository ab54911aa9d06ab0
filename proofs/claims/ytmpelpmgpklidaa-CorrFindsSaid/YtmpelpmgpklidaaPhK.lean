/- Package phase: Slice, and all of its contracts. -/
import Derived.Test.YtmpelpmgpklidaaPh5
import Derived.Test.YtmpelpmgpklidaaLaws07
namespace Go.Proofs.Ytmpelpmgpklidaa
open Go.RowKit

set_option maxHeartbeats 1000000 in
theorem slice_any (a b : Nat) (p : Pt) (w : World) (ha : Fl a p.1) (hb : Fl b p.2) :
    Calls Try.prog 25 #[.complex .f64 a b] w (GivesZ w (sliceP p)) := by
  have H1 := Lib.hid (fun W => side_any a p.1 W ha)
  have H2 := Lib.hid (fun W => side_any b p.2 W hb)
  have HS : Hid (sliceP p = (if 0 ≤ p.1 then 1 else -1, if 0 ≤ p.2 then 1 else -1)) := rfl
  clear ha hb
  generalize (if 0 ≤ p.1 then (1 : Int) else -1) = s at *
  generalize (if 0 ≤ p.2 then (1 : Int) else -1) = t at *
  generalize sliceP p = r at *
  go_enter Try.func25, Try.ntmps25
  go_wp2_with (fail)
  refine (H1.out _).mono ?_
  rintro e w1 ⟨c, rfl, f1, rfl⟩
  have F1 := Lib.hid f1
  clear f1
  go_wp2_with (fail)
  refine (H2.out _).mono ?_
  rintro e w1 ⟨d, rfl, f2, rfl⟩
  have F2 := Lib.hid f2
  clear f2
  go_wp2
  go_ret
  exact ⟨_, _, rfl, by rw [HS.out]; exact F1.out, by rw [HS.out]; exact F2.out, Below.refl _ _⟩
theorem phC : PhC where
  of_ := of_any
  parts := parts_any
  slice := slice_any
  turn := fun A n c l k w h1 h2 _ _ => turn_any A n c l k w h1 h2
end Go.Proofs.Ytmpelpmgpklidaa
