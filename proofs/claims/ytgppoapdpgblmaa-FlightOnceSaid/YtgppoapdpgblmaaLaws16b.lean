/- The walk of layer 16's FlightOnce, over the contracts of flight. -/
import Derived.Test.YtgppoapdpgblmaaLaws16p
import Derived.Test.YtgppoapdpgblmaaLaws16z
import Derived.Deep.RegionHeld3
import Derived.IntWalk
import Derived.Deep.QuietTactic
import Derived.BigQuiet
namespace Go.Proofs.Ytgppoapdpgblmaa
open Go.RowKit
set_option maxRecDepth 20000

set_option maxHeartbeats 4000000 in
theorem walk_FlightOnce {F : Nat → Fs → World → (Nat → Prop) → Prop} (C : FliC F) (life : Int) (A : Option Addr) (n c : Nat) (l : List Act16) (w : World) (hlife : I64 life) (hR : Recs rdAct16 5 w A n c l) :
    Calls Try.prog 4 #[.int .i64 life, .slice A n c] w fun e w' => e = .returned (.bool true) ∧ Below w.heap.size w w' := by
  by_cases hgo : (0 ≤ life ∧ life ≤ 4096) ∧ few16 l = true
  · obtain ⟨⟨h0, h1⟩, hfw⟩ := hgo
    obtain ⟨lf, rfl⟩ := Int.eq_ofNat_of_zero_le h0
    by_cases hl0 : 0 < lf
    · exact once_pos C lf A n c l w (by omega) hR hfw hl0
    · exact once_zero C lf A n c l w (by omega) hR hfw hl0
  have HL := Lib.hid (fun W => live16_any C W)
  have HN := Lib.hid num16_any
  have HU := Lib.hid (fun W (U : Below w.heap.size w W) => few16_any A n c l W (hR.below keeps16 U))
  have hlen := hR.1
  have hnc := hR.2.1
  have hcm := hR.2.2.1
  unfold maxLen at hcm
  have HC := Lib.hid hR.2.2.2
  have HLN := Lib.hid hlen
  have HFW := Lib.hid (fun h => few16_of (l := l) h)
  have hmm := @run_makeMap Try.prog
  clear hR hlen
  by_cases hrr : life < 0 ∨ 4096 < life
  · have G1 := Lib.hid (C.new_no life w hlife hrr)
    clear hrr hgo
    generalize few16 l = fw at *
    go_enter Try.func4, Try.ntmps4
    go_wp2_with (fail)
    refine G1.out.mono ?_
    rintro e w1 ⟨rfl, T1⟩
    go_wp2_with (fail)
    refine (HU.out _ T1).mono ?_
    rintro e w2 ⟨rfl, T2⟩
    have T2 := nxt T1 T2
    cases fw with
    | false =>
      go_wp2_with (fail)
      refine (HL.out _).mono ?_
      rintro e w3 ⟨rfl, T3⟩
      have T3 := nxt T2 T3
      go_wp2
      go_ret
      exact ⟨rfl, T3⟩
    | true =>
      go_wp2_with (fail)
      refine (HN.out _ _).mono ?_
      rintro e w3 ⟨rfl, rfl⟩
      go_wp2_with (fail)
      refine (HL.out _).mono ?_
      rintro e w3 ⟨rfl, T3⟩
      have T3 := nxt T2 T3
      go_wp2
      go_ret
      exact ⟨rfl, T3⟩
  · obtain ⟨lf, rfl⟩ := Int.eq_ofNat_of_zero_le (show 0 ≤ life by omega)
    have hlf : lf ≤ 4096 := by omega
    have G1 := Lib.hid (C.new_yes lf w hlf)
    have hfw : few16 l = false := by
      cases h : few16 l with
      | false => rfl
      | true => exact absurd ⟨⟨by omega, by omega⟩, h⟩ hgo
    rw [hfw] at HU
    clear hrr hgo HFW hfw
    go_enter Try.func4, Try.ntmps4
    go_wp2_with (fail)
    refine G1.out.mono ?_
    rintro e w1 ⟨ga, X0, rfl, -, -, T1⟩
    go_wp2_with (fail)
    refine (HU.out _ T1).mono ?_
    rintro e w2 ⟨rfl, T2⟩
    have T2 := nxt T1 T2
    go_wp2_with (fail)
    refine (HL.out _).mono ?_
    rintro e w3 ⟨rfl, T3⟩
    have T3 := nxt T2 T3
    go_wp2
    go_ret
    exact ⟨rfl, T3⟩
end Go.Proofs.Ytgppoapdpgblmaa
