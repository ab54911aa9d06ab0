/- What kedgeref01.Number answers. -/
import Derived.Test.YtabackggnkplhaaDoorNum
namespace Go.Proofs.YtabackggnkplhaaDoor
open Go.RowKit
set_option maxRecDepth 20000

set_option maxHeartbeats 1000000 in
theorem rnumber_any (A : Option Addr) (n c : Nat) (l : List UInt8) (w : World) (h : Bys w A n c l) :
    Calls Tryd.prog 21 #[.slice A n c] w fun e w' => e = .returned (.int .u64 (numB l : Int)) ∧ w' = w := by
  obtain ⟨hl, hnc, hcm, hcell⟩ := h
  unfold maxLen at hcm
  subst hl
  have HC := Lib.hid hcell; clear hcell
  by_cases h8 : l.length ≤ 8
  · go_enter Tryd.func21, Tryd.ntmps21
    go_wp2
    go_loop [3, 4] (fun t i => ∃ k : Nat, k ≤ l.length ∧ i = .int .i64 k ∧ t = .int .u64 (numOf (l.take k) : Int)) (fun _ i => l.length - (intOf i).toNat)
    case atStart => exact ⟨0, Nat.zero_le _, rfl, rfl⟩
    case round =>
      obtain ⟨k, hk, rfl, rfl⟩ := hrel
      by_cases hlt : k < l.length
      · obtain ⟨b, o, rfl, hb, hc⟩ := HC.out (by omega)
        have c1 := hc k hlt
        clear hc
        have hs := numOf_small l k hlt h8
        have HT := Lib.hid (numOf_take l k hlt)
        have hb2 := lt256 l[k]
        generalize numOf (l.take k) = N at *
        go_wp2
        go_round
        case rel => exact ⟨k + 1, by omega, by go_num, by rw [HT.out]; go_num⟩
        case measure => simp [intOf]; omega
      · go_wp2
        go_ret
        refine ⟨ret_int ?_, rfl⟩
        rw [List.take_of_length_le (by omega), numB, if_pos h8]
  · go_enter Tryd.func21, Tryd.ntmps21
    go_wp2
    go_ret
    refine ⟨ret_int ?_, rfl⟩
    rw [numB, if_neg h8]; rfl

end Go.Proofs.YtabackggnkplhaaDoor
