/- Package phase: one point turned, in a loop of k & 3 rounds. -/
import Derived.Test.YtmpelpmgpklidaaPh1
import Derived.Laws.BitsLemmas
namespace Go.Proofs.Ytmpelpmgpklidaa
open Go.RowKit

theorem i64_and3 (n : Int) : bits .and .i64 n 3 = n % 4 := by
  have h3 : (BitVec.ofInt 64 3).toNat = 2 ^ 2 - 1 := by decide
  have key : (BitVec.ofInt 64 n &&& BitVec.ofInt 64 3).toNat = (n % ((2 ^ 64 : Nat) : Int)).toNat % 2 ^ 2 := by
    rw [BitVec.toNat_and, BitVec.toNat_ofInt, h3, Nat.and_two_pow_sub_one_eq_mod]
  show IntKind.i64.wrap ((BitVec.ofInt 64 n &&& BitVec.ofInt 64 3).toNat : Nat) = n % 4
  rw [key, IntKind.wrap_i64]
  omega
theorem rotN_snoc (n : Nat) (p : Pt) : rotN (n + 1) p = (-(rotN n p).2, (rotN n p).1) := rotN_add n 1 p

/-- a call's end that tells a complex number, nothing else changed -/
def GivesY (w : World) (p : Pt) (e : Ending) (w' : World) : Prop := ∃ a b, e = .returned (.complex .f64 a b) ∧ Fl a p.1 ∧ Fl b p.2 ∧ w = w'
set_option maxHeartbeats 2000000 in
theorem turned_any (a b : Nat) (p : Pt) (k : Int) (w : World) (ha : Fl a p.1) (hb : Fl b p.2) :
    Calls Try.prog 32 #[.complex .f64 a b, .int .i64 k] w (GivesY w (rotK k p)) := by
  have hand := i64_and3 k
  have hr := rest4_lt k
  have hc := rest4_cast k
  unfold rotK
  rw [← hc] at hand
  clear hc
  generalize rest4 k = r at *
  have H0 := Lib.hid (And.intro ha hb)
  clear ha hb
  go_enter Try.func32, Try.ntmps32
  go_wp2_with (fail)
  go_loopw [0, 7] (fun z i wr => ∃ j x y : Nat, j ≤ r ∧ z = .complex .f64 x y ∧ i = .int .i64 (j : Int) ∧ Hid (Fl x (rotN j p).1 ∧ Fl y (rotN j p).2) ∧ w = wr) (fun _ i _ => r - (intOf i).toNat)
  case atStart => exact ⟨0, a, b, Nat.zero_le _, rfl, rfl, H0.out, rfl⟩
  case round =>
    obtain ⟨j, x, y, hj, rfl, rfl, HW, rfl⟩ := hrel
    by_cases hlt : j < r
    · have d : decide ((j : Int) < (r : Int)) = true := by simp; omega
      have hw := HW.out
      have hsm := hw.2.small
      obtain ⟨z, e1, f1⟩ := fl_sub fl_zero hw.2 (by omega)
      rw [Int.zero_sub] at f1
      have e2 := fun W => run_float_arith (P := Try.prog) W .sub 34 .f64 0 y z e1
      have hrot := rotN_snoc j p
      have HN : Hid (Fl z (rotN (j + 1) p).1 ∧ Fl x (rotN (j + 1) p).2) := by
        show _ ∧ _
        rw [hrot]
        exact ⟨f1, hw.1⟩
      clear hw HW hsm hrot f1 e1
      go_wp2
      go_roundw
      case rel => exact ⟨j + 1, z, x, by omega, rfl, by go_num, HN.out, trivial⟩
      case measure => simp [intOf]; omega
    · obtain rfl : j = r := by omega
      have d : decide ((j : Int) < (j : Int)) = false := by simp
      go_wp2
      go_ret
      exact ⟨_, _, rfl, HW.out.1, HW.out.2, rfl⟩
end Go.Proofs.Ytmpelpmgpklidaa
