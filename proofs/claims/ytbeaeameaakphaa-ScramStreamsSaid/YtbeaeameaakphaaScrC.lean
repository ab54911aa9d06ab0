/- Package scram by its contracts; what layer 9's law's own live answers over them. -/
import Derived.Test.YtbeaeameaakphaaRscr2
import Derived.Test.YtbeaeameaakphaaSame
namespace Go.Proofs.Ytbeaeameaakphaa
open Go.RowKit

def In64 (k : Int) : Prop := -9223372036854775808 ≤ k ∧ k ≤ 9223372036854775807
/-- what package scram answers, in plain words -/
structure ScC : Prop where
  step : ∀ (k : Int) (w : World), In64 k → Calls Try.prog 7 #[.int .i64 k] w fun e w' => e = .returned (.tuple #[.int .i64 ((bitN (ownN k) : Nat) : Int), .int .i64 ((nextN (ownN k) : Nat) : Int)]) ∧ Below w.heap.size w w'
  state : ∀ (k n : Int) (w : World), In64 k → In64 n → Calls Try.prog 9 #[.int .i64 k, .int .i64 n] w fun e w' => e = .returned (.int .i64 ((stateI k n : Nat) : Int)) ∧ Below w.heap.size w w'
  stream : ∀ (k n : Int) (w : World), In64 k → In64 n → Calls Try.prog 13 #[.int .i64 k, .int .i64 n] w (GivesB w (streamB k n))
  do_ : ∀ (k : Int) (A : Option Addr) (n c : Nat) (b : List UInt8) (w : World), In64 k → Bys w A n c b → n ≤ 140737488355328 → Calls Try.prog 15 #[.int .i64 k, .slice A n c] w (GivesB w (scrB k b))
set_option maxHeartbeats 2000000 in
theorem live09_any (C : ScC) (w : World) : Calls Try.prog 6 #[] w fun e w' => e = .returned (.bool true) ∧ Below w.heap.size w w' := by
  have H1 := Lib.hid (fun W => C.step 16384 W (by unfold In64; omega))
  have H2 := Lib.hid (fun W => C.step 1 W (by unfold In64; omega))
  have H3 := Lib.hid (fun W => C.stream 5 3 W (by unfold In64; omega) (by unfold In64; omega))
  have e1 : bitN (ownN 16384) = 1 := by decide +kernel
  have e2 : nextN (ownN 16384) = 1 := by decide +kernel
  have e3 : bitN (ownN 1) = 0 := by decide +kernel
  have e4 : nextN (ownN 1) = 2 := by decide +kernel
  have e5 : (streamB 5 3).length = 3 := (congrArg List.length (streamB_nat 5 3 (by decide))).trans (strmN_len _ _)
  have HL := Lib.hid e5
  rw [e1, e2] at H1
  rw [e3, e4] at H2
  clear e1 e2 e3 e4 e5
  go_enter Try.func6, Try.ntmps6
  go_wp2_with (fail)
  refine (H1.out _).mono ?_
  rintro e w1 ⟨rfl, T1⟩
  go_wp2_with (fail)
  refine (H2.out _).mono ?_
  rintro e w2 ⟨rfl, T2⟩
  have T2 := nxt T1 T2
  go_wp2_with (fail)
  refine (H3.out _).mono ?_
  rintro e w3 ⟨A, n, c, rfl, hB, T3⟩
  have T3 := nxt T2 T3
  obtain rfl : n = 3 := by rw [← hB.len]; exact HL.out
  clear hB
  go_wp2
  go_ret
  exact ⟨rfl, T3⟩
end Go.Proofs.Ytbeaeameaakphaa
