/- The walks of layer 9's ScramSteps and ScramStreams, over the contracts of scram. -/
import Derived.Test.YtbeaeameaakphaaScrC
namespace Go.Proofs.Ytbeaeameaakphaa
open Go.RowKit

set_option maxHeartbeats 4000000 in
theorem walk_ScramSteps (C : ScC) (k n : Int) (w : World) (hk : In64 k) (hn : In64 n) :
    Calls Try.prog 3 #[.int .i64 k, .int .i64 n] w fun e w' => e = .returned (.bool true) ∧ Below w.heap.size w w' := by
  by_cases h0 : 300 < n ∧ n < 32768
  · have d1 : decide (300 < n) = true := by simpa using h0.1
    have d2 : decide (n < 32768) = true := by simpa using h0.2
    clear h0
    go_enter Try.func3, Try.ntmps3
    go_wp2_with (fail)
    refine (live09_any C _).mono ?_
    rintro e w9 ⟨rfl, T9⟩
    go_wp2
    go_ret
    exact ⟨rfl, T9⟩
  · have H1 := Lib.hid (fun W => C.step k W hk)
    have H2 := Lib.hid (fun W => rstep9_any k W)
    have H3 := Lib.hid (fun W => C.state k n W hk hn)
    have H4 := Lib.hid (fun W => rstate_any k n W)
    have H5 := Lib.hid (fun W => own_any k W)
    have hz := stateI_zero k n
    generalize stateI k n = s at *
    generalize bitN (ownN k) = b at *
    generalize nextN (ownN k) = x at *
    generalize ownN k = o at *
    have e1 : ((b : Int) == (b : Int)) = true := by simp
    have e2 : ((x : Int) == (x : Int)) = true := by simp
    have e3 : ((s : Int) == (s : Int)) = true := by simp
    have HL := Lib.hid (fun W => live09_any C W)
    obtain ⟨t, ht⟩ : ∃ t : Bool, ((s : Int) == 0) = t := ⟨_, rfl⟩
    have ho : ((o : Int) == 0) = t := by
      rw [← ht, Bool.eq_iff_iff]
      simp
      omega
    have e4 : (t == t) = true := by simp
    clear hz hk hn
    have key : ∀ W, Calls Try.prog 6 #[] W fun e w' => e = .returned (.bool true) ∧ Below W.heap.size W w' := fun W => HL.out W
    have HK := Lib.hid key
    clear key HL
    by_cases h1 : 300 < n
    · have d1 : decide (300 < n) = true := by simpa using h1
      have d2 : decide (n < 32768) = false := by simp; omega
      clear h0 h1
      go_enter Try.func3, Try.ntmps3
      go_wp2_with (fail)
      refine (H1.out _).mono ?_
      rintro e w1 ⟨rfl, T1⟩
      go_wp2_with (fail)
      refine (H2.out _).mono ?_
      rintro e w2 ⟨rfl, rfl⟩
      go_wp2_with (fail)
      refine (H3.out _).mono ?_
      rintro e w3 ⟨rfl, T3⟩
      have T3 := nxt T1 T3
      go_wp2_with (fail)
      refine (H4.out _).mono ?_
      rintro e w4 ⟨rfl, rfl⟩
      go_wp2_with (fail)
      refine (H5.out _).mono ?_
      rintro e w5 ⟨rfl, rfl⟩
      go_wp2_with (fail)
      refine (HK.out _).mono ?_
      rintro e w6 ⟨rfl, T6⟩
      have T6 := nxt T3 T6
      go_wp2
      go_ret
      exact ⟨rfl, T6⟩
    · have d1 : decide (300 < n) = false := by simpa using h1
      clear h0 h1
      go_enter Try.func3, Try.ntmps3
      go_wp2_with (fail)
      refine (H1.out _).mono ?_
      rintro e w1 ⟨rfl, T1⟩
      go_wp2_with (fail)
      refine (H2.out _).mono ?_
      rintro e w2 ⟨rfl, rfl⟩
      go_wp2_with (fail)
      refine (H3.out _).mono ?_
      rintro e w3 ⟨rfl, T3⟩
      have T3 := nxt T1 T3
      go_wp2_with (fail)
      refine (H4.out _).mono ?_
      rintro e w4 ⟨rfl, rfl⟩
      go_wp2_with (fail)
      refine (H5.out _).mono ?_
      rintro e w5 ⟨rfl, rfl⟩
      go_wp2_with (fail)
      refine (HK.out _).mono ?_
      rintro e w6 ⟨rfl, T6⟩
      have T6 := nxt T3 T6
      go_wp2
      go_ret
      exact ⟨rfl, T6⟩
set_option maxHeartbeats 4000000 in
theorem walk_ScramStreams (C : ScC) (k n : Int) (A : Option Addr) (m c : Nat) (b : List UInt8) (w : World) (hk : In64 k) (hn : In64 n) (hB : Bys w A m c b) (hm : m ≤ 140737488355328) :
    Calls Try.prog 4 #[.int .i64 k, .int .i64 n, .slice A m c] w fun e w' => e = .returned (.bool true) ∧ Below w.heap.size w w' := by
  have H1 := Lib.hid (fun W => C.stream k n W hk hn)
  have H2 := Lib.hid (fun W => rstream_any k n W)
  have H3 := Lib.hid (fun W (k' : Below w.heap.size w W) => C.do_ k A m c b W hk (hB.below k') hm)
  have H4 := Lib.hid (fun W (k' : Below w.heap.size w W) => rscr_any k A m c b W (hB.below k') hm)
  have HL := Lib.hid (fun W => live09_any C W)
  obtain ⟨t1, d1⟩ : ∃ t, decide (300 < n) = t := ⟨_, rfl⟩
  obtain ⟨t2, d2⟩ : ∃ t, decide (n ≤ 4096) = t := ⟨_, rfl⟩
  obtain ⟨t3, d3⟩ : ∃ t, decide ((300 : Int) < (m : Int)) = t := ⟨_, rfl⟩
  obtain ⟨t4, d4⟩ : ∃ t, decide ((m : Int) ≤ 4096) = t := ⟨_, rfl⟩
  clear hk hn hB hm
  cases t1 <;> cases t2 <;> cases t3 <;> cases t4
  all_goals
    go_enter Try.func4, Try.ntmps4
    go_wp2_with (fail)
    first
      | (refine (HL.out _).mono ?_
         rintro e w9 ⟨rfl, T9⟩
         go_wp2
         go_ret
         exact ⟨rfl, T9⟩)
      | (refine (H1.out _).mono ?_
         rintro e w1 ⟨A1, n1, c1, rfl, B1, T1⟩
         go_wp2_with (fail)
         refine (H2.out _).mono ?_
         rintro e w2 ⟨A2, n2, c2, rfl, B2, T2⟩
         have B1 := B1.below T2
         have T2 := nxt T1 T2
         go_wp2_with (fail)
         refine (same_true _ _ _ _ _ _ _ _ B1 B2).mono ?_
         rintro e w3 ⟨rfl, T3⟩
         have T3 := nxt T2 T3
         clear B1 B2
         go_wp2_with (fail)
         refine (H3.out _ T3).mono ?_
         rintro e w4 ⟨A4, n4, c4, rfl, B4, T4⟩
         have T4 := nxt T3 T4
         go_wp2_with (fail)
         refine (H4.out _ T4).mono ?_
         rintro e w5 ⟨A5, n5, c5, rfl, B5, T5⟩
         have B4 := B4.below T5
         have T5 := nxt T4 T5
         go_wp2_with (fail)
         refine (same_true _ _ _ _ _ _ _ _ B4 B5).mono ?_
         rintro e w6 ⟨rfl, T6⟩
         have T6 := nxt T5 T6
         clear B4 B5
         go_wp2_with (fail)
         refine (HL.out _).mono ?_
         rintro e w9 ⟨rfl, T9⟩
         have T9 := nxt T6 T9
         go_wp2
         go_ret
         exact ⟨rfl, T9⟩)
end Go.Proofs.Ytbeaeameaakphaa
