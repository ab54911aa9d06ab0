/- What kedgeref09's Own, Step, State answer. -/
import Derived.Test.YtbeaeameaakphaaWords
import Derived.Test.YtbeaeameaakphaaScramM
namespace Go.Proofs.Ytbeaeameaakphaa
open Go.RowKit

theorem tmod15 (k : Int) : (0 ≤ k ∧ k.tmod 32768 = k % 32768) ∨ (k < 0 ∧ k.tmod 32768 = -((-k) % 32768)) := by
  by_cases h : 0 ≤ k
  · exact .inl ⟨h, Int.tmod_eq_emod_of_nonneg h⟩
  · right
    refine ⟨by omega, ?_⟩
    have e : k.tmod 32768 = -((-k).tmod 32768) := by rw [Int.neg_tmod, Int.neg_neg]
    rw [e, Int.tmod_eq_emod_of_nonneg (by omega)]
set_option maxHeartbeats 1000000 in
theorem own_any (k : Int) (w : World) :
    Calls Try.prog 11 #[.int .i64 k] w fun e w' => e = .returned (.int .i64 (ownN k : Int)) ∧ w = w' := by
  have hr := ownN_cast k
  have ht := tmod15 k
  by_cases h0 : k.tmod 32768 < 0
  · have d0 : decide (k.tmod 32768 < 0) = true := by simpa using h0
    have e : wrap64 (k.tmod 32768 + 32768) = (ownN k : Int) := by rw [IntWalk.wrap64_in _ (by omega), hr]; omega
    have E := Lib.hid e
    clear hr e ht
    go_enter Try.func11, Try.ntmps11
    go_wp2
    go_ret
    exact ⟨by rw [E.out]; rfl, rfl⟩
  · have d0 : decide (k.tmod 32768 < 0) = false := by simpa using h0
    have e : k.tmod 32768 = (ownN k : Int) := by rw [hr]; omega
    have E := Lib.hid e
    clear hr e ht
    go_enter Try.func11, Try.ntmps11
    go_wp2
    go_ret
    exact ⟨by rw [E.out]; rfl, rfl⟩
set_option maxHeartbeats 1000000 in
theorem rstep9_any (k : Int) (w : World) :
    Calls Try.prog 8 #[.int .i64 k] w fun e w' => e = .returned (.tuple #[.int .i64 (bitN (ownN k) : Int), .int .i64 (nextN (ownN k) : Int)]) ∧ w = w' := by
  have HO := Lib.hid (own_any k w)
  have hS := ownN_lt k
  generalize ownN k = S at *
  have HB : Hid (((bitN S : Nat) : Int) = ((S : Int) / 16384 + (S : Int) / 8192) % 2) := by show _ = _; unfold bitN; omega
  have HX : Hid (((nextN S : Nat) : Int) = (2 * (S : Int) + ((bitN S : Nat) : Int)) % 32768) := by show _ = _; unfold nextN; omega
  go_enter Try.func8, Try.ntmps8
  go_wp2_with (fail)
  refine HO.out.mono ?_
  rintro e w1 ⟨rfl, rfl⟩
  go_wp2
  go_ret2
  rw [HX.out, HB.out]
  exact ⟨rfl, rfl⟩
set_option maxHeartbeats 1000000 in
theorem rstate_any (k n : Int) (w : World) :
    Calls Try.prog 10 #[.int .i64 k, .int .i64 n] w fun e w' => e = .returned (.int .i64 (stateI k n : Int)) ∧ w = w' := by
  have HO := Lib.hid (own_any k w)
  have hS := ownN_lt k
  have HF : Hid (stateI k n = stN (if n < 32768 then n.toNat else 32768) (ownN k)) := rfl
  generalize stateI k n = R at *
  generalize ownN k = S at *
  have hN : Hid ((if n < 32768 then n.toNat else 32768) = if n < 32768 then n.toNat else 32768) := rfl
  go_enter Try.func10, Try.ntmps10
  go_wp2_with (fail)
  refine HO.out.mono ?_
  rintro e w1 ⟨rfl, rfl⟩
  go_wp2_with (fail)
  go_loopw [0, 5] (fun s i wr => ∃ j : Nat, s = .int .i64 ((stN j S : Nat) : Int) ∧ i = .int .i64 (j : Int) ∧ j ≤ (if n < 32768 then n.toNat else 32768) ∧ w = wr) (fun _ i _ => (if n < 32768 then n.toNat else 32768) - (intOf i).toNat)
  case atStart => exact ⟨0, rfl, rfl, Nat.zero_le _, rfl⟩
  case round =>
    obtain ⟨j, rfl, rfl, hj, rfl⟩ := hrel
    by_cases h1 : (j : Int) < n
    · have d1 : decide ((j : Int) < n) = true := by simpa using h1
      by_cases h2 : j < 32768
      · have d2 : decide ((j : Int) < 32768) = true := by simp; omega
        have hs : stN j S < 32768 := stN_lt _ _ hS
        have hst := rstep9_any ((stN j S : Nat) : Int) w
        rw [ownN_nat _ hs, ← stN_succ] at hst
        have HST := Lib.hid hst
        have hjn : j + 1 ≤ (if n < 32768 then n.toNat else 32768) := by split <;> omega
        have HJN := Lib.hid hjn
        clear hst hj hN hjn
        generalize stN j S = s at *
        go_wp2_with (fail)
        refine HST.out.mono ?_
        rintro e w1 ⟨rfl, rfl⟩
        go_wp2
        go_roundw
        case rel => exact ⟨j + 1, rfl, by go_num, HJN.out, trivial⟩
        case measure => have := HJN.out; simp [intOf]; omega
      · have d2 : decide ((j : Int) < 32768) = false := by simp; omega
        have hR : Hid (R = stN j S) := (HF.out).trans (by rw [show (if n < 32768 then n.toNat else 32768) = j by split at hj <;> split <;> omega])
        clear hj HF hN
        go_wp2
        go_ret
        exact ⟨by rw [hR.out]; rfl, rfl⟩
    · have d1 : decide ((j : Int) < n) = false := by simpa using h1
      have hR : Hid (R = stN j S) := (HF.out).trans (by rw [show (if n < 32768 then n.toNat else 32768) = j by split at hj <;> split <;> omega])
      clear hj HF hN
      go_wp2
      go_ret
      exact ⟨by rw [hR.out]; rfl, rfl⟩
end Go.Proofs.Ytbeaeameaakphaa
