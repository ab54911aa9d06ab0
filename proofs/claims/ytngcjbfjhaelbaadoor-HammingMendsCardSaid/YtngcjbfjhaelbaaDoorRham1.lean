/- What kedgeref10's Bit, Word, Apart, Half answer. -/
import Derived.Test.YtngcjbfjhaelbaaDoorWords
import Derived.Test.YtngcjbfjhaelbaaDoorHamM
namespace Go.Proofs.YtngcjbfjhaelbaaDoor
open Go.RowKit

theorem ret_i {k : IntKind} {x y : Int} (h : x = y) : Ending.returned (.int k x) = Ending.returned (.int k y) := by rw [h]
set_option maxHeartbeats 1000000 in
theorem rbit_any (n p : Nat) (w : World) (hn : n ≤ 1000000) (hp : p ≤ 64) :
    Calls Tryd.prog 21 #[.int .i64 (n : Int), .int .i64 (p : Int)] w fun e w' => e = .returned (.int .i64 ((bitA n p : Nat) : Int)) ∧ w = w' := by
  obtain ⟨B, hB⟩ : ∃ B, bitA n p = B := ⟨_, rfl⟩
  have HB := Lib.hid hB
  rw [hB]
  clear hB
  go_enter Tryd.func21, Tryd.ntmps21
  go_wp2_with (fail)
  go_loopw [0, 5] (fun s i wr => ∃ j m : Nat, j ≤ p ∧ s = .int .i64 (m : Int) ∧ Hid (m = n / 2 ^ j) ∧ i = .int .i64 (j : Int) ∧ w = wr) (fun _ i _ => p - (intOf i).toNat)
  case atStart => exact ⟨0, n, Nat.zero_le _, rfl, (by show n = n / 2 ^ 0; simp), rfl, rfl⟩
  case round =>
    obtain ⟨j, m, hj, rfl, HM, rfl, rfl⟩ := hrel
    have hm : m ≤ n := by rw [HM.out]; exact Nat.div_le_self _ _
    by_cases hlt : j < p
    · have d1 : decide ((j : Int) < (p : Int)) = true := by simp; omega
      obtain ⟨m', hm'⟩ : ∃ m', m / 2 = m' := ⟨_, rfl⟩
      have e1 : (m : Int) / 2 = (m' : Int) := by omega
      have HN : Hid (m' = n / 2 ^ (j + 1)) := by show _ = _; rw [← hm', HM.out, Nat.pow_succ, Nat.div_div_eq_div_mul]
      clear hm'
      go_wp2
      go_roundw
      case rel => exact ⟨j + 1, m', by omega, rfl, HN.out, by go_num, trivial⟩
      case measure => simp [intOf]; omega
    · have d1 : decide ((j : Int) < (p : Int)) = false := by simp; omega
      obtain rfl : j = p := by omega
      have HE : Hid ((B : Int) = (m : Int) % 2) := by
        have := HB.out
        unfold bitA at this
        rw [← HM.out] at this
        show _ = _
        omega
      go_wp2
      go_ret
      exact ⟨ret_i HE.out.symm, rfl⟩
/-- the word out of the four bits -/
def wordF (a b c d : Nat) : Nat := (a + b + c + d + (a + b + d) % 2 + (a + c + d) % 2 + (b + c + d) % 2) % 2 + 2 * ((a + b + d) % 2) + 4 * ((a + c + d) % 2) + 8 * a + 16 * ((b + c + d) % 2) + 32 * b + 64 * c + 128 * d
set_option maxHeartbeats 4000000 in
theorem rword_any (h : Nat) (w : World) (hh : h ≤ 1000000) :
    Calls Tryd.prog 9 #[.int .i64 (h : Int)] w fun e w' => e = .returned (.int .i64 ((wordN h : Nat) : Int)) ∧ w = w' := by
  have H0 := Lib.hid (rbit_any h 0 w hh (by decide))
  have H1 := Lib.hid (rbit_any h 1 w hh (by decide))
  have H2 := Lib.hid (rbit_any h 2 w hh (by decide))
  have H3 := Lib.hid (rbit_any h 3 w hh (by decide))
  have l0 : bitA h 0 = 0 ∨ bitA h 0 = 1 := by have := bitA_lt h 0; omega
  have l1 : bitA h 1 = 0 ∨ bitA h 1 = 1 := by have := bitA_lt h 1; omega
  have l2 : bitA h 2 = 0 ∨ bitA h 2 = 1 := by have := bitA_lt h 2; omega
  have l3 : bitA h 3 = 0 ∨ bitA h 3 = 1 := by have := bitA_lt h 3; omega
  have hW : wordN h = wordF (bitA h 0) (bitA h 1) (bitA h 2) (bitA h 3) := rfl
  rw [hW]
  clear hW
  rcases l0 with l0 | l0 <;> rcases l1 with l1 | l1 <;> rcases l2 with l2 | l2 <;> rcases l3 with l3 | l3 <;> rw [l0] at H0 <;> rw [l1] at H1 <;> rw [l2] at H2 <;> rw [l3] at H3 <;> rw [l0, l1, l2, l3] <;> clear l0 l1 l2 l3
  all_goals
    go_enter Tryd.func9, Tryd.ntmps9
    go_wp2_with (fail)
    refine H0.out.mono ?_
    rintro e w1 ⟨rfl, rfl⟩
    go_wp2_with (fail)
    refine H1.out.mono ?_
    rintro e w1 ⟨rfl, rfl⟩
    go_wp2_with (fail)
    refine H2.out.mono ?_
    rintro e w1 ⟨rfl, rfl⟩
    go_wp2_with (fail)
    refine H3.out.mono ?_
    rintro e w1 ⟨rfl, rfl⟩
    go_wp2
    go_ret
    exact ⟨rfl, rfl⟩
set_option maxHeartbeats 2000000 in
theorem rapart_any (a b : Nat) (w : World) (ha : a ≤ 1000000) (hb : b ≤ 1000000) :
    Calls Tryd.prog 13 #[.int .i64 (a : Int), .int .i64 (b : Int)] w fun e w' => e = .returned (.int .i64 ((apartN a b : Nat) : Int)) ∧ w = w' := by
  have HA := Lib.hid (fun p hp => rbit_any a p w ha hp)
  have HB := Lib.hid (fun p hp => rbit_any b p w hb hp)
  have HR : Hid (apartN a b = apartK a b 8) := rfl
  generalize apartN a b = R at *
  go_enter Tryd.func13, Tryd.ntmps13
  go_wp2_with (fail)
  go_loopw [5, 6] (fun s i wr => ∃ j m : Nat, j ≤ 8 ∧ s = .int .i64 (m : Int) ∧ Hid (m = apartK a b j) ∧ m ≤ 8 ∧ i = .int .i64 (j : Int) ∧ w = wr) (fun _ i _ => 8 - (intOf i).toNat)
  case atStart => exact ⟨0, 0, by decide, rfl, rfl, by decide, rfl, rfl⟩
  case round =>
    obtain ⟨j, m, hj, rfl, HM, hm8, rfl, rfl⟩ := hrel
    by_cases hlt : j < 8
    · have d1 : decide ((j : Int) < 8) = true := by simp; omega
      have H1 := Lib.hid (HA.out j (by omega))
      have H2 := Lib.hid (HB.out j (by omega))
      have hst : apartK a b (j + 1) = apartK a b j + if bitA a j = bitA b j then 0 else 1 := rfl
      have hle := apartK_le a b (j + 1)
      rw [← HM.out] at hst
      generalize bitA a j = x at *
      generalize bitA b j = y at *
      by_cases hxy : x = y
      · have d2 : ((x : Int) != (y : Int)) = false := by simp; omega
        rw [if_pos hxy] at hst
        have HS : Hid (m = apartK a b (j + 1)) := by show _ = _; omega
        clear hst hle hxy
        go_wp2_with (fail)
        refine H1.out.mono ?_
        rintro e w1 ⟨rfl, rfl⟩
        go_wp2_with (fail)
        refine H2.out.mono ?_
        rintro e w1 ⟨rfl, rfl⟩
        go_wp2
        go_roundw
        case rel => exact ⟨j + 1, m, by omega, rfl, HS.out, hm8, by go_num, trivial⟩
        case measure => simp [intOf]; omega
      · have d2 : ((x : Int) != (y : Int)) = true := by simp; omega
        rw [if_neg hxy] at hst
        have HS : Hid (m + 1 = apartK a b (j + 1)) := by show _ = _; omega
        have hm7 : m + 1 ≤ 8 := by omega
        clear hst hle hxy
        go_wp2_with (fail)
        refine H1.out.mono ?_
        rintro e w1 ⟨rfl, rfl⟩
        go_wp2_with (fail)
        refine H2.out.mono ?_
        rintro e w1 ⟨rfl, rfl⟩
        go_wp2
        go_roundw
        case rel => exact ⟨j + 1, m + 1, by omega, by go_num, HS.out, hm7, by go_num, trivial⟩
        case measure => simp [intOf]; omega
    · have d1 : decide ((j : Int) < 8) = false := by simp; omega
      obtain rfl : j = 8 := by omega
      have HE : Hid ((m : Int) = (R : Int)) := by show _ = _; rw [HM.out, HR.out]
      go_wp2
      go_ret
      exact ⟨ret_i HE.out, rfl⟩
set_option maxHeartbeats 2000000 in
theorem rhalf_any (x : Nat) (w : World) (hx : x ≤ 255) :
    Calls Tryd.prog 11 #[.int .i64 (x : Int)] w fun e w' => e = .returned (.tuple #[.int .i64 (((halfN x).1 : Nat) : Int), .int .i64 (((halfN x).2.1 : Nat) : Int), .int .i64 (((halfN x).2.2 : Nat) : Int)]) ∧ w = w' := by
  have HW := Lib.hid (fun h hh => rword_any h w hh)
  have HA := Lib.hid (fun a ha => rapart_any a x w ha (by omega))
  have HS := Lib.hid (fun k (hk : k < 16) hn h1 => halfN_some x k hk hn h1)
  have HN := Lib.hid (fun hn => halfN_none x hn)
  generalize halfN x = r at *
  obtain ⟨r1, r2, r3⟩ := r
  go_enter Tryd.func11, Tryd.ntmps11
  go_wp2_with (fail)
  go_loopw [5] (fun i wr => ∃ j : Nat, j ≤ 16 ∧ i = .int .i64 (j : Int) ∧ Hid (∀ h, h < j → 1 < apartN (wordN h) x) ∧ w = wr) (fun i _ => 16 - (intOf i).toNat)
  case atStart => exact ⟨0, by decide, rfl, fun h hh => absurd hh (by omega), rfl⟩
  case round =>
    obtain ⟨j, hj, rfl, HJ, rfl⟩ := hrel
    by_cases hlt : j < 16
    · have d1 : decide ((j : Int) < 16) = true := by simp; omega
      have H1 := Lib.hid (HW.out j (by omega))
      have hwl := wordN_lt j
      have H2 := Lib.hid (HA.out (wordN j) (by omega))
      have hs := HS.out j hlt HJ.out
      have hj1 := HJ.out
      have hnx : 1 < apartN (wordN j) x → ∀ h, h < j + 1 → 1 < apartN (wordN h) x := fun h1 h hh => by
        by_cases e : h = j
        · subst e; exact h1
        · exact hj1 h (by omega)
      have HNX := Lib.hid hnx
      clear hnx hj1
      generalize apartN (wordN j) x = n at *
      generalize wordN j = wd at *
      by_cases h1 : n ≤ 1
      · have d2 : decide ((n : Int) ≤ 1) = true := by simp; omega
        have he := hs h1
        simp only [Prod.mk.injEq] at he
        obtain ⟨rfl, rfl, rfl⟩ := he
        clear hs HNX
        go_wp2_with (fail)
        refine H1.out.mono ?_
        rintro e w1 ⟨rfl, rfl⟩
        go_wp2_with (fail)
        refine H2.out.mono ?_
        rintro e w1 ⟨rfl, rfl⟩
        go_wp2
        go_ret3
        exact ⟨rfl, rfl⟩
      · have d2 : decide ((n : Int) ≤ 1) = false := by simp; omega
        have HQ := Lib.hid (HNX.out (by omega))
        clear hs HNX
        go_wp2_with (fail)
        refine H1.out.mono ?_
        rintro e w1 ⟨rfl, rfl⟩
        go_wp2_with (fail)
        refine H2.out.mono ?_
        rintro e w1 ⟨rfl, rfl⟩
        go_wp2
        go_roundw
        case rel => exact ⟨j + 1, by omega, by go_num, HQ.out, trivial⟩
        case measure => simp [intOf]; omega
    · have d1 : decide ((j : Int) < 16) = false := by simp; omega
      obtain rfl : j = 16 := by omega
      have he := HN.out HJ.out
      simp only [Prod.mk.injEq] at he
      obtain ⟨rfl, rfl, rfl⟩ := he
      go_wp2
      go_ret3
      exact ⟨rfl, rfl⟩
end Go.Proofs.YtngcjbfjhaelbaaDoor
