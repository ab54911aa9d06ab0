/- What edit.fits answers. -/
import Derived.Test.YtgppoapdpgblmaaEdV
namespace Go.Proofs.Ytgppoapdpgblmaa
open Go.RowKit
set_option maxRecDepth 20000

set_option maxHeartbeats 1000000 in
theorem fits_any (k a : Int) (b : UInt8) (n : Nat) (w : World) (hn : n ≤ 4611686018427387904) :
    Calls Try.prog 36 #[.agg #[.int .i64 k, .int .i64 a, .int .u8 (b.toNat : Int)], .int .i64 n] w fun e w' => e = .returned (.bool (edFits k a n)) ∧ Below w.heap.size w w' := by
  have hR : ∀ r : Bool, (r = true ↔ (0 ≤ a ∧ (((k = 0 ∨ k = 2) ∧ a < n) ∨ ((k = 1 ∧ n < 512 ∨ k = 3) ∧ a ≤ n)))) → edFits k a n = r := fun r h => by
    unfold edFits
    rw [Bool.eq_iff_iff, decide_eq_true_iff]
    exact h.symm
  by_cases h0 : 0 ≤ a
  · have d0 : decide (0 ≤ a) = true := by simpa using h0
    by_cases k1 : k = 1
    · subst k1
      by_cases h5 : 512 ≤ n
      · have d5 : decide ((512 : Int) ≤ (n : Int)) = true := by simp; omega
        have H := Lib.hid (hR false (by simp; omega))
        clear hR
        go_enter Try.func36, Try.ntmps36
        go_wp2
        go_ret
        exact ⟨ret_bool H.out.symm, (Below.refl _ _).alloc (Nat.le_refl _) _⟩
      · have d5 : decide ((512 : Int) ≤ (n : Int)) = false := by simp; omega
        by_cases h1 : a ≤ n
        · have d1 : decide (a < (n : Int) + 1) = true := by simp; omega
          have H := Lib.hid (hR true (by simp; omega))
          clear hR
          go_enter Try.func36, Try.ntmps36
          go_wp2
          go_ret
          exact ⟨ret_bool H.out.symm, (Below.refl _ _).alloc (Nat.le_refl _) _⟩
        · have d1 : decide (a < (n : Int) + 1) = false := by simp; omega
          have H := Lib.hid (hR false (by simp; omega))
          clear hR
          go_enter Try.func36, Try.ntmps36
          go_wp2
          go_ret
          exact ⟨ret_bool H.out.symm, (Below.refl _ _).alloc (Nat.le_refl _) _⟩
    · have e1 : (k == 1) = false := by simpa using k1
      by_cases k3 : k = 3
      · subst k3
        by_cases h1 : a ≤ n
        · have d1 : decide (a < (n : Int) + 1) = true := by simp; omega
          have H := Lib.hid (hR true (by simp; omega))
          clear hR
          go_enter Try.func36, Try.ntmps36
          go_wp2
          go_ret
          exact ⟨ret_bool H.out.symm, (Below.refl _ _).alloc (Nat.le_refl _) _⟩
        · have d1 : decide (a < (n : Int) + 1) = false := by simp; omega
          have H := Lib.hid (hR false (by simp; omega))
          clear hR
          go_enter Try.func36, Try.ntmps36
          go_wp2
          go_ret
          exact ⟨ret_bool H.out.symm, (Below.refl _ _).alloc (Nat.le_refl _) _⟩
      · have e3 : (k == 3) = false := by simpa using k3
        by_cases k0 : k = 0
        · subst k0
          obtain ⟨r, hr⟩ : ∃ r, decide (a < (n : Int)) = r := ⟨_, rfl⟩
          have H := Lib.hid (hR r (by rw [← hr]; simp; omega))
          clear hR
          go_enter Try.func36, Try.ntmps36
          go_wp2
          go_ret
          exact ⟨ret_bool H.out.symm, (Below.refl _ _).alloc (Nat.le_refl _) _⟩
        · have e0 : (k == 0) = false := by simpa using k0
          by_cases k2 : k = 2
          · subst k2
            obtain ⟨r, hr⟩ : ∃ r, decide (a < (n : Int)) = r := ⟨_, rfl⟩
            have H := Lib.hid (hR r (by rw [← hr]; simp; omega))
            clear hR
            go_enter Try.func36, Try.ntmps36
            go_wp2
            go_ret
            exact ⟨ret_bool H.out.symm, (Below.refl _ _).alloc (Nat.le_refl _) _⟩
          · have e2 : (k == 2) = false := by simpa using k2
            have H := Lib.hid (hR false (by simp; omega))
            clear hR
            go_enter Try.func36, Try.ntmps36
            go_wp2
            go_ret
            exact ⟨ret_bool H.out.symm, (Below.refl _ _).alloc (Nat.le_refl _) _⟩
  · have d0 : decide (0 ≤ a) = false := by simpa using h0
    have H := Lib.hid (hR false (by simp; omega))
    clear hR
    by_cases k1 : k = 1
    · subst k1
      by_cases h5 : 512 ≤ n
      · have d5 : decide ((512 : Int) ≤ (n : Int)) = true := by simp; omega
        go_enter Try.func36, Try.ntmps36
        go_wp2
        go_ret
        exact ⟨ret_bool H.out.symm, (Below.refl _ _).alloc (Nat.le_refl _) _⟩
      · have d5 : decide ((512 : Int) ≤ (n : Int)) = false := by simp; omega
        go_enter Try.func36, Try.ntmps36
        go_wp2
        go_ret
        exact ⟨ret_bool H.out.symm, (Below.refl _ _).alloc (Nat.le_refl _) _⟩
    · have e1 : (k == 1) = false := by simpa using k1
      by_cases k3 : k = 3
      · subst k3
        go_enter Try.func36, Try.ntmps36
        go_wp2
        go_ret
        exact ⟨ret_bool H.out.symm, (Below.refl _ _).alloc (Nat.le_refl _) _⟩
      · have e3 : (k == 3) = false := by simpa using k3
        by_cases k0 : k = 0
        · subst k0
          go_enter Try.func36, Try.ntmps36
          go_wp2
          go_ret
          exact ⟨ret_bool H.out.symm, (Below.refl _ _).alloc (Nat.le_refl _) _⟩
        · have e0 : (k == 0) = false := by simpa using k0
          by_cases k2 : k = 2
          · subst k2
            go_enter Try.func36, Try.ntmps36
            go_wp2
            go_ret
            exact ⟨ret_bool H.out.symm, (Below.refl _ _).alloc (Nat.le_refl _) _⟩
          · have e2 : (k == 2) = false := by simpa using k2
            go_enter Try.func36, Try.ntmps36
            go_wp2
            go_ret
            exact ⟨ret_bool H.out.symm, (Below.refl _ _).alloc (Nat.le_refl _) _⟩
end Go.Proofs.Ytgppoapdpgblmaa
