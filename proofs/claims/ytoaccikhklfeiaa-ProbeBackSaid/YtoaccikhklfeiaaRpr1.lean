/- What kedgeref13.Right, head answer. -/
import Derived.Test.YtoaccikhklfeiaaProbeM
namespace Go.Proofs.Ytoaccikhklfeiaa
open Go.RowKit
set_option maxRecDepth 20000

set_option maxHeartbeats 4000000 in
theorem rpright_any (k l : Int) (A : Option Addr) (n c : Nat) (w : World) :
    Calls Try.prog 18 #[.agg #[.int .i64 k, .int .i64 l, .slice A n c]] w fun e w' => e = .returned (.bool (prRight k l n)) ∧ Below w.heap.size w w' := by
  by_cases h1 : k < 0
  · have d1 : decide (k < 0) = true := by simp; omega
    have hr : prRight k l n = false := by unfold prRight; (repeat' split) <;> first | (exfalso; omega) | rfl | (simp; omega) | simp
    rw [hr]
    clear hr
    go_enter Try.func18, Try.ntmps18
    go_wp2
    go_ret
    exact ⟨rfl, (Below.refl _ _).alloc (Nat.le_refl _) _⟩
  have d1 : decide (k < 0) = false := by simp; omega
  by_cases h2 : 4 < k
  · have d2 : decide (4 < k) = true := by simp; omega
    have hr : prRight k l n = false := by unfold prRight; (repeat' split) <;> first | (exfalso; omega) | rfl | (simp; omega) | simp
    rw [hr]
    clear hr
    go_enter Try.func18, Try.ntmps18
    go_wp2
    go_ret
    exact ⟨rfl, (Below.refl _ _).alloc (Nat.le_refl _) _⟩
  have d2 : decide (4 < k) = false := by simp; omega
  by_cases h3 : k = 3
  · subst h3
    clear d1 d2 h1 h2
    by_cases c1 : 0 ≤ l
    · have d1 : decide (0 ≤ l) = true := by simp; omega
      by_cases c2 : l ≤ 1
      · have d2 : decide (l ≤ 1) = true := by simp; omega
        by_cases c3 : n ≤ 64
        · have d3 : decide ((n : Int) ≤ 64) = true := by simp; omega
          have hr : prRight 3 l n = true := by unfold prRight; (repeat' split) <;> first | (exfalso; omega) | rfl | (simp; omega) | simp
          rw [hr]
          clear hr
          go_enter Try.func18, Try.ntmps18
          go_wp2
          go_ret
          exact ⟨rfl, (Below.refl _ _).alloc (Nat.le_refl _) _⟩
        · have d3 : decide ((n : Int) ≤ 64) = false := by simp; omega
          have hr : prRight 3 l n = false := by unfold prRight; (repeat' split) <;> first | (exfalso; omega) | rfl | (simp; omega) | simp
          rw [hr]
          clear hr
          go_enter Try.func18, Try.ntmps18
          go_wp2
          go_ret
          exact ⟨rfl, (Below.refl _ _).alloc (Nat.le_refl _) _⟩
      · have d2 : decide (l ≤ 1) = false := by simp; omega
        have hr : prRight 3 l n = false := by unfold prRight; (repeat' split) <;> first | (exfalso; omega) | rfl | (simp; omega) | simp
        rw [hr]
        clear hr
        go_enter Try.func18, Try.ntmps18
        go_wp2
        go_ret
        exact ⟨rfl, (Below.refl _ _).alloc (Nat.le_refl _) _⟩
    · have d1 : decide (0 ≤ l) = false := by simp; omega
      have hr : prRight 3 l n = false := by unfold prRight; (repeat' split) <;> first | (exfalso; omega) | rfl | (simp; omega) | simp
      rw [hr]
      clear hr
      go_enter Try.func18, Try.ntmps18
      go_wp2
      go_ret
      exact ⟨rfl, (Below.refl _ _).alloc (Nat.le_refl _) _⟩
  have d3 : (k == 3) = false := by simp; omega
  by_cases h4 : k = 4
  · subst h4
    clear d1 d2 h1 h2
    by_cases c1 : 0 ≤ l
    · have d1 : decide (0 ≤ l) = true := by simp; omega
      by_cases c2 : l ≤ 1
      · have d2 : decide (l ≤ 1) = true := by simp; omega
        by_cases c3 : n = 0
        · subst c3
          have hr : prRight 4 l 0 = true := by unfold prRight; (repeat' split) <;> first | (exfalso; omega) | rfl | (simp; omega) | simp
          rw [hr]
          clear hr
          go_enter Try.func18, Try.ntmps18
          go_wp2
          go_ret
          exact ⟨rfl, (Below.refl _ _).alloc (Nat.le_refl _) _⟩
        · have d3 : ((n : Int) == 0) = false := by simp; omega
          have hr : prRight 4 l n = false := by unfold prRight; (repeat' split) <;> first | (exfalso; omega) | rfl | (simp; omega) | simp
          rw [hr]
          clear hr
          go_enter Try.func18, Try.ntmps18
          go_wp2
          go_ret
          exact ⟨rfl, (Below.refl _ _).alloc (Nat.le_refl _) _⟩
      · have d2 : decide (l ≤ 1) = false := by simp; omega
        have hr : prRight 4 l n = false := by unfold prRight; (repeat' split) <;> first | (exfalso; omega) | rfl | (simp; omega) | simp
        rw [hr]
        clear hr
        go_enter Try.func18, Try.ntmps18
        go_wp2
        go_ret
        exact ⟨rfl, (Below.refl _ _).alloc (Nat.le_refl _) _⟩
    · have d1 : decide (0 ≤ l) = false := by simp; omega
      have hr : prRight 4 l n = false := by unfold prRight; (repeat' split) <;> first | (exfalso; omega) | rfl | (simp; omega) | simp
      rw [hr]
      clear hr
      go_enter Try.func18, Try.ntmps18
      go_wp2
      go_ret
      exact ⟨rfl, (Below.refl _ _).alloc (Nat.le_refl _) _⟩
  have d4 : (k == 4) = false := by simp; omega
  by_cases c1 : l = 0
  · subst c1
    by_cases c3 : n = 0
    · subst c3
      have hr : prRight k 0 0 = true := by unfold prRight; (repeat' split) <;> first | (exfalso; omega) | rfl | (simp; omega) | simp
      rw [hr]
      clear hr
      go_enter Try.func18, Try.ntmps18
      go_wp2
      go_ret
      exact ⟨rfl, (Below.refl _ _).alloc (Nat.le_refl _) _⟩
    · have d5 : ((n : Int) == 0) = false := by simp; omega
      have hr : prRight k 0 n = false := by unfold prRight; (repeat' split) <;> first | (exfalso; omega) | rfl | (simp; omega) | simp
      rw [hr]
      clear hr
      go_enter Try.func18, Try.ntmps18
      go_wp2
      go_ret
      exact ⟨rfl, (Below.refl _ _).alloc (Nat.le_refl _) _⟩
  · have d5 : (l == 0) = false := by simp; omega
    have hr : prRight k l n = false := by unfold prRight; (repeat' split) <;> first | (exfalso; omega) | rfl | (simp; omega) | simp
    rw [hr]
    clear hr
    go_enter Try.func18, Try.ntmps18
    go_wp2
    go_ret
    exact ⟨rfl, (Below.refl _ _).alloc (Nat.le_refl _) _⟩
set_option maxHeartbeats 4000000 in
theorem rphead_any (k l : Int) (A : Option Addr) (n c : Nat) (w : World) (h : prRight k l n = true) :
    Calls Try.prog 19 #[.agg #[.int .i64 k, .int .i64 l, .slice A n c]] w fun e w' => e = .returned (.int .u8 (prHead k l)) ∧ Below w.heap.size w w' := by
  have hl := prHead_lt h
  unfold prHead at hl ⊢
  have hk : 0 ≤ k ∧ k ≤ 4 := by
    unfold prRight at h
    split at h
    · cases h
    · omega
  clear h
  by_cases h3 : k = 3
  · subst h3
    rw [if_pos rfl] at hl ⊢
    have e1 : (4 + l) % 256 = 4 + l := by omega
    go_enter Try.func19, Try.ntmps19
    go_wp2
    go_ret
    exact ⟨rfl, (Below.refl _ _).alloc (Nat.le_refl _) _⟩
  · have d3 : (k == 3) = false := by simp; omega
    rw [if_neg h3] at hl ⊢
    by_cases h4 : k = 4
    · subst h4
      rw [if_pos rfl] at hl ⊢
      go_enter Try.func19, Try.ntmps19
      go_wp2
      go_ret
      exact ⟨rfl, (Below.refl _ _).alloc (Nat.le_refl _) _⟩
    · have d4 : (k == 4) = false := by simp; omega
      rw [if_neg h4] at hl ⊢
      go_enter Try.func19, Try.ntmps19
      go_wp2
      go_ret
      exact ⟨rfl, (Below.refl _ _).alloc (Nat.le_refl _) _⟩
end Go.Proofs.Ytoaccikhklfeiaa
