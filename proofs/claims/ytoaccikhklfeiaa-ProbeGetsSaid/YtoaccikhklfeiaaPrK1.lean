/- What probe.header, told answer (landed code at 22a70fa). -/
import Derived.Test.YtoaccikhklfeiaaRpr4
namespace Go.Proofs.Ytoaccikhklfeiaa
open Go.RowKit
set_option maxRecDepth 20000

set_option maxHeartbeats 8000000 in
theorem prheader_any (k l : Int) (A : Option Addr) (n c : Nat) (w : World) :
    Calls Try.prog 17 #[.agg #[.int .i64 k, .int .i64 l, .slice A n c]] w fun e w' => e = .returned (.tuple #[.int .u8 (if prRight k l n = true then prHead k l else 0), .bool (prRight k l n)]) ∧ Below w.heap.size w w' := by
  by_cases k3 : k = 3
  · subst k3
    by_cases c1 : 0 ≤ l
    · have d1 : decide (0 ≤ l) = true := by simp; omega
      by_cases c2 : l ≤ 1
      · have d2 : decide (l ≤ 1) = true := by simp; omega
        by_cases c3 : n ≤ 64
        · have d3 : decide ((n : Int) ≤ 64) = true := by simp; omega
          have hr : prRight 3 l n = true := by unfold prRight; (repeat' split) <;> first | (exfalso; omega) | rfl | (simp; omega) | simp
          have hv : prHead 3 l = 4 + l := by unfold prHead; (repeat' split) <;> first | (exfalso; omega) | rfl | (simp; omega) | simp
          rw [hr, if_pos rfl, hv]
          clear hr hv
          go_enter Try.func17, Try.ntmps17
          go_wp2
          go_ret2
          exact ⟨rfl, (Below.refl _ _).alloc (Nat.le_refl _) _⟩
        · have d3 : decide ((n : Int) ≤ 64) = false := by simp; omega
          have hr : prRight 3 l n = false := by unfold prRight; (repeat' split) <;> first | (exfalso; omega) | rfl | (simp; omega) | simp
          rw [hr, if_neg (by decide)]
          clear hr
          go_enter Try.func17, Try.ntmps17
          go_wp2
          go_ret2
          exact ⟨rfl, (Below.refl _ _).alloc (Nat.le_refl _) _⟩
      · have d2 : decide (l ≤ 1) = false := by simp; omega
        have hr : prRight 3 l n = false := by unfold prRight; (repeat' split) <;> first | (exfalso; omega) | rfl | (simp; omega) | simp
        rw [hr, if_neg (by decide)]
        clear hr
        go_enter Try.func17, Try.ntmps17
        go_wp2
        go_ret2
        exact ⟨rfl, (Below.refl _ _).alloc (Nat.le_refl _) _⟩
    · have d1 : decide (0 ≤ l) = false := by simp; omega
      have hr : prRight 3 l n = false := by unfold prRight; (repeat' split) <;> first | (exfalso; omega) | rfl | (simp; omega) | simp
      rw [hr, if_neg (by decide)]
      clear hr
      go_enter Try.func17, Try.ntmps17
      go_wp2
      go_ret2
      exact ⟨rfl, (Below.refl _ _).alloc (Nat.le_refl _) _⟩
  by_cases k4 : k = 4
  · subst k4
    by_cases c1 : 0 ≤ l
    · have d1 : decide (0 ≤ l) = true := by simp; omega
      by_cases c2 : l ≤ 1
      · have d2 : decide (l ≤ 1) = true := by simp; omega
        by_cases c3 : n ≤ 0
        · have d3 : decide ((n : Int) ≤ 0) = true := by simp; omega
          obtain rfl : n = 0 := by omega
          have hr : prRight 4 l 0 = true := by unfold prRight; (repeat' split) <;> first | (exfalso; omega) | rfl | (simp; omega) | simp
          have hv : prHead 4 l = 6 + l := by unfold prHead; (repeat' split) <;> first | (exfalso; omega) | rfl | (simp; omega) | simp
          rw [hr, if_pos rfl, hv]
          clear hr hv
          go_enter Try.func17, Try.ntmps17
          go_wp2
          go_ret2
          exact ⟨rfl, (Below.refl _ _).alloc (Nat.le_refl _) _⟩
        · have d3 : decide ((n : Int) ≤ 0) = false := by simp; omega
          have d4 : ((n : Int) == 0) = false := by simp; omega
          have hr : prRight 4 l n = false := by unfold prRight; (repeat' split) <;> first | (exfalso; omega) | rfl | (simp; omega) | simp
          rw [hr, if_neg (by decide)]
          clear hr
          go_enter Try.func17, Try.ntmps17
          go_wp2
          go_ret2
          exact ⟨rfl, (Below.refl _ _).alloc (Nat.le_refl _) _⟩
      · have d2 : decide (l ≤ 1) = false := by simp; omega
        have hr : prRight 4 l n = false := by unfold prRight; (repeat' split) <;> first | (exfalso; omega) | rfl | (simp; omega) | simp
        rw [hr, if_neg (by decide)]
        clear hr
        go_enter Try.func17, Try.ntmps17
        go_wp2
        go_ret2
        exact ⟨rfl, (Below.refl _ _).alloc (Nat.le_refl _) _⟩
    · have d1 : decide (0 ≤ l) = false := by simp; omega
      have hr : prRight 4 l n = false := by unfold prRight; (repeat' split) <;> first | (exfalso; omega) | rfl | (simp; omega) | simp
      rw [hr, if_neg (by decide)]
      clear hr
      go_enter Try.func17, Try.ntmps17
      go_wp2
      go_ret2
      exact ⟨rfl, (Below.refl _ _).alloc (Nat.le_refl _) _⟩
  by_cases k0 : k = 0
  · subst k0
    by_cases c1 : 0 ≤ l
    · have d1 : decide (0 ≤ l) = true := by simp; omega
      by_cases c2 : l ≤ 0
      · have d2 : decide (l ≤ 0) = true := by simp; omega
        by_cases c3 : n ≤ 0
        · have d3 : decide ((n : Int) ≤ 0) = true := by simp; omega
          obtain rfl : n = 0 := by omega
          obtain rfl : l = 0 := by omega
          have hr : prRight 0 0 0 = true := by unfold prRight; (repeat' split) <;> first | (exfalso; omega) | rfl | (simp; omega) | simp
          have hv : prHead 0 0 = 0 := by unfold prHead; (repeat' split) <;> first | (exfalso; omega) | rfl | (simp; omega) | simp
          rw [hr, if_pos rfl, hv]
          clear hr hv
          go_enter Try.func17, Try.ntmps17
          go_wp2
          go_ret2
          exact ⟨rfl, (Below.refl _ _).alloc (Nat.le_refl _) _⟩
        · have d3 : decide ((n : Int) ≤ 0) = false := by simp; omega
          have d4 : ((n : Int) == 0) = false := by simp; omega
          have hr : prRight 0 l n = false := by unfold prRight; (repeat' split) <;> first | (exfalso; omega) | rfl | (simp; omega) | simp
          rw [hr, if_neg (by decide)]
          clear hr
          go_enter Try.func17, Try.ntmps17
          go_wp2
          go_ret2
          exact ⟨rfl, (Below.refl _ _).alloc (Nat.le_refl _) _⟩
      · have d2 : decide (l ≤ 0) = false := by simp; omega
        have hr : prRight 0 l n = false := by unfold prRight; (repeat' split) <;> first | (exfalso; omega) | rfl | (simp; omega) | simp
        rw [hr, if_neg (by decide)]
        clear hr
        go_enter Try.func17, Try.ntmps17
        go_wp2
        go_ret2
        exact ⟨rfl, (Below.refl _ _).alloc (Nat.le_refl _) _⟩
    · have d1 : decide (0 ≤ l) = false := by simp; omega
      have hr : prRight 0 l n = false := by unfold prRight; (repeat' split) <;> first | (exfalso; omega) | rfl | (simp; omega) | simp
      rw [hr, if_neg (by decide)]
      clear hr
      go_enter Try.func17, Try.ntmps17
      go_wp2
      go_ret2
      exact ⟨rfl, (Below.refl _ _).alloc (Nat.le_refl _) _⟩
  by_cases k1 : k = 1
  · subst k1
    by_cases c1 : 0 ≤ l
    · have d1 : decide (0 ≤ l) = true := by simp; omega
      by_cases c2 : l ≤ 0
      · have d2 : decide (l ≤ 0) = true := by simp; omega
        by_cases c3 : n ≤ 0
        · have d3 : decide ((n : Int) ≤ 0) = true := by simp; omega
          obtain rfl : n = 0 := by omega
          obtain rfl : l = 0 := by omega
          have hr : prRight 1 0 0 = true := by unfold prRight; (repeat' split) <;> first | (exfalso; omega) | rfl | (simp; omega) | simp
          have hv : prHead 1 0 = 1 := by unfold prHead; (repeat' split) <;> first | (exfalso; omega) | rfl | (simp; omega) | simp
          rw [hr, if_pos rfl, hv]
          clear hr hv
          go_enter Try.func17, Try.ntmps17
          go_wp2
          go_ret2
          exact ⟨rfl, (Below.refl _ _).alloc (Nat.le_refl _) _⟩
        · have d3 : decide ((n : Int) ≤ 0) = false := by simp; omega
          have d4 : ((n : Int) == 0) = false := by simp; omega
          have hr : prRight 1 l n = false := by unfold prRight; (repeat' split) <;> first | (exfalso; omega) | rfl | (simp; omega) | simp
          rw [hr, if_neg (by decide)]
          clear hr
          go_enter Try.func17, Try.ntmps17
          go_wp2
          go_ret2
          exact ⟨rfl, (Below.refl _ _).alloc (Nat.le_refl _) _⟩
      · have d2 : decide (l ≤ 0) = false := by simp; omega
        have hr : prRight 1 l n = false := by unfold prRight; (repeat' split) <;> first | (exfalso; omega) | rfl | (simp; omega) | simp
        rw [hr, if_neg (by decide)]
        clear hr
        go_enter Try.func17, Try.ntmps17
        go_wp2
        go_ret2
        exact ⟨rfl, (Below.refl _ _).alloc (Nat.le_refl _) _⟩
    · have d1 : decide (0 ≤ l) = false := by simp; omega
      have hr : prRight 1 l n = false := by unfold prRight; (repeat' split) <;> first | (exfalso; omega) | rfl | (simp; omega) | simp
      rw [hr, if_neg (by decide)]
      clear hr
      go_enter Try.func17, Try.ntmps17
      go_wp2
      go_ret2
      exact ⟨rfl, (Below.refl _ _).alloc (Nat.le_refl _) _⟩
  by_cases k2 : k = 2
  · subst k2
    by_cases c1 : 0 ≤ l
    · have d1 : decide (0 ≤ l) = true := by simp; omega
      by_cases c2 : l ≤ 0
      · have d2 : decide (l ≤ 0) = true := by simp; omega
        by_cases c3 : n ≤ 0
        · have d3 : decide ((n : Int) ≤ 0) = true := by simp; omega
          obtain rfl : n = 0 := by omega
          obtain rfl : l = 0 := by omega
          have hr : prRight 2 0 0 = true := by unfold prRight; (repeat' split) <;> first | (exfalso; omega) | rfl | (simp; omega) | simp
          have hv : prHead 2 0 = 2 := by unfold prHead; (repeat' split) <;> first | (exfalso; omega) | rfl | (simp; omega) | simp
          rw [hr, if_pos rfl, hv]
          clear hr hv
          go_enter Try.func17, Try.ntmps17
          go_wp2
          go_ret2
          exact ⟨rfl, (Below.refl _ _).alloc (Nat.le_refl _) _⟩
        · have d3 : decide ((n : Int) ≤ 0) = false := by simp; omega
          have d4 : ((n : Int) == 0) = false := by simp; omega
          have hr : prRight 2 l n = false := by unfold prRight; (repeat' split) <;> first | (exfalso; omega) | rfl | (simp; omega) | simp
          rw [hr, if_neg (by decide)]
          clear hr
          go_enter Try.func17, Try.ntmps17
          go_wp2
          go_ret2
          exact ⟨rfl, (Below.refl _ _).alloc (Nat.le_refl _) _⟩
      · have d2 : decide (l ≤ 0) = false := by simp; omega
        have hr : prRight 2 l n = false := by unfold prRight; (repeat' split) <;> first | (exfalso; omega) | rfl | (simp; omega) | simp
        rw [hr, if_neg (by decide)]
        clear hr
        go_enter Try.func17, Try.ntmps17
        go_wp2
        go_ret2
        exact ⟨rfl, (Below.refl _ _).alloc (Nat.le_refl _) _⟩
    · have d1 : decide (0 ≤ l) = false := by simp; omega
      have hr : prRight 2 l n = false := by unfold prRight; (repeat' split) <;> first | (exfalso; omega) | rfl | (simp; omega) | simp
      rw [hr, if_neg (by decide)]
      clear hr
      go_enter Try.func17, Try.ntmps17
      go_wp2
      go_ret2
      exact ⟨rfl, (Below.refl _ _).alloc (Nat.le_refl _) _⟩
  have e3 : (k == 3) = false := by simpa using k3
  have e4 : (k == 4) = false := by simpa using k4
  have e0 : (k == 0) = false := by simpa using k0
  have e1 : (k == 1) = false := by simpa using k1
  have e2 : (k == 2) = false := by simpa using k2
  have hr : prRight k l n = false := by unfold prRight; (repeat' split) <;> first | (exfalso; omega) | rfl | (simp; omega) | simp
  rw [hr, if_neg (by decide)]
  clear hr
  go_enter Try.func17, Try.ntmps17
  go_wp2
  go_ret2
  exact ⟨rfl, (Below.refl _ _).alloc (Nat.le_refl _) _⟩
/-- what a header tells, as told answers it: of what no packet begins with -1 and 0 -/
def prToldK (h : Nat) : Int := if h = 3 ∨ 8 ≤ h then -1 else prKind h
def prToldL (h : Nat) : Int := if h = 3 ∨ 8 ≤ h then 0 else prLabel h
set_option maxHeartbeats 8000000 in
theorem prtold_any (h : Nat) (hh : h < 256) (w : World) :
    Calls Try.prog 20 #[.int .u8 h] w fun e w' => e = .returned (.tuple #[.int .i64 (prToldK h), .int .i64 (prToldL h)]) ∧ w = w' := by
  by_cases k5 : h = 5
  · subst k5
    rw [show prToldK 5 = 3 by decide, show prToldL 5 = 1 by decide]
    go_enter Try.func20, Try.ntmps20
    go_wp2
    go_ret2
    exact ⟨rfl, rfl⟩
  by_cases k4 : h = 4
  · subst k4
    rw [show prToldK 4 = 3 by decide, show prToldL 4 = 0 by decide]
    go_enter Try.func20, Try.ntmps20
    go_wp2
    go_ret2
    exact ⟨rfl, rfl⟩
  by_cases k7 : h = 7
  · subst k7
    rw [show prToldK 7 = 4 by decide, show prToldL 7 = 1 by decide]
    go_enter Try.func20, Try.ntmps20
    go_wp2
    go_ret2
    exact ⟨rfl, rfl⟩
  by_cases k6 : h = 6
  · subst k6
    rw [show prToldK 6 = 4 by decide, show prToldL 6 = 0 by decide]
    go_enter Try.func20, Try.ntmps20
    go_wp2
    go_ret2
    exact ⟨rfl, rfl⟩
  by_cases k0 : h = 0
  · subst k0
    rw [show prToldK 0 = 0 by decide, show prToldL 0 = 0 by decide]
    go_enter Try.func20, Try.ntmps20
    go_wp2
    go_ret2
    exact ⟨rfl, rfl⟩
  by_cases k1 : h = 1
  · subst k1
    rw [show prToldK 1 = 1 by decide, show prToldL 1 = 0 by decide]
    go_enter Try.func20, Try.ntmps20
    go_wp2
    go_ret2
    exact ⟨rfl, rfl⟩
  by_cases k2 : h = 2
  · subst k2
    rw [show prToldK 2 = 2 by decide, show prToldL 2 = 0 by decide]
    go_enter Try.func20, Try.ntmps20
    go_wp2
    go_ret2
    exact ⟨rfl, rfl⟩
  have hx : h = 3 ∨ 8 ≤ h := by omega
  have r1 : prToldK h = -1 := by unfold prToldK; rw [if_pos hx]
  have r2 : prToldL h = 0 := by unfold prToldL; rw [if_pos hx]
  rw [r1, r2]
  have e5 : ((h : Int) == 5) = false := by simp; omega
  have e4 : ((h : Int) == 4) = false := by simp; omega
  have e7 : ((h : Int) == 7) = false := by simp; omega
  have e6 : ((h : Int) == 6) = false := by simp; omega
  have e0 : ((h : Int) == 0) = false := by simp; omega
  have e1 : ((h : Int) == 1) = false := by simp; omega
  have e2 : ((h : Int) == 2) = false := by simp; omega
  clear r1 r2 hx
  go_enter Try.func20, Try.ntmps20
  go_wp2
  go_ret2
  exact ⟨rfl, rfl⟩
end Go.Proofs.Ytoaccikhklfeiaa
