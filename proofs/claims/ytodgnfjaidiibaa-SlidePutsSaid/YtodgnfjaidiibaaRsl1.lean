/- What kedgeref14.Right answers. -/
import Derived.Test.YtodgnfjaidiibaaSlideM
import Derived.Test.YtodgnfjaidiibaaResD
namespace Go.Proofs.Ytodgnfjaidiibaa
open Go.RowKit
set_option maxRecDepth 20000

set_option maxHeartbeats 4000000 in
theorem rslright_any (a : Bool) (s : Int) (u : Nat) (A : Option Addr) (n c : Nat) (m : Int) (w : World) :
    Calls Try.prog 19 #[.agg #[.bool a, .int .i64 s, .int .u64 (u : Int), .slice A n c], .int .i64 m] w fun e w' => e = .returned (.bool (slRight a s u n m)) ∧ Below w.heap.size w w' := by
  by_cases h1 : s < 0
  · have d1 : decide (s < 0) = true := by simp; omega
    have hr : slRight a s u n m = false := by unfold slRight; (repeat' split) <;> first | (exfalso; omega) | rfl | (simp; omega) | (simp at *; done) | (simp at *; omega)
    rw [hr]
    clear hr
    go_enter Try.func19, Try.ntmps19
    go_wp2
    go_ret
    exact ⟨rfl, (Below.refl _ _).alloc (Nat.le_refl _) _⟩
  have d1 : decide (s < 0) = false := by simp; omega
  by_cases h2 : m ≤ s
  · have d2 : decide (m ≤ s) = true := by simp; omega
    have hr : slRight a s u n m = false := by unfold slRight; (repeat' split) <;> first | (exfalso; omega) | rfl | (simp; omega) | (simp at *; done) | (simp at *; omega)
    rw [hr]
    clear hr
    go_enter Try.func19, Try.ntmps19
    go_wp2
    go_ret
    exact ⟨rfl, (Below.refl _ _).alloc (Nat.le_refl _) _⟩
  have d2 : decide (m ≤ s) = false := by simp; omega
  cases a
  · by_cases c1 : u = 0
    · subst c1
      by_cases c2 : n ≤ 64
      · have d3 : decide ((n : Int) ≤ 64) = true := by simp; omega
        have hr : slRight false s 0 n m = true := by unfold slRight; (repeat' split) <;> first | (exfalso; omega) | rfl | (simp; omega) | (simp at *; done) | (simp at *; omega)
        rw [hr]
        clear hr
        go_enter Try.func19, Try.ntmps19
        go_wp2
        go_ret
        exact ⟨rfl, (Below.refl _ _).alloc (Nat.le_refl _) _⟩
      · have d3 : decide ((n : Int) ≤ 64) = false := by simp; omega
        have hr : slRight false s 0 n m = false := by unfold slRight; (repeat' split) <;> first | (exfalso; omega) | rfl | (simp; omega) | (simp at *; done) | (simp at *; omega)
        rw [hr]
        clear hr
        go_enter Try.func19, Try.ntmps19
        go_wp2
        go_ret
        exact ⟨rfl, (Below.refl _ _).alloc (Nat.le_refl _) _⟩
    · have d3 : ((u : Int) == 0) = false := by simp; omega
      have hr : slRight false s u n m = false := by unfold slRight; (repeat' split) <;> first | (exfalso; omega) | rfl | (simp; omega) | (simp at *; done) | (simp at *; omega)
      rw [hr]
      clear hr
      go_enter Try.func19, Try.ntmps19
      go_wp2
      go_ret
      exact ⟨rfl, (Below.refl _ _).alloc (Nat.le_refl _) _⟩
  · by_cases c1 : n = 0
    · subst c1
      have hr : slRight true s u 0 m = true := by unfold slRight; (repeat' split) <;> first | (exfalso; omega) | rfl | (simp; omega) | (simp at *; done) | (simp at *; omega)
      rw [hr]
      clear hr
      go_enter Try.func19, Try.ntmps19
      go_wp2
      go_ret
      exact ⟨rfl, (Below.refl _ _).alloc (Nat.le_refl _) _⟩
    · have d3 : ((n : Int) == 0) = false := by simp; omega
      have hr : slRight true s u n m = false := by unfold slRight; (repeat' split) <;> first | (exfalso; omega) | rfl | (simp; omega) | (simp at *; done) | (simp at *; omega)
      rw [hr]
      clear hr
      go_enter Try.func19, Try.ntmps19
      go_wp2
      go_ret
      exact ⟨rfl, (Below.refl _ _).alloc (Nat.le_refl _) _⟩
end Go.Proofs.Ytodgnfjaidiibaa
