/- What kedgeref15.Right answers. -/
import Derived.Test.YtabackggnkplhaaDoorTokenM
import Derived.Test.YtabackggnkplhaaDoorResD
namespace Go.Proofs.YtabackggnkplhaaDoor
open Go.RowKit
set_option maxRecDepth 20000

set_option maxHeartbeats 4000000 in
theorem rtkright_any (k : Int) (x y z : Nat) (A : Option Addr) (n c : Nat) (w : World) :
    Calls Tryd.prog 18 #[.agg #[.int .i64 k, .int .u64 (x : Int), .int .u64 (y : Int), .int .u64 (z : Int), .slice A n c]] w fun e w' => e = .returned (.bool (tkRight k y z n)) ∧ Below w.heap.size w w' := by
  by_cases h0 : k = 0
  · subst h0
    by_cases c1 : y = 0
    · subst c1
      by_cases c2 : z = 0
      · subst c2
        by_cases c3 : n = 0
        · subst c3
          have hr : tkRight 0 0 0 0 = true := by unfold tkRight; (repeat' split) <;> first | (exfalso; omega) | rfl | (simp; omega) | (simp at *; done) | (simp at *; omega)
          rw [hr]
          clear hr
          go_enter Tryd.func18, Tryd.ntmps18
          go_wp2
          go_ret
          exact ⟨rfl, (Below.refl _ _).alloc (Nat.le_refl _) _⟩
        · have d3 : ((n : Int) == 0) = false := by simp; omega
          have hr : tkRight 0 0 0 n = false := by unfold tkRight; (repeat' split) <;> first | (exfalso; omega) | rfl | (simp; omega) | (simp at *; done) | (simp at *; omega)
          rw [hr]
          clear hr
          go_enter Tryd.func18, Tryd.ntmps18
          go_wp2
          go_ret
          exact ⟨rfl, (Below.refl _ _).alloc (Nat.le_refl _) _⟩
      · have d2 : ((z : Int) == 0) = false := by simp; omega
        have hr : tkRight 0 0 z n = false := by unfold tkRight; (repeat' split) <;> first | (exfalso; omega) | rfl | (simp; omega) | (simp at *; done) | (simp at *; omega)
        rw [hr]
        clear hr
        go_enter Tryd.func18, Tryd.ntmps18
        go_wp2
        go_ret
        exact ⟨rfl, (Below.refl _ _).alloc (Nat.le_refl _) _⟩
    · have d1 : ((y : Int) == 0) = false := by simp; omega
      have hr : tkRight 0 y z n = false := by unfold tkRight; (repeat' split) <;> first | (exfalso; omega) | rfl | (simp; omega) | (simp at *; done) | (simp at *; omega)
      rw [hr]
      clear hr
      go_enter Tryd.func18, Tryd.ntmps18
      go_wp2
      go_ret
      exact ⟨rfl, (Below.refl _ _).alloc (Nat.le_refl _) _⟩
  have d0 : (k == 0) = false := by simp; omega
  by_cases h1 : k = 1
  · subst h1
    clear d0
    by_cases c3 : n = 0
    · subst c3
      have hr : tkRight 1 y z 0 = true := by unfold tkRight; (repeat' split) <;> first | (exfalso; omega) | rfl | (simp; omega) | (simp at *; done) | (simp at *; omega)
      rw [hr]
      clear hr
      go_enter Tryd.func18, Tryd.ntmps18
      go_wp2
      go_ret
      exact ⟨rfl, (Below.refl _ _).alloc (Nat.le_refl _) _⟩
    · have d3 : ((n : Int) == 0) = false := by simp; omega
      have hr : tkRight 1 y z n = false := by unfold tkRight; (repeat' split) <;> first | (exfalso; omega) | rfl | (simp; omega) | (simp at *; done) | (simp at *; omega)
      rw [hr]
      clear hr
      go_enter Tryd.func18, Tryd.ntmps18
      go_wp2
      go_ret
      exact ⟨rfl, (Below.refl _ _).alloc (Nat.le_refl _) _⟩
  have d1 : (k == 1) = false := by simp; omega
  by_cases h2 : k = 2
  · subst h2
    clear d0 d1
    by_cases c2 : z = 0
    · subst c2
      by_cases c3 : n ≤ 64
      · have d3 : decide ((n : Int) ≤ 64) = true := by simp; omega
        have hr : tkRight 2 y 0 n = true := by unfold tkRight; (repeat' split) <;> first | (exfalso; omega) | rfl | (simp; omega) | (simp at *; done) | (simp at *; omega)
        rw [hr]
        clear hr
        go_enter Tryd.func18, Tryd.ntmps18
        go_wp2
        go_ret
        exact ⟨rfl, (Below.refl _ _).alloc (Nat.le_refl _) _⟩
      · have d3 : decide ((n : Int) ≤ 64) = false := by simp; omega
        have hr : tkRight 2 y 0 n = false := by unfold tkRight; (repeat' split) <;> first | (exfalso; omega) | rfl | (simp; omega) | (simp at *; done) | (simp at *; omega)
        rw [hr]
        clear hr
        go_enter Tryd.func18, Tryd.ntmps18
        go_wp2
        go_ret
        exact ⟨rfl, (Below.refl _ _).alloc (Nat.le_refl _) _⟩
    · have d2 : ((z : Int) == 0) = false := by simp; omega
      have hr : tkRight 2 y z n = false := by unfold tkRight; (repeat' split) <;> first | (exfalso; omega) | rfl | (simp; omega) | (simp at *; done) | (simp at *; omega)
      rw [hr]
      clear hr
      go_enter Tryd.func18, Tryd.ntmps18
      go_wp2
      go_ret
      exact ⟨rfl, (Below.refl _ _).alloc (Nat.le_refl _) _⟩
  have d2 : (k == 2) = false := by simp; omega
  by_cases h3 : k = 3
  · subst h3
    clear d0 d1 d2
    by_cases c1 : y = 0
    · subst c1
      by_cases c3 : n = 0
      · subst c3
        have hr : tkRight 3 0 z 0 = true := by unfold tkRight; (repeat' split) <;> first | (exfalso; omega) | rfl | (simp; omega) | (simp at *; done) | (simp at *; omega)
        rw [hr]
        clear hr
        go_enter Tryd.func18, Tryd.ntmps18
        go_wp2
        go_ret
        exact ⟨rfl, (Below.refl _ _).alloc (Nat.le_refl _) _⟩
      · have d3 : ((n : Int) == 0) = false := by simp; omega
        have hr : tkRight 3 0 z n = false := by unfold tkRight; (repeat' split) <;> first | (exfalso; omega) | rfl | (simp; omega) | (simp at *; done) | (simp at *; omega)
        rw [hr]
        clear hr
        go_enter Tryd.func18, Tryd.ntmps18
        go_wp2
        go_ret
        exact ⟨rfl, (Below.refl _ _).alloc (Nat.le_refl _) _⟩
    · have d1 : ((y : Int) == 0) = false := by simp; omega
      have hr : tkRight 3 y z n = false := by unfold tkRight; (repeat' split) <;> first | (exfalso; omega) | rfl | (simp; omega) | (simp at *; done) | (simp at *; omega)
      rw [hr]
      clear hr
      go_enter Tryd.func18, Tryd.ntmps18
      go_wp2
      go_ret
      exact ⟨rfl, (Below.refl _ _).alloc (Nat.le_refl _) _⟩
  have d3 : (k == 3) = false := by simp; omega
  have hr : tkRight k y z n = false := by unfold tkRight; (repeat' split) <;> first | (exfalso; omega) | rfl | (simp; omega) | (simp at *; done) | (simp at *; omega)
  rw [hr]
  clear hr
  go_enter Tryd.func18, Tryd.ntmps18
  go_wp2
  go_ret
  exact ⟨rfl, (Below.refl _ _).alloc (Nat.le_refl _) _⟩
end Go.Proofs.YtabackggnkplhaaDoor
