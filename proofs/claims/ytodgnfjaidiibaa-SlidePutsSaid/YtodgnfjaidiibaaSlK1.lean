/- What slide.modulus, right, Same answer (landed code at 7086a58). -/
import Derived.Test.YtodgnfjaidiibaaRsl4
import Derived.Test.YtodgnfjaidiibaaOsame
namespace Go.Proofs.Ytodgnfjaidiibaa
open Go.RowKit
set_option maxRecDepth 20000

set_option maxHeartbeats 1000000 in
theorem slmod_any (m : Int) (w : World) :
    Calls Try.prog 15 #[.int .i64 m] w fun e w' => e = .returned (.bool (decide (1 ≤ m ∧ m ≤ 65536))) ∧ w = w' := by
  by_cases h1 : 1 ≤ m
  · have d1 : decide (1 ≤ m) = true := by simp; omega
    by_cases h2 : m ≤ 65536
    · have d2 : decide (m ≤ 65536) = true := by simp; omega
      rw [show decide (1 ≤ m ∧ m ≤ 65536) = true by simp; omega]
      go_enter Try.func15, Try.ntmps15
      go_wp2
      go_ret
      exact ⟨rfl, rfl⟩
    · have d2 : decide (m ≤ 65536) = false := by simp; omega
      rw [show decide (1 ≤ m ∧ m ≤ 65536) = false by simp; omega]
      go_enter Try.func15, Try.ntmps15
      go_wp2
      go_ret
      exact ⟨rfl, rfl⟩
  · have d1 : decide (1 ≤ m) = false := by simp; omega
    rw [show decide (1 ≤ m ∧ m ≤ 65536) = false by simp; omega]
    go_enter Try.func15, Try.ntmps15
    go_wp2
    go_ret
    exact ⟨rfl, rfl⟩
set_option maxHeartbeats 4000000 in
theorem slright_any (a : Bool) (s : Int) (u : Nat) (A : Option Addr) (n c : Nat) (m : Int) (w : World) :
    Calls Try.prog 16 #[.agg #[.bool a, .int .i64 s, .int .u64 (u : Int), .slice A n c], .int .i64 m] w fun e w' => e = .returned (.bool (slRight a s u n m)) ∧ Below w.heap.size w w' := by
  by_cases h1 : s < 0
  · have d1 : decide (s < 0) = true := by simp; omega
    have hr : slRight a s u n m = false := by unfold slRight; (repeat' split) <;> first | (exfalso; omega) | rfl | (simp; omega) | (simp at *; done) | (simp at *; omega)
    rw [hr]
    clear hr
    go_enter Try.func16, Try.ntmps16
    go_wp2
    go_ret
    exact ⟨rfl, (Below.refl _ _).alloc (Nat.le_refl _) _⟩
  have d1 : decide (s < 0) = false := by simp; omega
  by_cases h2 : m ≤ s
  · have d2 : decide (m ≤ s) = true := by simp; omega
    have hr : slRight a s u n m = false := by unfold slRight; (repeat' split) <;> first | (exfalso; omega) | rfl | (simp; omega) | (simp at *; done) | (simp at *; omega)
    rw [hr]
    clear hr
    go_enter Try.func16, Try.ntmps16
    go_wp2
    go_ret
    exact ⟨rfl, (Below.refl _ _).alloc (Nat.le_refl _) _⟩
  have d2 : decide (m ≤ s) = false := by simp; omega
  cases a
  · by_cases c1 : u = 0
    · subst c1
      by_cases c2 : n ≤ 64
      · have d3 : decide ((n : Int) ≤ 64) = true := by simp; omega
        have hr : slRight false s 0 n m = true := by unfold slRight; (repeat' split) <;> first | (exfalso; omega) | rfl | (simp; omega) | (simp at *; done) | (simp at *; omega)
        rw [hr]
        clear hr
        go_enter Try.func16, Try.ntmps16
        go_wp2
        go_ret
        exact ⟨rfl, (Below.refl _ _).alloc (Nat.le_refl _) _⟩
      · have d3 : decide ((n : Int) ≤ 64) = false := by simp; omega
        have hr : slRight false s 0 n m = false := by unfold slRight; (repeat' split) <;> first | (exfalso; omega) | rfl | (simp; omega) | (simp at *; done) | (simp at *; omega)
        rw [hr]
        clear hr
        go_enter Try.func16, Try.ntmps16
        go_wp2
        go_ret
        exact ⟨rfl, (Below.refl _ _).alloc (Nat.le_refl _) _⟩
    · have d3 : ((u : Int) == 0) = false := by simp; omega
      have hr : slRight false s u n m = false := by unfold slRight; (repeat' split) <;> first | (exfalso; omega) | rfl | (simp; omega) | (simp at *; done) | (simp at *; omega)
      rw [hr]
      clear hr
      go_enter Try.func16, Try.ntmps16
      go_wp2
      go_ret
      exact ⟨rfl, (Below.refl _ _).alloc (Nat.le_refl _) _⟩
  · by_cases c1 : n = 0
    · subst c1
      have hr : slRight true s u 0 m = true := by unfold slRight; (repeat' split) <;> first | (exfalso; omega) | rfl | (simp; omega) | (simp at *; done) | (simp at *; omega)
      rw [hr]
      clear hr
      go_enter Try.func16, Try.ntmps16
      go_wp2
      go_ret
      exact ⟨rfl, (Below.refl _ _).alloc (Nat.le_refl _) _⟩
    · have d3 : ((n : Int) == 0) = false := by simp; omega
      have hr : slRight true s u n m = false := by unfold slRight; (repeat' split) <;> first | (exfalso; omega) | rfl | (simp; omega) | (simp at *; done) | (simp at *; omega)
      rw [hr]
      clear hr
      go_enter Try.func16, Try.ntmps16
      go_wp2
      go_ret
      exact ⟨rfl, (Below.refl _ _).alloc (Nat.le_refl _) _⟩
set_option maxHeartbeats 4000000 in
theorem slsame_any (a : Bool) (s : Int) (u : Nat) (A : Option Addr) (n c : Nat) (d : List UInt8) (a' : Bool) (s' : Int) (u' : Nat) (A' : Option Addr) (n' c' : Nat) (d' : List UInt8) (w : World) (hB : Bys w A n c d) (hB' : Bys w A' n' c' d') :
    Calls Try.prog 14 #[.agg #[.bool a, .int .i64 s, .int .u64 (u : Int), .slice A n c], .agg #[.bool a', .int .i64 s', .int .u64 (u' : Int), .slice A' n' c']] w fun e w' => e = .returned (.bool (slSame a s u d a' s' u' d')) ∧ Below w.heap.size w w' := by
  have T0 : Below w.heap.size w ((w.alloc (.cells #[.bool a, .int .i64 s, .int .u64 (u : Int), .slice A n c] 25)).alloc (.cells #[.bool a', .int .i64 s', .int .u64 (u' : Int), .slice A' n' c'] 25)) := ((Below.refl _ w).alloc (Nat.le_refl _) _).alloc (by simp) _
  by_cases h1 : a = a'
  · subst h1
    have e1 : (a == a) = true := by simp
    by_cases h2 : s = s'
    · subst h2
      have e2 : (s == s) = true := by simp
      by_cases h3 : u = u'
      · subst h3
        have e3 : ((u : Int) == (u : Int)) = true := by simp
        have HS := Lib.hid (fun W (h : Below w.heap.size w W) => equal_any A A' n c n' c' d d' W (hB.below h) (hB'.below h))
        have hr : slSame a s u d a s u d' = sameB d d' := by unfold slSame sameB; simp
        rw [hr]
        have HT := Lib.hid T0
        clear hB hB' hr T0
        go_enter Try.func14, Try.ntmps14
        go_wp2_with (fail)
        refine (HS.out _ HT.out).mono ?_
        rintro e w1 ⟨rfl, rfl⟩
        go_wp2
        go_ret
        exact ⟨rfl, HT.out⟩
      · have e3 : ((u : Int) == (u' : Int)) = false := by simp; omega
        have hr : slSame a s u d a s u' d' = false := by unfold slSame; simp [h3]
        rw [hr]
        clear hB hB' hr
        go_enter Try.func14, Try.ntmps14
        go_wp2
        go_ret
        exact ⟨rfl, T0⟩
    · have e2 : (s == s') = false := by simpa using h2
      have hr : slSame a s u d a s' u' d' = false := by unfold slSame; simp [h2]
      rw [hr]
      clear hB hB' hr
      go_enter Try.func14, Try.ntmps14
      go_wp2
      go_ret
      exact ⟨rfl, T0⟩
  · have e1 : (a == a') = false := by simpa using h1
    have hr : slSame a s u d a' s' u' d' = false := by unfold slSame; simp [h1]
    rw [hr]
    clear hB hB' hr
    go_enter Try.func14, Try.ntmps14
    go_wp2
    go_ret
    exact ⟨rfl, T0⟩
end Go.Proofs.Ytodgnfjaidiibaa
