/- What kedgeref13.Get answers of any bytes; Same. -/
import Derived.Test.YtpdnpfohcnpenaaRpr3
namespace Go.Proofs.Ytpdnpfohcnpenaa
open Go.RowKit
set_option maxRecDepth 20000

/-- whether two packets are the same -/
def prSame (k l : Int) (d : List UInt8) (k' l' : Int) (d' : List UInt8) : Bool := decide (k = k' ∧ l = l' ∧ d = d')
theorem prSame_self (k l : Int) (d : List UInt8) : prSame k l d k l d = true := by simp [prSame]
set_option maxHeartbeats 4000000 in
theorem rpsame_any (k l : Int) (A : Option Addr) (n c : Nat) (d : List UInt8) (k' l' : Int) (A' : Option Addr) (n' c' : Nat) (d' : List UInt8) (w : World) (hB : Bys w A n c d) (hB' : Bys w A' n' c' d') :
    Calls Try.prog 28 #[.agg #[.int .i64 k, .int .i64 l, .slice A n c], .agg #[.int .i64 k', .int .i64 l', .slice A' n' c']] w fun e w' => e = .returned (.bool (prSame k l d k' l' d')) ∧ Below w.heap.size w w' := by
  have T0 : Below w.heap.size w ((w.alloc (.cells #[.int .i64 k, .int .i64 l, .slice A n c] 36)).alloc (.cells #[.int .i64 k', .int .i64 l', .slice A' n' c'] 36)) := ((Below.refl _ w).alloc (Nat.le_refl _) _).alloc (by simp) _
  by_cases h1 : k = k'
  · subst h1
    have e1 : (k == k) = true := by simp
    by_cases h2 : l = l'
    · subst h2
      have e2 : (l == l) = true := by simp
      have HS := Lib.hid (fun W (h : Below w.heap.size w W) => same_any A A' n c n' c' d d' W (hB.below h) (hB'.below h))
      have hr : prSame k l d k l d' = sameB d d' := by unfold prSame sameB; simp
      rw [hr]
      have HT := Lib.hid T0
      clear hB hB' hr T0
      go_enter Try.func28, Try.ntmps28
      go_wp2_with (fail)
      refine (HS.out _ HT.out).mono ?_
      rintro e w1 ⟨rfl, q, rfl⟩
      go_wp2
      go_ret
      exact ⟨rfl, below_drewN' HT.out _⟩
    · have e2 : (l == l') = false := by simpa using h2
      have hr : prSame k l d k l' d' = false := by unfold prSame; simp [h2]
      rw [hr]
      clear hB hB' hr
      go_enter Try.func28, Try.ntmps28
      go_wp2
      go_ret
      exact ⟨rfl, T0⟩
  · have e1 : (k == k') = false := by simpa using h1
    have hr : prSame k l d k' l' d' = false := by unfold prSame; simp [h1]
    rw [hr]
    clear hB hB' hr
    go_enter Try.func28, Try.ntmps28
    go_wp2
    go_ret
    exact ⟨rfl, T0⟩
end Go.Proofs.Ytpdnpfohcnpenaa
