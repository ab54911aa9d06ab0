/- Package ring by its contracts; the walks of layer 22's four laws over them. -/
import Derived.Test.YtpidbgnlehikeaaRrg
import Derived.Test.YtpidbgnlehikeaaFresh
import Derived.Deep.RegionHeld3
namespace Go.Proofs.Ytpidbgnlehikeaa
open Go.RowKit
set_option maxRecDepth 20000

/-- what package ring answers, in plain words -/
structure RgC : Prop where
  check : ∀ (w m l : Int) (W : World), J64 w → J64 m → J64 l → Calls Try.prog 21 #[.int .i64 w, .int .i64 m, .int .i64 l] W fun e w' => e = .returned (.int .i64 (rgCheck w m l)) ∧ Below W.heap.size W w'
  mod : ∀ (p m : Int) (W : World), J64 p → J64 m → Calls Try.prog 43 #[.int .i64 p, .int .i64 m] W fun e w' => e = .returned (.int .i64 (rgMod p m)) ∧ Below W.heap.size W w'
  near : ∀ (base span seq m : Int) (W : World), J64 base → J64 span → J64 seq → J64 m → Calls Try.prog 40 #[.int .i64 base, .int .i64 span, .int .i64 seq, .int .i64 m] W fun e w' => e = .returned (.tuple #[.int .i64 ((rgNear base span seq m).getD 0), .bool (rgNear base span seq m).isSome]) ∧ Below W.heap.size W w'
theorem one_row22 {w w1 : World} {a : Obj} (T : Below (w.alloc a).heap.size (w.alloc a) w1) : w1.heap[w.heap.size]? = some a :=
  (T.block _ (by simp)).trans (heap_alloc_new w _)
theorem rgCheck_zero {w m l : Int} (h : rgCheck w m l = 0) : (1 ≤ l ∧ l ≤ 4096) ∧ (1 ≤ w ∧ w ≤ 64) ∧ 2 * (w + l) < m ∧ m ≤ 65536 := by
  unfold rgCheck at h
  split at h
  · omega
  · split at h
    · omega
    · split at h
      · omega
      · omega
end Go.Proofs.Ytpidbgnlehikeaa
