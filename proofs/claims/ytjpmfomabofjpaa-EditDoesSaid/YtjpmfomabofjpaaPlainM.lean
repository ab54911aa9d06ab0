/- Plain facts on which bytes stand for themselves, as values in memory. -/
import Derived.Test.YtjpmfomabofjpaaStuffM
import Derived.Test.YtjpmfomabofjpaaVals
namespace Go.Proofs.Ytjpmfomabofjpaa
open Go.RowKit

def plainV (l : List UInt8) (k : Nat) : List Value := (List.range k).map fun j => .bool (plainAt l j)
theorem plainV_succ (l : List UInt8) (k : Nat) : plainV l (k + 1) = plainV l k ++ [.bool (plainAt l k)] := by simp [plainV, List.range_succ]
theorem plainV_length (l : List UInt8) (k : Nat) : (plainV l k).length = k := by simp [plainV]
theorem plainV_set (l : List UInt8) (k n : Nat) (h : k < n) (b : Bool) (hb : plainAt l k = b) : (plainV l k ++ List.replicate (n - k) (Value.bool false)).set k (.bool b) = plainV l (k + 1) ++ List.replicate (n - (k + 1)) (.bool false) := by
  have e : n - k = (n - (k + 1)) + 1 := by omega
  rw [e, List.replicate_succ, List.set_append_right _ _ (by simp [plainV])]
  have : k - (plainV l k).length = 0 := by simp [plainV]
  rw [this, plainV_succ, hb]
  simp
theorem plainV_skip (l : List UInt8) (k n : Nat) (h : k < n) (hb : plainAt l k = false) : plainV l k ++ List.replicate (n - k) (Value.bool false) = plainV l (k + 1) ++ List.replicate (n - (k + 1)) (.bool false) := by
  have e : n - k = (n - (k + 1)) + 1 := by omega
  rw [e, List.replicate_succ, plainV_succ, hb]
  simp
theorem Try.infoB : (Try.prog.info? 4).map (fun i => (i.zero, i.size, i.bytes)) = some (some (.bool false), 1, 1) := by kernel_rfl
end Go.Proofs.Ytjpmfomabofjpaa
