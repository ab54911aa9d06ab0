/- What frame.Open and frame.Most answer. -/
import Derived.Test.YtjpmfomabofjpaaFrameK
import Derived.Test.YtjpmfomabofjpaaCutB
namespace Go.Proofs.Ytjpmfomabofjpaa
open Go.RowKit

theorem ends_facts (x y : UInt8) (m : List UInt8) : (x :: (m ++ [y])).length = m.length + 1 + 1 ∧ (x :: (m ++ [y]))[0]? = some x ∧ (x :: (m ++ [y]))[m.length + 1]? = some y ∧ ((x :: (m ++ [y])).take (m.length + 1)).drop 1 = m := by
  refine ⟨by simp, rfl, by simp, ?_⟩
  rw [List.take_succ_cons, List.take_left, List.drop_succ_cons, List.drop_zero]
theorem at_facts {w : World} {A : Option Addr} {c : Nat} {x y : UInt8} {m : List UInt8} (h : Bys w A (m.length + 1 + 1) c (x :: (m ++ [y]))) :
    ∃ b o, A = some ⟨b, o, none⟩ ∧ b < w.heap.size ∧ w.cell? ⟨b, o, none⟩ = some (.int .u8 (x.toNat : Int)) ∧ w.cell? ⟨b, o + (m.length + 1), none⟩ = some (.int .u8 (y.toNat : Int)) := by
  obtain ⟨b, o, e, hb, hc⟩ := h.at_ (by omega)
  have c0 := hc 0 (by simp)
  have c1 := hc (m.length + 1) (by simp)
  refine ⟨b, o, e, hb, by simpa using c0, ?_⟩
  rw [c1]
  simp

def mostZ (n : Int) : Int := if n < 0 ∨ 96 < n then 0 else 2 * (n + 4) + 2
end Go.Proofs.Ytjpmfomabofjpaa
