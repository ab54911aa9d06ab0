/- What kedgeref01.Copy answers. -/
import Derived.Test.YtoajbocpebfjoaaFresh
namespace Go.Proofs.Ytoajbocpebfjoaa
open Go.RowKit
set_option maxRecDepth 20000

/-- A call's end that makes a row of bytes of its own. -/
def GivesW (w : World) (l : List UInt8) (e : Ending) (w' : World) : Prop :=
  ∃ v, e = .returned v ∧ w'.ownsRow w.heap.size 5 1 v l.length (bvs l) ∧ Below w.heap.size w w'
theorem empty_row (w : World) : (w.alloc (.cells #[] 5)).ownsRow w.heap.size 5 1 (.slice (some ⟨w.heap.size, 0, none⟩) 0 0) 0 [] := World.ownsRow_made w #[] 0 (Nat.le_refl _) (Nat.zero_le _) rfl
set_option maxHeartbeats 1000000 in
theorem rcopy_any (A : Option Addr) (n c : Nat) (l : List UInt8) (w : World) (hB : Bys w A n c l) (hn : n ≤ 140737488355328) :
    Calls Try.prog 44 #[.slice A n c] w (GivesW w l) := by
  have hE := empty_row w
  have hB2 := hB.alloc (.cells #[] 5)
  have hl := hB.len
  have HE := Lib.hid hE
  have HB := Lib.hid hB2
  have HL := Lib.hid hl
  clear hE hB2 hl hB
  go_enter Try.func44, Try.ntmps44
  go_wp2_with ((with_reducible refine app_bys _ rfl (.tmp 3) (.tmp 4) rfl w.heap.size (.slice (some ⟨w.heap.size, 0, none⟩) 0 0) 0 [] rfl ?_ A n c l rfl ?_ ?_ ?_ ?_); (exact HE.out); (exact HB.out); (omega); (simp); intro v1 w1 hown1 hgrow1 hwhere1)
  go_ret
  simp only [Nat.zero_add, List.nil_append] at hown1
  refine ⟨_, rfl, ?_, ((Below.refl _ w).alloc (Nat.le_refl _) _).grown hgrow1 (by simp) (by intro k hk; simp [Value.ownBlock] at hk; omega)⟩
  rw [HL.out]
  exact hown1
end Go.Proofs.Ytoajbocpebfjoaa
