/- The page's examples of layer 6. -/
import Derived.Test.YtjpmfomabofjpaaEdBetw
import Derived.Test.YtjpmfomabofjpaaEdD
import Derived.Test.YtjpmfomabofjpaaEdMild
import Derived.Test.YtjpmfomabofjpaaEdForge
namespace Go.Proofs.Ytjpmfomabofjpaa
open Go.RowKit

theorem do_live : edDo [1, 2, 3] [⟨1, 1, 9⟩, ⟨2, 3, 0⟩] = [1, 9, 2] := by decide +kernel
theorem mild_live1 : decide (edMild [0x7e, 1, 2, 0x7e] [⟨0, 1, 5⟩]) = true := by decide +kernel
theorem mild_live0 : decide (edMild [0x7e, 1, 2, 0x7e] [⟨0, 0, 5⟩]) = false := by decide +kernel

set_option maxHeartbeats 4000000 in
theorem live06_any (w : World) : Calls Try.prog 8 #[] w fun e w' => e = .returned (.bool true) ∧ Below w.heap.size w w' := by
  have HB3 : Hid (∀ (W : World) (g : Nat), W.heap.size = g → Bys (W.alloc (.cells #[.int .u8 1, .int .u8 2, .int .u8 3] 5)) (some ⟨g, 0, none⟩) 3 3 [1, 2, 3]) := fun W g h => by subst h; exact Bys.lit W [1, 2, 3] (by decide)
  have HB4 : Hid (∀ (W : World) (g : Nat), W.heap.size = g → Bys (W.alloc (.cells #[.int .u8 126, .int .u8 1, .int .u8 2, .int .u8 126] 5)) (some ⟨g, 0, none⟩) 4 4 [0x7e, 1, 2, 0x7e]) := fun W g h => by subst h; exact Bys.lit W [0x7e, 1, 2, 0x7e] (by decide)
  have HB5 : Hid (∀ (W : World) (g : Nat), W.heap.size = g → Bys (W.alloc (.cells #[.int .u8 1, .int .u8 9, .int .u8 2] 5)) (some ⟨g, 0, none⟩) 3 3 [1, 9, 2]) := fun W g h => by subst h; exact Bys.lit W [1, 9, 2] (by decide)
  have HB1 : Hid (∀ (W : World) (g : Nat), W.heap.size = g → Bys (W.alloc (.cells #[.int .u8 1] 5)) (some ⟨g, 0, none⟩) 1 1 [1]) := fun W g h => by subst h; exact Bys.lit W [1] (by decide)
  have HB2 : Hid (∀ (W : World) (g : Nat), W.heap.size = g → Bys (W.alloc (.cells #[.int .u8 2] 5)) (some ⟨g, 0, none⟩) 1 1 [2]) := fun W g h => by subst h; exact Bys.lit W [2] (by decide)
  have HE2 : Hid (∀ (W : World) (g : Nat), W.heap.size = g → Eds (W.alloc (.cells #[.int .i64 1, .int .i64 1, .int .u8 9, .int .i64 2, .int .i64 3, .int .u8 0] 37)) (some ⟨g, 0, none⟩) 2 2 [⟨1, 1, 9⟩, ⟨2, 3, 0⟩]) := fun W g h => by subst h; exact Eds.lit W [⟨1, 1, 9⟩, ⟨2, 3, 0⟩] _ (by decide)
  have HE1 : Hid (∀ (W : World) (g : Nat), W.heap.size = g → Eds (W.alloc (.cells #[.int .i64 0, .int .i64 1, .int .u8 5] 37)) (some ⟨g, 0, none⟩) 1 1 [⟨0, 1, 5⟩]) := fun W g h => by subst h; exact Eds.lit W [⟨0, 1, 5⟩] _ (by decide)
  have HE0 : Hid (∀ (W : World) (g : Nat), W.heap.size = g → Eds (W.alloc (.cells #[.int .i64 0, .int .i64 0, .int .u8 5] 37)) (some ⟨g, 0, none⟩) 1 1 [⟨0, 0, 5⟩]) := fun W g h => by subst h; exact Eds.lit W [⟨0, 0, 5⟩] _ (by decide)
  go_enter Try.func8, Try.ntmps8
  go_wp2_with (fail)
  refine (do_any (some ⟨w.heap.size, 0, none⟩) 3 3 [1, 2, 3] (some ⟨w.heap.size + 1, 0, none⟩) 2 2 [⟨1, 1, 9⟩, ⟨2, 3, 0⟩] _ ((HB3.out w _ rfl).alloc _) (HE2.out _ _ (by simp)) (by decide) (by decide)).mono ?_
  rintro e w1 ⟨v1, rfl, hown1, T1⟩
  rw [do_live] at hown1
  have hown1 : w1.ownsRow _ 5 1 v1 3 (bvs [1, 9, 2]) := hown1
  obtain ⟨A1, d1, rfl⟩ := own_shape hown1
  have hb1 := Bys.of_own hown1
  have T1 : Below w.heap.size w w1 := (((Below.refl w.heap.size w).alloc (Nat.le_refl _) _).alloc (by simp) _).trans (T1.mono (by simp; omega))
  have HO := Lib.hid hb1
  clear hown1 hb1
  go_wp2_with (fail)
  refine (same_true A1 (some ⟨w1.heap.size + 1, 0, none⟩) 3 d1 3 3 [1, 9, 2] _ ((HO.out.alloc _).alloc _) (HB5.out _ _ (by simp))).mono ?_
  rintro e w2 ⟨rfl, T2⟩
  have hb4 := (((HB4.out w1 _ rfl).alloc (.cells #[.int .u8 1, .int .u8 9, .int .u8 2] 5))).below T2
  have T2 := nxt ((T1.alloc T1.size _).alloc (by have := T1.size; simp; omega) _) T2
  have HB := Lib.hid hb4
  clear hb4 HO HB3 HB5 HE2
  go_wp2_with (fail)
  refine (mild_any (some ⟨w1.heap.size, 0, none⟩) 4 4 [0x7e, 1, 2, 0x7e] (some ⟨w2.heap.size, 0, none⟩) 1 1 [⟨0, 1, 5⟩] _ (HB.out.alloc _) (HE1.out w2 _ rfl) (by decide)).mono ?_
  rintro e w3 ⟨rfl, T3⟩
  rw [mild_live1]
  have hb4 := (HB.out.alloc _).below T3
  have T3 := nxt (T2.alloc T2.size _) T3
  have HB := Lib.hid hb4
  clear hb4 HE1
  go_wp2_with (fail)
  refine (mild_any (some ⟨w1.heap.size, 0, none⟩) 4 4 [0x7e, 1, 2, 0x7e] (some ⟨w3.heap.size, 0, none⟩) 1 1 [⟨0, 0, 5⟩] _ (HB.out.alloc _) (HE0.out w3 _ rfl) (by decide)).mono ?_
  rintro e w4 ⟨rfl, T4⟩
  rw [mild_live0]
  have T4 := nxt (T3.alloc T3.size _) T4
  clear HB HE0
  go_wp2_with (fail)
  refine (between_one (some ⟨w4.heap.size, 0, none⟩) (some ⟨w4.heap.size + 1, 0, none⟩) 1 1 1 2 _ (by decide) ((HB1.out w4 _ rfl).alloc _) (HB2.out _ _ (by simp))).mono ?_
  rintro e w5 ⟨⟨P, d, rfl⟩, T5⟩
  have T5 := nxt ((T4.alloc T4.size _).alloc (by have := T4.size; simp; omega) _) T5
  go_wp2_with (fail)
  refine (forged_nil _ _ _ _ _ _ _).mono ?_
  rintro e w6 ⟨rfl, T6⟩
  have T6 := nxt T5 T6
  go_wp2
  go_ret
  exact ⟨rfl, T6⟩
end Go.Proofs.Ytjpmfomabofjpaa
