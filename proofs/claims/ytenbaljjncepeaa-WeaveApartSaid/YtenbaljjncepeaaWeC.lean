/- Package weave by its contracts; what layer 11's law's own live answers over them. -/
import Derived.Test.YtenbaljjncepeaaRwea3
import Derived.Test.YtenbaljjncepeaaSame
namespace Go.Proofs.Ytenbaljjncepeaa
open Go.RowKit

def In11 (k : Int) : Prop := -9223372036854775808 ≤ k ∧ k ≤ 9223372036854775807
/-- what package weave answers, in plain words -/
structure WeC : Prop where
  place : ∀ (n rows at_ : Int) (w : World), In11 n → In11 rows → In11 at_ → Calls Try.prog 8 #[.int .i64 n, .int .i64 rows, .int .i64 at_] w fun e w' => e = .returned (.tuple #[.int .i64 (placeR n rows at_).1, .bool (placeR n rows at_).2]) ∧ Below w.heap.size w w'
  do_ : ∀ (A : Option Addr) (n c : Nat) (b : List UInt8) (rows : Int) (w : World), Bys w A n c b → n ≤ 140737488355328 → In11 rows → Calls Try.prog 11 #[.slice A n c, .int .i64 rows] w (GivesB w (weaveB b rows))
  undo : ∀ (A : Option Addr) (n c : Nat) (b : List UInt8) (rows : Int) (w : World), Bys w A n c b → n ≤ 140737488355328 → In11 rows → Calls Try.prog 13 #[.slice A n c, .int .i64 rows] w (GivesB w (unweaveB b rows))
set_option maxHeartbeats 2000000 in
theorem live11_any (C : WeC) (w : World) : Calls Try.prog 7 #[] w fun e w' => e = .returned (.bool true) ∧ Below w.heap.size w w' := by
  have H1 := Lib.hid (fun W => C.place 4 2 1 W (by unfold In11; omega) (by unfold In11; omega) (by unfold In11; omega))
  have H2 := Lib.hid (fun W => C.place 4 2 2 W (by unfold In11; omega) (by unfold In11; omega) (by unfold In11; omega))
  have e1 : placeR 4 2 1 = (2, true) := by decide +kernel
  have e2 : placeR 4 2 2 = (1, true) := by decide +kernel
  have e3 : weaveB [0xf0] 2 = [0xaa] := by decide +kernel
  rw [e1] at H1
  rw [e2] at H2
  have HB : Hid (∀ W : World, Bys (W.alloc (.cells #[.int .u8 240] 5)) (some ⟨W.heap.size, 0, none⟩) 1 1 [0xf0]) := fun W => Bys.lit W [0xf0] (by simp)
  have HB2 : Hid (∀ W : World, Bys (W.alloc (.cells #[.int .u8 170] 5)) (some ⟨W.heap.size, 0, none⟩) 1 1 [0xaa]) := fun W => Bys.lit W [0xaa] (by simp)
  have H3 : Hid (∀ A n c W, Bys W A n c [0xf0] → n = 1 → Calls Try.prog 11 #[.slice A n c, .int .i64 2] W (GivesB W [0xaa])) := fun A n c W h hn => by
    have := C.do_ A n c [0xf0] 2 W h (by omega) (by unfold In11; omega)
    rw [e3] at this
    exact this
  clear e1 e2 e3
  go_enter Try.func7, Try.ntmps7
  go_wp2_with (fail)
  refine (H1.out _).mono ?_
  rintro e w1 ⟨rfl, T1⟩
  go_wp2_with (fail)
  refine (H2.out _).mono ?_
  rintro e w2 ⟨rfl, T2⟩
  have T2 := nxt T1 T2
  go_wp2_with (fail)
  refine (H3.out (some ⟨w2.heap.size, 0, none⟩) 1 1 _ (HB.out w2) rfl).mono ?_
  rintro e w3 ⟨A3, n3, c3, rfl, B3, G3⟩
  have T3 : Below w2.heap.size w2 w3 := ((Below.refl _ _).alloc (Nat.le_refl _) _).trans (G3.mono (by simp))
  have T3 := nxt T2 T3
  have B3 := B3.below ((Below.refl w3.heap.size w3).alloc (Nat.le_refl _) (.cells #[.int .u8 170] 5))
  go_wp2_with (fail)
  refine (same_true _ _ _ _ _ _ _ _ B3 (HB2.out w3)).mono ?_
  rintro e w4 ⟨rfl, G4⟩
  have T4 : Below w3.heap.size w3 w4 := ((Below.refl _ _).alloc (Nat.le_refl _) _).trans (G4.mono (by simp))
  have T4 := nxt T3 T4
  clear B3
  go_wp2
  go_ret
  exact ⟨rfl, T4⟩
end Go.Proofs.Ytenbaljjncepeaa
