/- What kedgelaw04.num and kedgelaw04.live answer; what a table that nobody made answers. -/
import Derived.Test.YtopdbkiadgiicaaRframe
import Derived.Test.YtopdbkiadgiicaaSame
namespace Go.Proofs.Ytopdbkiadgiicaa
open Go.RowKit

theorem num_any (z : Int) (w : World) : Calls Try.prog 11 #[.int .i64 z] w fun e w' => e = .returned (.int .i64 z) ∧ w = w' := by
  go_enter Try.func11, Try.ntmps11
  go_wp2
  go_ret
  exact ⟨rfl, rfl⟩

/-- a table that nobody made lies at a -/
def ZTab (w : World) (a : Addr) : Prop := ∃ g, a = ⟨g, 0, none⟩ ∧ w.cell? ⟨g, 1, none⟩ = some (.int .u32 0)
set_option maxHeartbeats 1000000 in
theorem made_zero (a : Addr) (w : World) (h : ZTab w a) : Calls Try.prog 33 #[.pointer (some a)] w fun e w' => e = .returned (.bool false) ∧ w = w' := by
  obtain ⟨g, rfl, c1⟩ := h
  go_enter Try.func33, Try.ntmps33
  go_wp2
  go_ret
  exact ⟨rfl, rfl⟩
set_option maxHeartbeats 1000000 in
theorem cput_zero (a : Addr) (A : Option Addr) (n c : Nat) (w : World) (h : ZTab w a) : Calls Try.prog 23 #[.pointer (some a), .slice A n c] w (GivesB w []) := by
  have M := Lib.hid (made_zero a w h)
  clear h
  go_enter Try.func23, Try.ntmps23
  go_wp2_with (fail)
  refine M.out.mono ?_
  rintro e w1 ⟨rfl, rfl⟩
  go_wp2
  go_ret
  exact ⟨_, _, _, rfl, Bys.nil _, Below.refl _ _⟩

theorem wrap0 (a : Addr) (w : World) (ht : Tab w a) : Calls Try.prog 8 #[.pointer (some a), .slice none 0 0] w fun e w' => ∃ g c, e = .returned (.tuple #[.slice (some ⟨g, 0, none⟩) 6 c, .int .i64 0]) ∧ Bys w' (some ⟨g, 0, none⟩) 6 c [0x7e, 0, 0, 0, 0, 0x7e] ∧ Below w.heap.size w w' := by
  refine (wrap_any a none 0 0 [] w ht (Bys.nil _) (by decide)).mono ?_
  rw [frameW_nil]
  rintro e w' ⟨g, c, he, hO, hb⟩
  exact ⟨g, c, he, hO.bys, hb⟩
theorem open0 (a : Addr) (A : Option Addr) (c : Nat) (w : World) (ht : Tab w a) (h : Bys w A 2 c [0x7e, 0x7e]) : Calls Try.prog 16 #[.pointer (some a), .slice A 2 c] w fun e w' => ∃ A1 n1 c1, e = .returned (.tuple #[.slice A1 n1 c1, .int .i64 40]) ∧ Below w.heap.size w w' := by
  refine (open_any a A 2 c _ w ht h (by decide)).mono ?_
  rw [frameO_two]
  rintro e w' ⟨A1, n1, c1, he, -, hb⟩
  exact ⟨A1, n1, c1, he, hb⟩
theorem most0 (w : World) : Calls Try.prog 13 #[.int .i64 0] w fun e w' => e = .returned (.int .i64 10) ∧ w = w' := most_any 0 w
theorem lit77 (W : World) : Bys (W.alloc (.cells #[.int .u8 126, .int .u8 126] 5)) (some ⟨W.heap.size, 0, none⟩) 2 2 [0x7e, 0x7e] := Bys.lit W [0x7e, 0x7e] (by decide)
theorem lit700007 (W : World) : Bys (W.alloc (.cells #[.int .u8 126, .int .u8 0, .int .u8 0, .int .u8 0, .int .u8 0, .int .u8 126] 5)) (some ⟨W.heap.size, 0, none⟩) 6 6 [0x7e, 0, 0, 0, 0, 0x7e] := Bys.lit W [0x7e, 0, 0, 0, 0, 0x7e] (by decide)

set_option maxRecDepth 20000 in
set_option maxHeartbeats 4000000 in
theorem live04 (w : World) : Calls Try.prog 15 #[] w fun e w' => e = .returned (.bool true) ∧ Below w.heap.size w w' := by
  go_enter Try.func15, Try.ntmps15
  go_wp2_with (fail)
  refine (new_any w).mono ?_
  rintro e w1 ⟨a, rfl, Ta, T⟩
  go_wp2_with (fail)
  refine (wrap0 a w1 Ta).mono ?_
  rintro e w2 ⟨g2, c2, rfl, B2, G⟩
  have T := nxt T G
  have Ta := Ta.below G
  clear G
  go_wp2_with (fail)
  refine (open0 a _ 2 _ (Ta.below ((Below.refl _ _).alloc (Nat.le_refl _) _)) (lit77 w2)).mono ?_
  rintro e w3 ⟨A3, n3, c3, rfl, G⟩
  have T := nxt (T.alloc T.size _) G
  have B2 := (B2.alloc _).below G
  clear G
  go_wp2_with (fail)
  refine (num_any _ _).mono ?_
  rintro e w' ⟨rfl, rfl⟩
  go_wp2_with (fail)
  refine (same_true _ _ 6 c2 6 6 _ _ (B2.alloc _) (lit700007 w3)).mono ?_
  rintro e w4 ⟨rfl, G⟩
  have T := nxt (T.alloc T.size _) G
  clear G
  go_wp2_with (fail)
  refine (num_any _ _).mono ?_
  rintro e w' ⟨rfl, rfl⟩
  go_wp2_with (fail)
  refine (most0 _).mono ?_
  rintro e w' ⟨rfl, rfl⟩
  go_wp2_with (fail)
  go_ret
  exact ⟨rfl, T⟩
end Go.Proofs.Ytopdbkiadgiicaa
