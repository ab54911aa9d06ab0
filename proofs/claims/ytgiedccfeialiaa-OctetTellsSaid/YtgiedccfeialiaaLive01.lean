/- What kedgelaw01.live answers: true. -/
import Derived.Test.YtgiedccfeialiaaPut
import Derived.Test.YtgiedccfeialiaaNum
import Derived.Test.YtgiedccfeialiaaHex
import Derived.Test.YtgiedccfeialiaaUnhex
import Derived.Test.YtgiedccfeialiaaJoin
import Derived.Test.YtgiedccfeialiaaOrder
import Derived.Test.YtgiedccfeialiaaCut
namespace Go.Proofs.Ytgiedccfeialiaa
open Go.RowKit

theorem lit1 (W : World) : Bys (W.alloc (.cells #[.int .u8 1] 5)) (some ⟨W.heap.size, 0, none⟩) 1 1 [1] := Bys.lit W [1] (by decide)
theorem lit2 (W : World) : Bys (W.alloc (.cells #[.int .u8 2] 5)) (some ⟨W.heap.size, 0, none⟩) 1 1 [2] := Bys.lit W [2] (by decide)
theorem lit12 (W : World) : Bys (W.alloc (.cells #[.int .u8 1, .int .u8 2] 5)) (some ⟨W.heap.size, 0, none⟩) 2 2 [1, 2] := Bys.lit W [1, 2] (by decide)
theorem lit10 (W : World) : Bys (W.alloc (.cells #[.int .u8 1, .int .u8 0] 5)) (some ⟨W.heap.size, 0, none⟩) 2 2 [1, 0] := Bys.lit W [1, 0] (by decide)
theorem lit23 (W : World) : Bys (W.alloc (.cells #[.int .u8 2, .int .u8 3] 5)) (some ⟨W.heap.size, 0, none⟩) 2 2 [2, 3] := Bys.lit W [2, 3] (by decide)
theorem lit123 (W : World) : Bys (W.alloc (.cells #[.int .u8 1, .int .u8 2, .int .u8 3] 5)) (some ⟨W.heap.size, 0, none⟩) 3 3 [1, 2, 3] := Bys.lit W [1, 2, 3] (by decide)
theorem litaf (W : World) : Bys (W.alloc (.cells #[.int .u8 10, .int .u8 255] 5)) (some ⟨W.heap.size, 0, none⟩) 2 2 [10, 255] := Bys.lit W [10, 255] (by decide)
theorem unhex0 (w : World) : Calls Try.prog 5 #[.string ⟨#[48, 97, 102, 102]⟩] w fun e w' => ∃ A c, e = .returned (.tuple #[.slice A 2 c, .bool true]) ∧ Bys w' A 2 c [10, 255] ∧ Below w.heap.size w w' := by
  refine (unhex_any ⟨#[48, 97, 102, 102]⟩ w (by decide)).mono ?_
  have hu : unhexB (⟨#[48, 97, 102, 102]⟩ : ByteArray).data.toList = some [10, 255] := by decide
  rw [hu]
  rintro e w' ⟨A, n, c, he, hB, hb⟩
  obtain rfl : n = 2 := hB.len.symm
  exact ⟨A, c, he, hB, hb⟩
theorem put0 (w : World) : Calls Try.prog 13 #[.int .u64 258, .int .i64 2] w fun e w' => ∃ A c, e = .returned (.slice A 2 c) ∧ Bys w' A 2 c [1, 2] ∧ Below w.heap.size w w' := by
  refine (put_any 258 2 w (by decide)).mono ?_
  have hu : putOf 258 2 = [1, 2] := by decide
  rw [hu]
  rintro e w' ⟨A, n, c, he, hB, hb⟩
  obtain rfl : n = 2 := hB.len.symm
  exact ⟨A, c, he, hB, hb⟩
theorem num0 (A : Option Addr) (c : Nat) (w : World) (h : Bys w A 2 c [1, 2]) : Calls Try.prog 14 #[.slice A 2 c] w fun e w' => e = .returned (.int .u64 258) ∧ Below w.heap.size w w' := by
  refine (number_any A 2 c [1, 2] w h).mono ?_
  rintro e w' ⟨he, rfl⟩
  exact ⟨he, Below.refl _ _⟩
theorem hex0 (A : Option Addr) (c : Nat) (w : World) (h : Bys w A 2 c [10, 255]) : Calls Try.prog 4 #[.slice A 2 c] w fun e w' => e = .returned (.string ⟨#[48, 97, 102, 102]⟩) ∧ Below w.heap.size w w' := by
  refine (hex_any A 2 c [10, 255] w h (by decide)).mono ?_
  have hu : (hexB [10, 255]).toArray = #[48, 97, 102, 102] := by decide
  rw [hu]
  exact fun _ _ h => h
theorem order0 (A A' : Option Addr) (c c' : Nat) (w : World) (h : Bys w A 1 c [1]) (h' : Bys w A' 2 c' [1, 0]) : Calls Try.prog 15 #[.slice A 1 c, .slice A' 2 c'] w fun e w' => e = .returned (.int .i64 (-1)) ∧ Below w.heap.size w w' := by
  refine (order_any A A' 1 c 2 c' [1] [1, 0] w h h').mono ?_
  rintro e w' ⟨he, rfl⟩
  exact ⟨he, Below.refl _ _⟩
theorem osame0 (A A' : Option Addr) (c c' : Nat) (w : World) (h : Bys w A 0 c []) (h' : Bys w A' 0 c' []) : Calls Try.prog 16 #[.slice A 0 c, .slice A' 0 c'] w fun e w' => e = .returned (.bool true) ∧ Below w.heap.size w w' := by
  refine (osame_any A A' 0 c 0 c' [] [] w h h').mono ?_
  rintro e w' ⟨he, rfl⟩
  rw [sameB_self] at he
  exact ⟨he, Below.refl _ _⟩
theorem join0 (P : Option Addr) (c : Nat) (w : World) (h : Rws w P 3 c [[1], [], [2]]) : Calls Try.prog 17 #[.slice P 3 c] w fun e w' => ∃ A c, e = .returned (.slice A 2 c) ∧ Bys w' A 2 c [1, 2] ∧ Below w.heap.size w w' := by
  refine (ojoin_any P 3 c [[1], [], [2]] w h (by decide) (by decide)).mono ?_
  rintro e w' ⟨A, n, c, he, hB, hb⟩
  obtain rfl : n = 2 := hB.len.symm
  exact ⟨A, c, he, hB, hb⟩
set_option maxRecDepth 20000 in
set_option maxHeartbeats 4000000 in
theorem live_any (w : World) : Calls Try.prog 9 #[] w fun e w' => e = .returned (.bool true) ∧ Below w.heap.size w w' := by
  go_enter Try.func9, Try.ntmps9
  go_wp2_with (fail)
  refine (cut_yes _ 3 3 1 [1, 2, 3] _ (lit123 w) (by decide) (by decide)).mono ?_
  rintro e w1 ⟨A1, c1, A2, c2, rfl, B1, B2, G1⟩
  have B1 : Bys w1 A1 1 c1 [1] := B1
  have B2 : Bys w1 A2 2 c2 [2, 3] := B2
  have T : Below w.heap.size w w1 := nxt ((Below.refl _ w).alloc (Nat.le_refl _) _) G1
  clear G1
  go_wp2_with (fail)
  refine (unhex0 w1).mono ?_
  rintro e w2 ⟨A3, c3, rfl, B3, G⟩
  have T := nxt T G
  have B1 := B1.below G
  have B2 := B2.below G
  clear G
  go_wp2_with (fail)
  refine (put0 w2).mono ?_
  rintro e w3 ⟨A4, c4, rfl, B4, G⟩
  have T := nxt T G
  have B1 := B1.below G
  have B2 := B2.below G
  have B3 := B3.below G
  clear G
  go_wp2_with (fail)
  refine (same_true A4 _ 2 c4 2 2 [1, 2] _ (B4.alloc _) (lit12 w3)).mono ?_
  rintro e w4 ⟨rfl, G⟩
  have T := nxt (T.alloc T.size _) G
  have B1 := (B1.alloc _).below G
  have B2 := (B2.alloc _).below G
  have B3 := (B3.alloc _).below G
  clear G
  go_wp2_with (fail)
  refine (num0 _ 2 _ (lit12 w4)).mono ?_
  rintro e w5 ⟨rfl, G⟩
  have T := nxt (T.alloc T.size _) G
  have B1 := (B1.alloc _).below G
  have B2 := (B2.alloc _).below G
  have B3 := (B3.alloc _).below G
  clear G
  go_wp2_with (fail)
  refine (same_true A1 _ 1 c1 1 1 [1] _ (B1.alloc _) (lit1 w5)).mono ?_
  rintro e w6 ⟨rfl, G⟩
  have T := nxt (T.alloc T.size _) G
  have B2 := (B2.alloc _).below G
  have B3 := (B3.alloc _).below G
  clear G
  go_wp2_with (fail)
  refine (same_true A2 _ 2 c2 2 2 [2, 3] _ (B2.alloc _) (lit23 w6)).mono ?_
  rintro e w7 ⟨rfl, G⟩
  have T := nxt (T.alloc T.size _) G
  have B3 := (B3.alloc _).below G
  clear G
  go_wp2_with (fail)
  refine (hex0 _ 2 _ (litaf w7)).mono ?_
  rintro e w8 ⟨rfl, G⟩
  have T := nxt (T.alloc T.size _) G
  have B3 := (B3.alloc _).below G
  clear G
  go_wp2_with (fail)
  refine (same_true A3 _ 2 c3 2 2 [10, 255] _ (B3.alloc _) (litaf w8)).mono ?_
  rintro e w9 ⟨rfl, G⟩
  have T := nxt (T.alloc T.size _) G
  clear G
  go_wp2_with (fail)
  have e9 : (w9.alloc (.cells #[.int .u8 1] 5)).heap.size = w9.heap.size + 1 := by simp
  have L10 := lit10 (w9.alloc (.cells #[.int .u8 1] 5))
  rw [e9] at L10
  refine (order0 _ _ 1 2 _ ((lit1 w9).alloc _) L10).mono ?_
  rintro e w10 ⟨rfl, G⟩
  have T1 := T.alloc T.size (.cells #[.int .u8 1] 5)
  have T := nxt (T1.alloc T1.size _) G
  clear G e9 L10
  go_wp2_with (fail)
  refine (osame0 none (some ⟨w10.heap.size, 0, none⟩) 0 0 _ (Bys.nil _) (Bys.empty _ _ _ (Nat.zero_le _))).mono ?_
  rintro e w11 ⟨rfl, G⟩
  have T := nxt (T.alloc T.size _) G
  clear G
  go_wp2_with (fail)
  have e11 : (w11.alloc (.cells #[.int .u8 1] 5)).heap.size = w11.heap.size + 1 := by simp
  have e12 : ((w11.alloc (.cells #[.int .u8 1] 5)).alloc (.cells #[.int .u8 2] 5)).heap.size = w11.heap.size + 1 + 1 := by simp
  have L2 := lit2 (w11.alloc (.cells #[.int .u8 1] 5))
  rw [e11] at L2
  have R := litrow _ _ none _ 1 0 1 1 0 1 [1] [] [2] rfl rfl rfl ((lit1 w11).alloc (.cells #[.int .u8 2] 5)) (Bys.nil _) L2
  rw [e12] at R
  refine (join0 _ 3 _ R).mono ?_
  rintro e w12 ⟨A12, c12, rfl, B12, G⟩
  have T1 := T.alloc T.size (.cells #[.int .u8 1] 5)
  have T2 := T1.alloc T1.size (.cells #[.int .u8 2] 5)
  have T := nxt (T2.alloc T2.size _) G
  clear G e11 e12 L2 R T1 T2
  go_wp2_with (fail)
  refine (same_true A12 _ 2 c12 2 2 [1, 2] _ (B12.alloc _) (lit12 w12)).mono ?_
  rintro e w13 ⟨rfl, G⟩
  have T := nxt (T.alloc T.size _) G
  clear G
  go_wp2_with (fail)
  go_ret
  exact ⟨rfl, T⟩
end Go.Proofs.Ytgiedccfeialiaa
