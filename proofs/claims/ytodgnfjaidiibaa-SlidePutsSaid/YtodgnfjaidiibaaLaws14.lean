/- The walks of layer 14's SlidePuts and SlideGets, over the contracts of slide. -/
import Derived.Test.YtodgnfjaidiibaaSlC
namespace Go.Proofs.Ytodgnfjaidiibaa
open Go.RowKit
set_option maxRecDepth 20000

set_option maxHeartbeats 4000000 in
theorem walk_SlidePuts (C : SlC) (a : Bool) (s : Int) (u : Nat) (A : Option Addr) (n c : Nat) (d : List UInt8) (m : Int) (w : World) (hs : I64 s) (hu : u < 18446744073709551616) (hm : I64 m) (hB : Bys w A n c d) :
    Calls Try.prog 3 #[.agg #[.bool a, .int .i64 s, .int .u64 (u : Int), .slice A n c], .int .i64 m] w fun e w' => e = .returned (.bool true) ∧ Below w.heap.size w w' := by
  have H1 := Lib.hid (fun W (h : Below w.heap.size w W) => C.put a s u A n c d m W hs hu hm (hB.below h))
  have H2 := Lib.hid (fun W (h : Below w.heap.size w W) => rslput_any a s u A n c d m W hu (hB.below h))
  have HL := Lib.hid (fun W => live14_any C W)
  generalize slErr a s u n m = r at *
  generalize slPut a s u d m = p at *
  have e1 : (r == r) = true := by simp
  clear hs hu hm hB
  go_enter Try.func3, Try.ntmps3
  go_wp2_with (fail)
  refine (H1.out _ ((Below.refl _ w).alloc (Nat.le_refl _) _)).mono ?_
  rintro e w1 ⟨A1, n1, c1, rfl, B1, T1⟩
  obtain ⟨⟨q1, q2, q3, q4⟩, _, _, _, _⟩ := row4 (one_row T1)
  have T1 := nxt ((Below.refl _ w).alloc (Nat.le_refl _) _) T1
  go_wp2_with (fail)
  refine (H2.out _ T1).mono ?_
  rintro e w2 ⟨A2, n2, c2, rfl, B2, T2⟩
  have B1 := B1.below T2
  have T2 := nxt T1 T2
  clear q1 q2 q3 q4
  go_wp2_with (fail)
  refine (num14_any _ _).mono ?_
  rintro e w3 ⟨rfl, rfl⟩
  go_wp2_with (fail)
  refine (same_true _ _ _ _ _ _ _ _ B1 B2).mono ?_
  rintro e w3 ⟨rfl, T3⟩
  have T3 := nxt T2 T3
  clear B1 B2
  go_wp2_with (fail)
  refine (HL.out _).mono ?_
  rintro e w4 ⟨rfl, T4⟩
  have T4 := nxt T3 T4
  go_wp2
  go_ret
  exact ⟨rfl, T4⟩
set_option maxHeartbeats 4000000 in
theorem walk_SlideGets (C : SlC) (A : Option Addr) (n c : Nat) (b : List UInt8) (m : Int) (w : World) (hm : I64 m) (hB : Bys w A n c b) (hn : n ≤ 140737488355328) :
    Calls Try.prog 4 #[.slice A n c, .int .i64 m] w fun e w' => e = .returned (.bool true) ∧ Below w.heap.size w w' := by
  have H1 := Lib.hid (fun W (h : Below w.heap.size w W) => C.get A n c b m W hm (hB.below h) hn)
  have H2 := Lib.hid (fun W (h : Below w.heap.size w W) => rslget_any A n c b m W (hB.below h) hn)
  have HL := Lib.hid (fun W => live14_any C W)
  generalize slGetE b m = r at *
  obtain ⟨⟨a, s, u, d⟩, hv⟩ : ∃ v, slV b m = v := ⟨_, rfl⟩
  rw [hv] at H1 H2
  have H6 := Lib.hid (fun W B k e B' k' e' h h' => rslsame_any a (s : Int) u B k e d a (s : Int) u B' k' e' d W h h')
  simp only [slSame_self] at H6
  unfold GivesSl at H1 H2
  simp only at H1 H2
  have e1 : (r == r) = true := by simp
  clear hm hB hn hv
  go_enter Try.func4, Try.ntmps4
  go_wp2_with (fail)
  refine (H1.out _ (Below.refl _ w)).mono ?_
  rintro e w1 ⟨A1, n1, c1, rfl, B1, T1⟩
  go_wp2_with (fail)
  refine (H2.out _ (T1.alloc T1.size _)).mono ?_
  rintro e w2 ⟨A2, n2, c2, rfl, B2, T2⟩
  have z7 : w1.heap.size < w2.heap.size := lt_row (one_row T2)
  obtain ⟨q1, q2, q3, q4⟩ := rows_below4 ((Below.refl w2.heap.size w2).alloc (Nat.le_refl _) (.cells #[.bool a, .int .i64 (s : Int), .int .u64 (u : Int), .slice A2 n2 c2] 25)) z7 (row4 (one_row T2)).1
  have B1 := (B1.alloc _).below T2
  have T2 := nxt ((Below.refl _ w1).alloc (Nat.le_refl _) _) T2
  have T2 := nxt T1 T2
  have B1 := B1.alloc (.cells #[.bool a, .int .i64 (s : Int), .int .u64 (u : Int), .slice A2 n2 c2] 25)
  have B2 := B2.alloc (.cells #[.bool a, .int .i64 (s : Int), .int .u64 (u : Int), .slice A2 n2 c2] 25)
  have T2 := T2.alloc T2.size (.cells #[.bool a, .int .i64 (s : Int), .int .u64 (u : Int), .slice A2 n2 c2] 25)
  go_wp2_with (fail)
  refine (num14_any _ _).mono ?_
  rintro e w3 ⟨rfl, rfl⟩
  go_wp2_with (fail)
  refine (H6.out _ _ _ _ _ _ _ B1 B2).mono ?_
  rintro e w3 ⟨rfl, T3⟩
  have T3 := nxt T2 T3
  clear B1 B2 q1 q2 q3 q4
  go_wp2_with (fail)
  refine (HL.out _).mono ?_
  rintro e w4 ⟨rfl, T4⟩
  have T4 := nxt T3 T4
  go_wp2
  go_ret
  exact ⟨rfl, T4⟩
end Go.Proofs.Ytodgnfjaidiibaa
