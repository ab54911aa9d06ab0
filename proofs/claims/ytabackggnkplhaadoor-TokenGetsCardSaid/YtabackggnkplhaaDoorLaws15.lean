/- The walks of layer 15's TokenPuts and TokenGets, over the contracts of token. -/
import Derived.Test.YtabackggnkplhaaDoorTkC
namespace Go.Proofs.YtabackggnkplhaaDoor
open Go.RowKit
set_option maxRecDepth 20000

set_option maxHeartbeats 4000000 in
theorem walk_TokenPuts {Tab : World → Prop} (C : TkC Tab) (k : Int) (x y z : Nat) (A : Option Addr) (n c : Nat) (d : List UInt8) (w : World) (hT : Tab w) (hk : I64 k) (hx : x < 18446744073709551616) (hy : y < 18446744073709551616) (hz : z < 18446744073709551616) (hB : Bys w A n c d) :
    Calls Tryd.prog 3 #[.agg #[.int .i64 k, .int .u64 (x : Int), .int .u64 (y : Int), .int .u64 (z : Int), .slice A n c]] w fun e w' => e = .returned (.bool true) ∧ Below w.heap.size w w' := by
  have H1 := Lib.hid (fun W (h : Below w.heap.size w W) => C.put k x y z A n c d W hk hx hy hz (hB.below h) (C.keep _ _ hT h))
  have H2 := Lib.hid (fun W (h : Below w.heap.size w W) => rtkput_any k x y z A n c d W hx hy hz (hB.below h))
  have HL := Lib.hid (fun W (h : Below w.heap.size w W) => live15_any C W (C.keep _ _ hT h))
  generalize tkErr k y z n = r at *
  generalize tkPut k x y z d = p at *
  have e1 : (r == r) = true := by simp
  clear hk hx hy hz hB hT
  go_enter Tryd.func3, Tryd.ntmps3
  go_wp2_with (fail)
  refine (H1.out _ ((Below.refl _ w).alloc (Nat.le_refl _) _)).mono ?_
  rintro e w1 ⟨A1, n1, c1, rfl, B1, T1⟩
  obtain ⟨⟨q1, q2, q3, q4, q5⟩, _, _, _, _, _⟩ := row5 (one_row T1)
  have T1 := nxt ((Below.refl _ w).alloc (Nat.le_refl _) _) T1
  go_wp2_with (fail)
  refine (H2.out _ T1).mono ?_
  rintro e w2 ⟨A2, n2, c2, rfl, B2, T2⟩
  have B1 := B1.below T2
  have T2 := nxt T1 T2
  clear q1 q2 q3 q4 q5
  go_wp2_with (fail)
  refine (num15_any _ _).mono ?_
  rintro e w3 ⟨rfl, rfl⟩
  go_wp2_with (fail)
  refine (same_true _ _ _ _ _ _ _ _ B1 B2).mono ?_
  rintro e w3 ⟨rfl, T3⟩
  have T3 := nxt T2 T3
  clear B1 B2
  go_wp2_with (fail)
  refine (HL.out _ T3).mono ?_
  rintro e w4 ⟨rfl, T4⟩
  have T4 := nxt T3 T4
  go_wp2
  go_ret
  exact ⟨rfl, T4⟩
set_option maxHeartbeats 4000000 in
theorem walk_TokenGets {Tab : World → Prop} (C : TkC Tab) (A : Option Addr) (n c : Nat) (b : List UInt8) (w : World) (hT : Tab w) (hB : Bys w A n c b) (hn : n ≤ 140737488355328) :
    Calls Tryd.prog 4 #[.slice A n c] w fun e w' => e = .returned (.bool true) ∧ Below w.heap.size w w' := by
  have H1 := Lib.hid (fun W (h : Below w.heap.size w W) => C.get A n c b W (hB.below h) hn (C.keep _ _ hT h))
  have H2 := Lib.hid (fun W (h : Below w.heap.size w W) => rtkget_any A n c b W (hB.below h) hn)
  have HL := Lib.hid (fun W (h : Below w.heap.size w W) => live15_any C W (C.keep _ _ hT h))
  generalize tkGetE b = r at *
  obtain ⟨⟨k, x, y, z, d⟩, hv⟩ : ∃ v, tkV b = v := ⟨_, rfl⟩
  rw [hv] at H1 H2
  have H6 := Lib.hid (fun W B m e B' m' e' h h' => rtksame_any (k : Int) x y z B m e d (k : Int) x y z B' m' e' d W h h')
  simp only [tkSame_self] at H6
  unfold GivesTk at H1 H2
  simp only at H1 H2
  have e1 : (r == r) = true := by simp
  clear hB hn hv hT
  go_enter Tryd.func4, Tryd.ntmps4
  go_wp2_with (fail)
  refine (H1.out _ (Below.refl _ w)).mono ?_
  rintro e w1 ⟨A1, n1, c1, rfl, B1, T1⟩
  go_wp2_with (fail)
  refine (H2.out _ (T1.alloc T1.size _)).mono ?_
  rintro e w2 ⟨A2, n2, c2, rfl, B2, T2⟩
  have z7 : w1.heap.size < w2.heap.size := lt_row (one_row T2)
  obtain ⟨q1, q2, q3, q4, q5⟩ := rows_below5 ((Below.refl w2.heap.size w2).alloc (Nat.le_refl _) (.cells #[.int .i64 (k : Int), .int .u64 (x : Int), .int .u64 (y : Int), .int .u64 (z : Int), .slice A2 n2 c2] 25)) z7 (row5 (one_row T2)).1
  have B1 := (B1.alloc _).below T2
  have T2 := nxt ((Below.refl _ w1).alloc (Nat.le_refl _) _) T2
  have T2 := nxt T1 T2
  have B1 := B1.alloc (.cells #[.int .i64 (k : Int), .int .u64 (x : Int), .int .u64 (y : Int), .int .u64 (z : Int), .slice A2 n2 c2] 25)
  have B2 := B2.alloc (.cells #[.int .i64 (k : Int), .int .u64 (x : Int), .int .u64 (y : Int), .int .u64 (z : Int), .slice A2 n2 c2] 25)
  have T2 := T2.alloc T2.size (.cells #[.int .i64 (k : Int), .int .u64 (x : Int), .int .u64 (y : Int), .int .u64 (z : Int), .slice A2 n2 c2] 25)
  go_wp2_with (fail)
  refine (num15_any _ _).mono ?_
  rintro e w3 ⟨rfl, rfl⟩
  go_wp2_with (fail)
  refine (H6.out _ _ _ _ _ _ _ B1 B2).mono ?_
  rintro e w3 ⟨rfl, T3⟩
  have T3 := nxt T2 T3
  clear B1 B2 q1 q2 q3 q4 q5
  go_wp2_with (fail)
  refine (HL.out _ T3).mono ?_
  rintro e w4 ⟨rfl, T4⟩
  have T4 := nxt T3 T4
  go_wp2
  go_ret
  exact ⟨rfl, T4⟩
end Go.Proofs.YtabackggnkplhaaDoor
