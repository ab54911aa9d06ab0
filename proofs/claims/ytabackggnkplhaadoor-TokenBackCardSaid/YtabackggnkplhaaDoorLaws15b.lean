/- The walk of layer 15's TokenBack, over the contracts of token. -/
import Derived.Test.YtabackggnkplhaaDoorTkC
import Derived.Deep.RegionHeld3
namespace Go.Proofs.YtabackggnkplhaaDoor
open Go.RowKit
set_option maxRecDepth 20000

set_option maxHeartbeats 8000000 in
theorem back15_nn {Tab : World → Prop} (C : TkC Tab) (k : Int) (x y z : Nat) (A : Option Addr) (n c : Nat) (d : List UInt8) (A' : Option Addr) (n' c' : Nat) (b : List UInt8) (w : World) (hT : Tab w) (hk : I64 k) (hx : x < 18446744073709551616) (hy : y < 18446744073709551616) (hz : z < 18446744073709551616) (hB : Bys w A n c d) (hB' : Bys w A' n' c' b) (hn' : n' ≤ 140737488355328) (hr : tkRight k y z n = false) (ho : tkGetE b ≠ 0) :
    Calls Tryd.prog 5 #[.agg #[.int .i64 k, .int .u64 (x : Int), .int .u64 (y : Int), .int .u64 (z : Int), .slice A n c], .slice A' n' c'] w fun e w' => e = .returned (.bool true) ∧ Below w.heap.size w w' := by
  have hlen := hB.len
  have HL := Lib.hid (fun W (h : Below w.heap.size w W) => live15_any C W (C.keep _ _ hT h))
  have H1 := Lib.hid (fun W (h : Below w.heap.size w W) => C.put k x y z A n c d W hk hx hy hz (hB.below h) (C.keep _ _ hT h))
  have H6 := Lib.hid (fun W (h : Below w.heap.size w W) => C.get A' n' c' b W (hB'.below h) hn' (C.keep _ _ hT h))
  have HB' := Lib.hid (fun W (h : Below w.heap.size w W) => hB'.below h)
  rw [show tkErr k y z n = 130 by unfold tkErr; rw [hr]; rfl] at H1
  generalize tkPut k x y z d = X at *
  obtain ⟨⟨y1, y2, y3, y4, y5⟩, hyv⟩ : ∃ v, tkV b = v := ⟨_, rfl⟩
  rw [hyv] at H6
  unfold GivesTk at H6
  simp only at H6
  have H8 := Lib.hid (fun W B m e (h : Below w.heap.size w W) h' => C.same k x y z A n c d (y1 : Int) y2 y3 y4 B m e y5 W (hB.below h) h')
  have H9 := Lib.hid (fun W B m e (h : Below w.heap.size w W) h' => rtksame_any k x y z A n c d (y1 : Int) y2 y3 y4 B m e y5 W (hB.below h) h')
  generalize tkSame k x y z d (y1 : Int) y2 y3 y4 y5 = tt at *
  have et : (tt != tt) = false := by simp
  have hob : (tkGetE b != 0) = true := by simpa using ho
  generalize tkGetE b = E0 at *
  clear hB hB' hn' hk hx hy hz hr ho hlen hyv hT
  go_enter Tryd.func5, Tryd.ntmps5
  go_wp2_with (fail)
  refine (H1.out _ ((Below.refl _ w).alloc (Nat.le_refl _) _)).mono ?_
  rintro e w1 ⟨A1, n1, c1, rfl, B1, T1⟩
  have z1 : w.heap.size < w1.heap.size := lt_row (one_row T1)
  have Q1 := Lib.hid (row5 (one_row T1)).1
  have T1 := nxt ((Below.refl _ w).alloc (Nat.le_refl _) _) T1
  go_wp2_with (fail)
  refine (num15_any _ _).mono ?_
  rintro e w9 ⟨rfl, rfl⟩
  go_wp2_with (fail)
  refine (H6.out _ T1).mono ?_
  rintro e w10 ⟨A10, n10, c10, rfl, B10, T10⟩
  have q10 := rows_below5 T10 z1 Q1.out
  have z10 := Nat.lt_of_lt_of_le z1 T10.size
  have T10 := nxt T1 T10
  have Q11 : Hid (((w10.alloc (.cells #[.int .i64 (y1 : Int), .int .u64 (y2 : Int), .int .u64 (y3 : Int), .int .u64 (y4 : Int), .slice A10 n10 c10] 25)).cell? ⟨w.heap.size, 0, none⟩ = some (.int .i64 k) ∧ (w10.alloc (.cells #[.int .i64 (y1 : Int), .int .u64 (y2 : Int), .int .u64 (y3 : Int), .int .u64 (y4 : Int), .slice A10 n10 c10] 25)).cell? ⟨w.heap.size, 1, none⟩ = some (.int .u64 (x : Int)) ∧ (w10.alloc (.cells #[.int .i64 (y1 : Int), .int .u64 (y2 : Int), .int .u64 (y3 : Int), .int .u64 (y4 : Int), .slice A10 n10 c10] 25)).cell? ⟨w.heap.size, 2, none⟩ = some (.int .u64 (y : Int)) ∧ (w10.alloc (.cells #[.int .i64 (y1 : Int), .int .u64 (y2 : Int), .int .u64 (y3 : Int), .int .u64 (y4 : Int), .slice A10 n10 c10] 25)).cell? ⟨w.heap.size, 3, none⟩ = some (.int .u64 (z : Int)) ∧ (w10.alloc (.cells #[.int .i64 (y1 : Int), .int .u64 (y2 : Int), .int .u64 (y3 : Int), .int .u64 (y4 : Int), .slice A10 n10 c10] 25)).cell? ⟨w.heap.size, 4, none⟩ = some (Value.slice A n c)) ∧ (w10.alloc (.cells #[.int .i64 (y1 : Int), .int .u64 (y2 : Int), .int .u64 (y3 : Int), .int .u64 (y4 : Int), .slice A10 n10 c10] 25)).cell? ⟨w10.heap.size, 0, none⟩ = some (Value.int .i64 (y1 : Int)) ∧ (w10.alloc (.cells #[.int .i64 (y1 : Int), .int .u64 (y2 : Int), .int .u64 (y3 : Int), .int .u64 (y4 : Int), .slice A10 n10 c10] 25)).cell? ⟨w10.heap.size, 1, none⟩ = some (Value.int .u64 (y2 : Int)) ∧ (w10.alloc (.cells #[.int .i64 (y1 : Int), .int .u64 (y2 : Int), .int .u64 (y3 : Int), .int .u64 (y4 : Int), .slice A10 n10 c10] 25)).cell? ⟨w10.heap.size, 2, none⟩ = some (Value.int .u64 (y3 : Int)) ∧ (w10.alloc (.cells #[.int .i64 (y1 : Int), .int .u64 (y2 : Int), .int .u64 (y3 : Int), .int .u64 (y4 : Int), .slice A10 n10 c10] 25)).cell? ⟨w10.heap.size, 3, none⟩ = some (Value.int .u64 (y4 : Int)) ∧ (w10.alloc (.cells #[.int .i64 (y1 : Int), .int .u64 (y2 : Int), .int .u64 (y3 : Int), .int .u64 (y4 : Int), .slice A10 n10 c10] 25)).cell? ⟨w10.heap.size, 4, none⟩ = some (Value.slice A10 n10 c10)) := ⟨rows_below5 ((Below.refl w10.heap.size w10).alloc (Nat.le_refl _) _) z10 q10, (row5 (heap_alloc_new w10 _)).1⟩
  have T11 := T10.alloc T10.size (.cells #[.int .i64 (y1 : Int), .int .u64 (y2 : Int), .int .u64 (y3 : Int), .int .u64 (y4 : Int), .slice A10 n10 c10] 25)
  have B11 := B10.alloc (.cells #[.int .i64 (y1 : Int), .int .u64 (y2 : Int), .int .u64 (y3 : Int), .int .u64 (y4 : Int), .slice A10 n10 c10] 25)
  have z11 : w10.heap.size < (w10.alloc (.cells #[.int .i64 (y1 : Int), .int .u64 (y2 : Int), .int .u64 (y3 : Int), .int .u64 (y4 : Int), .slice A10 n10 c10] 25)).heap.size := by simp
  clear q10 B10
  go_wp2_with (fail)
  generalize (w10.alloc (.cells #[.int .i64 (y1 : Int), .int .u64 (y2 : Int), .int .u64 (y3 : Int), .int .u64 (y4 : Int), .slice A10 n10 c10] 25)) = W11 at *
  go_region_held3 (fun w' => (w'.cell? ⟨w.heap.size, 0, none⟩ = some (.int .i64 k) ∧ w'.cell? ⟨w.heap.size, 1, none⟩ = some (.int .u64 (x : Int)) ∧ w'.cell? ⟨w.heap.size, 2, none⟩ = some (.int .u64 (y : Int)) ∧ w'.cell? ⟨w.heap.size, 3, none⟩ = some (.int .u64 (z : Int)) ∧ w'.cell? ⟨w.heap.size, 4, none⟩ = some (Value.slice A n c)) ∧ w'.cell? ⟨w10.heap.size, 0, none⟩ = some (Value.int .i64 (y1 : Int)) ∧ w'.cell? ⟨w10.heap.size, 1, none⟩ = some (Value.int .u64 (y2 : Int)) ∧ w'.cell? ⟨w10.heap.size, 2, none⟩ = some (Value.int .u64 (y3 : Int)) ∧ w'.cell? ⟨w10.heap.size, 3, none⟩ = some (Value.int .u64 (y4 : Int)) ∧ w'.cell? ⟨w10.heap.size, 4, none⟩ = some (Value.slice A10 n10 c10)) (first | exact Q11.out | exact Q12.out | exact Q13.out)
    (first
      | (go_at_call 14; (with_reducible refine (H8.out _ _ _ _ T11.drew B11.drew).mono ?_); rintro e w12 ⟨rfl, T12⟩; have T12 := undrew T12; have Q12 : Hid ((w12.cell? ⟨w.heap.size, 0, none⟩ = some (.int .i64 k) ∧ w12.cell? ⟨w.heap.size, 1, none⟩ = some (.int .u64 (x : Int)) ∧ w12.cell? ⟨w.heap.size, 2, none⟩ = some (.int .u64 (y : Int)) ∧ w12.cell? ⟨w.heap.size, 3, none⟩ = some (.int .u64 (z : Int)) ∧ w12.cell? ⟨w.heap.size, 4, none⟩ = some (Value.slice A n c)) ∧ w12.cell? ⟨w10.heap.size, 0, none⟩ = some (Value.int .i64 (y1 : Int)) ∧ w12.cell? ⟨w10.heap.size, 1, none⟩ = some (Value.int .u64 (y2 : Int)) ∧ w12.cell? ⟨w10.heap.size, 2, none⟩ = some (Value.int .u64 (y3 : Int)) ∧ w12.cell? ⟨w10.heap.size, 3, none⟩ = some (Value.int .u64 (y4 : Int)) ∧ w12.cell? ⟨w10.heap.size, 4, none⟩ = some (Value.slice A10 n10 c10)) := ⟨rows_below5 T12 (by omega) Q11.out.1, rows_below5 T12 z11 Q11.out.2⟩; have z12 := Nat.lt_of_lt_of_le z11 T12.size; have B12 := B11.below T12; have T12 := nxt T11 T12)
      | (go_at_call 13; (with_reducible refine (H9.out _ _ _ _ T12 B12).mono ?_); rintro e w13 ⟨rfl, T13⟩; have Q13 : Hid ((w13.cell? ⟨w.heap.size, 0, none⟩ = some (.int .i64 k) ∧ w13.cell? ⟨w.heap.size, 1, none⟩ = some (.int .u64 (x : Int)) ∧ w13.cell? ⟨w.heap.size, 2, none⟩ = some (.int .u64 (y : Int)) ∧ w13.cell? ⟨w.heap.size, 3, none⟩ = some (.int .u64 (z : Int)) ∧ w13.cell? ⟨w.heap.size, 4, none⟩ = some (Value.slice A n c)) ∧ w13.cell? ⟨w10.heap.size, 0, none⟩ = some (Value.int .i64 (y1 : Int)) ∧ w13.cell? ⟨w10.heap.size, 1, none⟩ = some (Value.int .u64 (y2 : Int)) ∧ w13.cell? ⟨w10.heap.size, 2, none⟩ = some (Value.int .u64 (y3 : Int)) ∧ w13.cell? ⟨w10.heap.size, 3, none⟩ = some (Value.int .u64 (y4 : Int)) ∧ w13.cell? ⟨w10.heap.size, 4, none⟩ = some (Value.slice A10 n10 c10)) := ⟨rows_below5 T13 (by omega) Q12.out.1, rows_below5 T13 z12 Q12.out.2⟩; have z13 := Nat.lt_of_lt_of_le z12 T13.size; have B13 := B12.below T13; have T13 := nxt T12 T13))
  go_wp2_with (fail)
  refine (num15_any _ _).mono ?_
  rintro e w9 ⟨rfl, rfl⟩
  go_wp2_with (fail)
  refine (HL.out _ T13).mono ?_
  rintro e w14 ⟨rfl, T14⟩
  have T14 := nxt T13 T14
  go_wp2
  go_ret
  exact ⟨rfl, T14⟩
set_option maxHeartbeats 8000000 in
theorem back15_ny {Tab : World → Prop} (C : TkC Tab) (k : Int) (x y z : Nat) (A : Option Addr) (n c : Nat) (d : List UInt8) (A' : Option Addr) (n' c' : Nat) (b : List UInt8) (w : World) (hT : Tab w) (hk : I64 k) (hx : x < 18446744073709551616) (hy : y < 18446744073709551616) (hz : z < 18446744073709551616) (hB : Bys w A n c d) (hB' : Bys w A' n' c' b) (hn' : n' ≤ 140737488355328) (hr : tkRight k y z n = false) (ho : tkGetE b = 0) :
    Calls Tryd.prog 5 #[.agg #[.int .i64 k, .int .u64 (x : Int), .int .u64 (y : Int), .int .u64 (z : Int), .slice A n c], .slice A' n' c'] w fun e w' => e = .returned (.bool true) ∧ Below w.heap.size w w' := by
  have hlen := hB.len
  have HL := Lib.hid (fun W (h : Below w.heap.size w W) => live15_any C W (C.keep _ _ hT h))
  have H1 := Lib.hid (fun W (h : Below w.heap.size w W) => C.put k x y z A n c d W hk hx hy hz (hB.below h) (C.keep _ _ hT h))
  have H6 := Lib.hid (fun W (h : Below w.heap.size w W) => C.get A' n' c' b W (hB'.below h) hn' (C.keep _ _ hT h))
  have HB' := Lib.hid (fun W (h : Below w.heap.size w W) => hB'.below h)
  rw [show tkErr k y z n = 130 by unfold tkErr; rw [hr]; rfl] at H1
  generalize tkPut k x y z d = X at *
  obtain ⟨⟨y1, y2, y3, y4, y5⟩, hyv⟩ : ∃ v, tkV b = v := ⟨_, rfl⟩
  rw [hyv] at H6
  unfold GivesTk at H6
  simp only at H6
  have H8 := Lib.hid (fun W B m e (h : Below w.heap.size w W) h' => C.same k x y z A n c d (y1 : Int) y2 y3 y4 B m e y5 W (hB.below h) h')
  have H9 := Lib.hid (fun W B m e (h : Below w.heap.size w W) h' => rtksame_any k x y z A n c d (y1 : Int) y2 y3 y4 B m e y5 W (hB.below h) h')
  generalize tkSame k x y z d (y1 : Int) y2 y3 y4 y5 = tt at *
  have et : (tt != tt) = false := by simp
  have hgo : tkGet b = some (y1, y2, y3, y4, y5) := by
    unfold tkGetE at ho
    split at ho
    · rename_i h1
      obtain ⟨v, hv⟩ := Option.isSome_iff_exists.1 h1
      rw [tkV_some hv] at hyv
      rw [hv, hyv]
    · omega
  obtain ⟨he, hpb, hu2, hu3, hu4⟩ := tkPut_get b y1 y2 y3 y4 y5 hgo
  have hy1 : I64 (y1 : Int) := by
    have h1 := tkRight_kind he
    unfold I64
    omega
  have h7 := fun W B m e (h0 : Below w.heap.size w W) (h : Bys W B m e y5) => (show tkErr (y1 : Int) y3 y4 m = 0 by unfold tkErr; rw [← h.len, he]; rfl) ▸ hpb ▸ C.put (y1 : Int) y2 y3 y4 B m e y5 W hy1 hu2 hu3 hu4 h (C.keep _ _ hT h0)
  have H7 := Lib.hid h7
  rw [ho] at H6
  clear h7 hgo he hpb hu2 hu3 hu4 hy1
  clear hB hB' hn' hk hx hy hz hr ho hlen hyv hT
  go_enter Tryd.func5, Tryd.ntmps5
  go_wp2_with (fail)
  refine (H1.out _ ((Below.refl _ w).alloc (Nat.le_refl _) _)).mono ?_
  rintro e w1 ⟨A1, n1, c1, rfl, B1, T1⟩
  have z1 : w.heap.size < w1.heap.size := lt_row (one_row T1)
  have Q1 := Lib.hid (row5 (one_row T1)).1
  have T1 := nxt ((Below.refl _ w).alloc (Nat.le_refl _) _) T1
  go_wp2_with (fail)
  refine (num15_any _ _).mono ?_
  rintro e w9 ⟨rfl, rfl⟩
  go_wp2_with (fail)
  refine (H6.out _ T1).mono ?_
  rintro e w10 ⟨A10, n10, c10, rfl, B10, T10⟩
  have q10 := rows_below5 T10 z1 Q1.out
  have z10 := Nat.lt_of_lt_of_le z1 T10.size
  have T10 := nxt T1 T10
  have Q11 : Hid (((w10.alloc (.cells #[.int .i64 (y1 : Int), .int .u64 (y2 : Int), .int .u64 (y3 : Int), .int .u64 (y4 : Int), .slice A10 n10 c10] 25)).cell? ⟨w.heap.size, 0, none⟩ = some (.int .i64 k) ∧ (w10.alloc (.cells #[.int .i64 (y1 : Int), .int .u64 (y2 : Int), .int .u64 (y3 : Int), .int .u64 (y4 : Int), .slice A10 n10 c10] 25)).cell? ⟨w.heap.size, 1, none⟩ = some (.int .u64 (x : Int)) ∧ (w10.alloc (.cells #[.int .i64 (y1 : Int), .int .u64 (y2 : Int), .int .u64 (y3 : Int), .int .u64 (y4 : Int), .slice A10 n10 c10] 25)).cell? ⟨w.heap.size, 2, none⟩ = some (.int .u64 (y : Int)) ∧ (w10.alloc (.cells #[.int .i64 (y1 : Int), .int .u64 (y2 : Int), .int .u64 (y3 : Int), .int .u64 (y4 : Int), .slice A10 n10 c10] 25)).cell? ⟨w.heap.size, 3, none⟩ = some (.int .u64 (z : Int)) ∧ (w10.alloc (.cells #[.int .i64 (y1 : Int), .int .u64 (y2 : Int), .int .u64 (y3 : Int), .int .u64 (y4 : Int), .slice A10 n10 c10] 25)).cell? ⟨w.heap.size, 4, none⟩ = some (Value.slice A n c)) ∧ (w10.alloc (.cells #[.int .i64 (y1 : Int), .int .u64 (y2 : Int), .int .u64 (y3 : Int), .int .u64 (y4 : Int), .slice A10 n10 c10] 25)).cell? ⟨w10.heap.size, 0, none⟩ = some (Value.int .i64 (y1 : Int)) ∧ (w10.alloc (.cells #[.int .i64 (y1 : Int), .int .u64 (y2 : Int), .int .u64 (y3 : Int), .int .u64 (y4 : Int), .slice A10 n10 c10] 25)).cell? ⟨w10.heap.size, 1, none⟩ = some (Value.int .u64 (y2 : Int)) ∧ (w10.alloc (.cells #[.int .i64 (y1 : Int), .int .u64 (y2 : Int), .int .u64 (y3 : Int), .int .u64 (y4 : Int), .slice A10 n10 c10] 25)).cell? ⟨w10.heap.size, 2, none⟩ = some (Value.int .u64 (y3 : Int)) ∧ (w10.alloc (.cells #[.int .i64 (y1 : Int), .int .u64 (y2 : Int), .int .u64 (y3 : Int), .int .u64 (y4 : Int), .slice A10 n10 c10] 25)).cell? ⟨w10.heap.size, 3, none⟩ = some (Value.int .u64 (y4 : Int)) ∧ (w10.alloc (.cells #[.int .i64 (y1 : Int), .int .u64 (y2 : Int), .int .u64 (y3 : Int), .int .u64 (y4 : Int), .slice A10 n10 c10] 25)).cell? ⟨w10.heap.size, 4, none⟩ = some (Value.slice A10 n10 c10)) := ⟨rows_below5 ((Below.refl w10.heap.size w10).alloc (Nat.le_refl _) _) z10 q10, (row5 (heap_alloc_new w10 _)).1⟩
  have T11 := T10.alloc T10.size (.cells #[.int .i64 (y1 : Int), .int .u64 (y2 : Int), .int .u64 (y3 : Int), .int .u64 (y4 : Int), .slice A10 n10 c10] 25)
  have B11 := B10.alloc (.cells #[.int .i64 (y1 : Int), .int .u64 (y2 : Int), .int .u64 (y3 : Int), .int .u64 (y4 : Int), .slice A10 n10 c10] 25)
  have z11 : w10.heap.size < (w10.alloc (.cells #[.int .i64 (y1 : Int), .int .u64 (y2 : Int), .int .u64 (y3 : Int), .int .u64 (y4 : Int), .slice A10 n10 c10] 25)).heap.size := by simp
  clear q10 B10
  go_wp2_with (fail)
  generalize (w10.alloc (.cells #[.int .i64 (y1 : Int), .int .u64 (y2 : Int), .int .u64 (y3 : Int), .int .u64 (y4 : Int), .slice A10 n10 c10] 25)) = W11 at *
  go_region_held3 (fun w' => (w'.cell? ⟨w.heap.size, 0, none⟩ = some (.int .i64 k) ∧ w'.cell? ⟨w.heap.size, 1, none⟩ = some (.int .u64 (x : Int)) ∧ w'.cell? ⟨w.heap.size, 2, none⟩ = some (.int .u64 (y : Int)) ∧ w'.cell? ⟨w.heap.size, 3, none⟩ = some (.int .u64 (z : Int)) ∧ w'.cell? ⟨w.heap.size, 4, none⟩ = some (Value.slice A n c)) ∧ w'.cell? ⟨w10.heap.size, 0, none⟩ = some (Value.int .i64 (y1 : Int)) ∧ w'.cell? ⟨w10.heap.size, 1, none⟩ = some (Value.int .u64 (y2 : Int)) ∧ w'.cell? ⟨w10.heap.size, 2, none⟩ = some (Value.int .u64 (y3 : Int)) ∧ w'.cell? ⟨w10.heap.size, 3, none⟩ = some (Value.int .u64 (y4 : Int)) ∧ w'.cell? ⟨w10.heap.size, 4, none⟩ = some (Value.slice A10 n10 c10)) (first | exact Q11.out | exact Q12.out | exact Q13.out)
    (first
      | (go_at_call 14; (with_reducible refine (H8.out _ _ _ _ T11.drew B11.drew).mono ?_); rintro e w12 ⟨rfl, T12⟩; have T12 := undrew T12; have Q12 : Hid ((w12.cell? ⟨w.heap.size, 0, none⟩ = some (.int .i64 k) ∧ w12.cell? ⟨w.heap.size, 1, none⟩ = some (.int .u64 (x : Int)) ∧ w12.cell? ⟨w.heap.size, 2, none⟩ = some (.int .u64 (y : Int)) ∧ w12.cell? ⟨w.heap.size, 3, none⟩ = some (.int .u64 (z : Int)) ∧ w12.cell? ⟨w.heap.size, 4, none⟩ = some (Value.slice A n c)) ∧ w12.cell? ⟨w10.heap.size, 0, none⟩ = some (Value.int .i64 (y1 : Int)) ∧ w12.cell? ⟨w10.heap.size, 1, none⟩ = some (Value.int .u64 (y2 : Int)) ∧ w12.cell? ⟨w10.heap.size, 2, none⟩ = some (Value.int .u64 (y3 : Int)) ∧ w12.cell? ⟨w10.heap.size, 3, none⟩ = some (Value.int .u64 (y4 : Int)) ∧ w12.cell? ⟨w10.heap.size, 4, none⟩ = some (Value.slice A10 n10 c10)) := ⟨rows_below5 T12 (by omega) Q11.out.1, rows_below5 T12 z11 Q11.out.2⟩; have z12 := Nat.lt_of_lt_of_le z11 T12.size; have B12 := B11.below T12; have T12 := nxt T11 T12)
      | (go_at_call 13; (with_reducible refine (H9.out _ _ _ _ T12 B12).mono ?_); rintro e w13 ⟨rfl, T13⟩; have Q13 : Hid ((w13.cell? ⟨w.heap.size, 0, none⟩ = some (.int .i64 k) ∧ w13.cell? ⟨w.heap.size, 1, none⟩ = some (.int .u64 (x : Int)) ∧ w13.cell? ⟨w.heap.size, 2, none⟩ = some (.int .u64 (y : Int)) ∧ w13.cell? ⟨w.heap.size, 3, none⟩ = some (.int .u64 (z : Int)) ∧ w13.cell? ⟨w.heap.size, 4, none⟩ = some (Value.slice A n c)) ∧ w13.cell? ⟨w10.heap.size, 0, none⟩ = some (Value.int .i64 (y1 : Int)) ∧ w13.cell? ⟨w10.heap.size, 1, none⟩ = some (Value.int .u64 (y2 : Int)) ∧ w13.cell? ⟨w10.heap.size, 2, none⟩ = some (Value.int .u64 (y3 : Int)) ∧ w13.cell? ⟨w10.heap.size, 3, none⟩ = some (Value.int .u64 (y4 : Int)) ∧ w13.cell? ⟨w10.heap.size, 4, none⟩ = some (Value.slice A10 n10 c10)) := ⟨rows_below5 T13 (by omega) Q12.out.1, rows_below5 T13 z12 Q12.out.2⟩; have z13 := Nat.lt_of_lt_of_le z12 T13.size; have B13 := B12.below T13; have T13 := nxt T12 T13))
  go_wp2_with (fail)
  refine (num15_any _ _).mono ?_
  rintro e w9 ⟨rfl, rfl⟩
  obtain ⟨q4, q5, q6, q7, q8⟩ := Q13.out.2
  go_wp2_with (fail)
  refine (H7.out _ _ _ _ T13 B13).mono ?_
  rintro e w14 ⟨A14, n14, c14, rfl, B14, T14⟩
  have T14 := nxt T13 T14
  clear q4 q5 q6 q7 q8
  go_wp2_with (fail)
  refine (num15_any _ _).mono ?_
  rintro e w9 ⟨rfl, rfl⟩
  go_wp2_with (fail)
  refine (same_true _ _ _ _ _ _ _ _ B14 (HB'.out _ T14)).mono ?_
  rintro e w15 ⟨rfl, T15⟩
  have T15 := nxt T14 T15
  go_wp2_with (fail)
  refine (HL.out _ T15).mono ?_
  rintro e w16 ⟨rfl, T16⟩
  have T16 := nxt T15 T16
  go_wp2
  go_ret
  exact ⟨rfl, T16⟩
set_option maxHeartbeats 8000000 in
theorem back15_yn {Tab : World → Prop} (C : TkC Tab) (k : Int) (x y z : Nat) (A : Option Addr) (n c : Nat) (d : List UInt8) (A' : Option Addr) (n' c' : Nat) (b : List UInt8) (w : World) (hT : Tab w) (hk : I64 k) (hx : x < 18446744073709551616) (hy : y < 18446744073709551616) (hz : z < 18446744073709551616) (hB : Bys w A n c d) (hB' : Bys w A' n' c' b) (hn' : n' ≤ 140737488355328) (hr : tkRight k y z n = true) (ho : tkGetE b ≠ 0) :
    Calls Tryd.prog 5 #[.agg #[.int .i64 k, .int .u64 (x : Int), .int .u64 (y : Int), .int .u64 (z : Int), .slice A n c], .slice A' n' c'] w fun e w' => e = .returned (.bool true) ∧ Below w.heap.size w w' := by
  have hlen := hB.len
  have HL := Lib.hid (fun W (h : Below w.heap.size w W) => live15_any C W (C.keep _ _ hT h))
  have H1 := Lib.hid (fun W (h : Below w.heap.size w W) => C.put k x y z A n c d W hk hx hy hz (hB.below h) (C.keep _ _ hT h))
  have H6 := Lib.hid (fun W (h : Below w.heap.size w W) => C.get A' n' c' b W (hB'.below h) hn' (C.keep _ _ hT h))
  have HB' := Lib.hid (fun W (h : Below w.heap.size w W) => hB'.below h)
  obtain ⟨hp, hg, hbl⟩ := tkGet_put k x y z d hx hy hz (by rw [hlen]; exact hr)
  have hv := tkV_some hg
  have hge : tkGetE (tkPut k x y z d) = 0 := by
    unfold tkGetE
    rw [hg]
    rfl
  have hk0 : ((k.toNat : Nat) : Int) = k := by have := tkRight_kind hr; omega
  have H2 := Lib.hid (fun W B m e (h0 : Below w.heap.size w W) (h : Bys W B m e (tkPut k x y z d)) => C.get B m e (tkPut k x y z d) W h (by have := h.len; omega) (C.keep _ _ hT h0))
  rw [hv, hge] at H2
  unfold GivesTk at H2
  simp only [hk0] at H2
  have H4 := Lib.hid (fun W B m e (h : Below w.heap.size w W) h' => C.same k x y z A n c d k x y z B m e d W (hB.below h) h')
  simp only [tkSame_self] at H4
  rw [show tkErr k y z n = 0 by unfold tkErr; rw [hr]; rfl] at H1
  generalize tkPut k x y z d = X at *
  clear hp hg hv hge hk0 hbl
  obtain ⟨⟨y1, y2, y3, y4, y5⟩, hyv⟩ : ∃ v, tkV b = v := ⟨_, rfl⟩
  rw [hyv] at H6
  unfold GivesTk at H6
  simp only at H6
  have H8 := Lib.hid (fun W B m e (h : Below w.heap.size w W) h' => C.same k x y z A n c d (y1 : Int) y2 y3 y4 B m e y5 W (hB.below h) h')
  have H9 := Lib.hid (fun W B m e (h : Below w.heap.size w W) h' => rtksame_any k x y z A n c d (y1 : Int) y2 y3 y4 B m e y5 W (hB.below h) h')
  generalize tkSame k x y z d (y1 : Int) y2 y3 y4 y5 = tt at *
  have et : (tt != tt) = false := by simp
  have hob : (tkGetE b != 0) = true := by simpa using ho
  generalize tkGetE b = E0 at *
  clear hB hB' hn' hk hx hy hz hr ho hlen hyv hT
  go_enter Tryd.func5, Tryd.ntmps5
  go_wp2_with (fail)
  refine (H1.out _ ((Below.refl _ w).alloc (Nat.le_refl _) _)).mono ?_
  rintro e w1 ⟨A1, n1, c1, rfl, B1, T1⟩
  have z1 : w.heap.size < w1.heap.size := lt_row (one_row T1)
  have Q1 := Lib.hid (row5 (one_row T1)).1
  have T1 := nxt ((Below.refl _ w).alloc (Nat.le_refl _) _) T1
  go_wp2_with (fail)
  refine (num15_any _ _).mono ?_
  rintro e w9 ⟨rfl, rfl⟩
  go_wp2_with (fail)
  refine (H2.out _ _ _ _ T1 B1).mono ?_
  rintro e w2 ⟨A2, n2, c2, rfl, B2, T2⟩
  have q2 := rows_below5 T2 z1 Q1.out
  have z2 := Nat.lt_of_lt_of_le z1 T2.size
  have T2 := nxt T1 T2
  have B2 := B2.alloc (.cells #[.int .i64 k, .int .u64 (x : Int), .int .u64 (y : Int), .int .u64 (z : Int), .slice A2 n2 c2] 25)
  have T2a := T2.alloc T2.size (.cells #[.int .i64 k, .int .u64 (x : Int), .int .u64 (y : Int), .int .u64 (z : Int), .slice A2 n2 c2] 25)
  have Q2 := Lib.hid (rows_below5 ((Below.refl w2.heap.size w2).alloc (Nat.le_refl _) (.cells #[.int .i64 k, .int .u64 (x : Int), .int .u64 (y : Int), .int .u64 (z : Int), .slice A2 n2 c2] 25)) z2 q2)
  have z2a : w.heap.size < (w2.alloc (.cells #[.int .i64 k, .int .u64 (x : Int), .int .u64 (y : Int), .int .u64 (z : Int), .slice A2 n2 c2] 25)).heap.size := by simp; omega
  clear q2
  go_wp2_with (fail)
  refine (num15_any _ _).mono ?_
  rintro e w9 ⟨rfl, rfl⟩
  obtain ⟨q0, q1, q2, q3, q4⟩ := Q2.out
  go_wp2_with (fail)
  refine (H4.out _ _ _ _ T2a B2).mono ?_
  rintro e w4 ⟨rfl, T4⟩
  clear q0 q1 q2 q3 q4 B2
  have Q4 := Lib.hid (rows_below5 T4 z2a Q2.out)
  have z4 := Nat.lt_of_lt_of_le z2a T4.size
  have T4 := nxt T2a T4
  go_wp2_with (fail)
  refine (H6.out _ T4).mono ?_
  rintro e w10 ⟨A10, n10, c10, rfl, B10, T10⟩
  have q10 := rows_below5 T10 z4 Q4.out
  have z10 := Nat.lt_of_lt_of_le z4 T10.size
  have T10 := nxt T4 T10
  have Q11 : Hid (((w10.alloc (.cells #[.int .i64 (y1 : Int), .int .u64 (y2 : Int), .int .u64 (y3 : Int), .int .u64 (y4 : Int), .slice A10 n10 c10] 25)).cell? ⟨w.heap.size, 0, none⟩ = some (.int .i64 k) ∧ (w10.alloc (.cells #[.int .i64 (y1 : Int), .int .u64 (y2 : Int), .int .u64 (y3 : Int), .int .u64 (y4 : Int), .slice A10 n10 c10] 25)).cell? ⟨w.heap.size, 1, none⟩ = some (.int .u64 (x : Int)) ∧ (w10.alloc (.cells #[.int .i64 (y1 : Int), .int .u64 (y2 : Int), .int .u64 (y3 : Int), .int .u64 (y4 : Int), .slice A10 n10 c10] 25)).cell? ⟨w.heap.size, 2, none⟩ = some (.int .u64 (y : Int)) ∧ (w10.alloc (.cells #[.int .i64 (y1 : Int), .int .u64 (y2 : Int), .int .u64 (y3 : Int), .int .u64 (y4 : Int), .slice A10 n10 c10] 25)).cell? ⟨w.heap.size, 3, none⟩ = some (.int .u64 (z : Int)) ∧ (w10.alloc (.cells #[.int .i64 (y1 : Int), .int .u64 (y2 : Int), .int .u64 (y3 : Int), .int .u64 (y4 : Int), .slice A10 n10 c10] 25)).cell? ⟨w.heap.size, 4, none⟩ = some (Value.slice A n c)) ∧ (w10.alloc (.cells #[.int .i64 (y1 : Int), .int .u64 (y2 : Int), .int .u64 (y3 : Int), .int .u64 (y4 : Int), .slice A10 n10 c10] 25)).cell? ⟨w10.heap.size, 0, none⟩ = some (Value.int .i64 (y1 : Int)) ∧ (w10.alloc (.cells #[.int .i64 (y1 : Int), .int .u64 (y2 : Int), .int .u64 (y3 : Int), .int .u64 (y4 : Int), .slice A10 n10 c10] 25)).cell? ⟨w10.heap.size, 1, none⟩ = some (Value.int .u64 (y2 : Int)) ∧ (w10.alloc (.cells #[.int .i64 (y1 : Int), .int .u64 (y2 : Int), .int .u64 (y3 : Int), .int .u64 (y4 : Int), .slice A10 n10 c10] 25)).cell? ⟨w10.heap.size, 2, none⟩ = some (Value.int .u64 (y3 : Int)) ∧ (w10.alloc (.cells #[.int .i64 (y1 : Int), .int .u64 (y2 : Int), .int .u64 (y3 : Int), .int .u64 (y4 : Int), .slice A10 n10 c10] 25)).cell? ⟨w10.heap.size, 3, none⟩ = some (Value.int .u64 (y4 : Int)) ∧ (w10.alloc (.cells #[.int .i64 (y1 : Int), .int .u64 (y2 : Int), .int .u64 (y3 : Int), .int .u64 (y4 : Int), .slice A10 n10 c10] 25)).cell? ⟨w10.heap.size, 4, none⟩ = some (Value.slice A10 n10 c10)) := ⟨rows_below5 ((Below.refl w10.heap.size w10).alloc (Nat.le_refl _) _) z10 q10, (row5 (heap_alloc_new w10 _)).1⟩
  have T11 := T10.alloc T10.size (.cells #[.int .i64 (y1 : Int), .int .u64 (y2 : Int), .int .u64 (y3 : Int), .int .u64 (y4 : Int), .slice A10 n10 c10] 25)
  have B11 := B10.alloc (.cells #[.int .i64 (y1 : Int), .int .u64 (y2 : Int), .int .u64 (y3 : Int), .int .u64 (y4 : Int), .slice A10 n10 c10] 25)
  have z11 : w10.heap.size < (w10.alloc (.cells #[.int .i64 (y1 : Int), .int .u64 (y2 : Int), .int .u64 (y3 : Int), .int .u64 (y4 : Int), .slice A10 n10 c10] 25)).heap.size := by simp
  clear q10 B10
  go_wp2_with (fail)
  generalize (w10.alloc (.cells #[.int .i64 (y1 : Int), .int .u64 (y2 : Int), .int .u64 (y3 : Int), .int .u64 (y4 : Int), .slice A10 n10 c10] 25)) = W11 at *
  go_region_held3 (fun w' => (w'.cell? ⟨w.heap.size, 0, none⟩ = some (.int .i64 k) ∧ w'.cell? ⟨w.heap.size, 1, none⟩ = some (.int .u64 (x : Int)) ∧ w'.cell? ⟨w.heap.size, 2, none⟩ = some (.int .u64 (y : Int)) ∧ w'.cell? ⟨w.heap.size, 3, none⟩ = some (.int .u64 (z : Int)) ∧ w'.cell? ⟨w.heap.size, 4, none⟩ = some (Value.slice A n c)) ∧ w'.cell? ⟨w10.heap.size, 0, none⟩ = some (Value.int .i64 (y1 : Int)) ∧ w'.cell? ⟨w10.heap.size, 1, none⟩ = some (Value.int .u64 (y2 : Int)) ∧ w'.cell? ⟨w10.heap.size, 2, none⟩ = some (Value.int .u64 (y3 : Int)) ∧ w'.cell? ⟨w10.heap.size, 3, none⟩ = some (Value.int .u64 (y4 : Int)) ∧ w'.cell? ⟨w10.heap.size, 4, none⟩ = some (Value.slice A10 n10 c10)) (first | exact Q11.out | exact Q12.out | exact Q13.out)
    (first
      | (go_at_call 14; (with_reducible refine (H8.out _ _ _ _ T11.drew B11.drew).mono ?_); rintro e w12 ⟨rfl, T12⟩; have T12 := undrew T12; have Q12 : Hid ((w12.cell? ⟨w.heap.size, 0, none⟩ = some (.int .i64 k) ∧ w12.cell? ⟨w.heap.size, 1, none⟩ = some (.int .u64 (x : Int)) ∧ w12.cell? ⟨w.heap.size, 2, none⟩ = some (.int .u64 (y : Int)) ∧ w12.cell? ⟨w.heap.size, 3, none⟩ = some (.int .u64 (z : Int)) ∧ w12.cell? ⟨w.heap.size, 4, none⟩ = some (Value.slice A n c)) ∧ w12.cell? ⟨w10.heap.size, 0, none⟩ = some (Value.int .i64 (y1 : Int)) ∧ w12.cell? ⟨w10.heap.size, 1, none⟩ = some (Value.int .u64 (y2 : Int)) ∧ w12.cell? ⟨w10.heap.size, 2, none⟩ = some (Value.int .u64 (y3 : Int)) ∧ w12.cell? ⟨w10.heap.size, 3, none⟩ = some (Value.int .u64 (y4 : Int)) ∧ w12.cell? ⟨w10.heap.size, 4, none⟩ = some (Value.slice A10 n10 c10)) := ⟨rows_below5 T12 (by omega) Q11.out.1, rows_below5 T12 z11 Q11.out.2⟩; have z12 := Nat.lt_of_lt_of_le z11 T12.size; have B12 := B11.below T12; have T12 := nxt T11 T12)
      | (go_at_call 13; (with_reducible refine (H9.out _ _ _ _ T12 B12).mono ?_); rintro e w13 ⟨rfl, T13⟩; have Q13 : Hid ((w13.cell? ⟨w.heap.size, 0, none⟩ = some (.int .i64 k) ∧ w13.cell? ⟨w.heap.size, 1, none⟩ = some (.int .u64 (x : Int)) ∧ w13.cell? ⟨w.heap.size, 2, none⟩ = some (.int .u64 (y : Int)) ∧ w13.cell? ⟨w.heap.size, 3, none⟩ = some (.int .u64 (z : Int)) ∧ w13.cell? ⟨w.heap.size, 4, none⟩ = some (Value.slice A n c)) ∧ w13.cell? ⟨w10.heap.size, 0, none⟩ = some (Value.int .i64 (y1 : Int)) ∧ w13.cell? ⟨w10.heap.size, 1, none⟩ = some (Value.int .u64 (y2 : Int)) ∧ w13.cell? ⟨w10.heap.size, 2, none⟩ = some (Value.int .u64 (y3 : Int)) ∧ w13.cell? ⟨w10.heap.size, 3, none⟩ = some (Value.int .u64 (y4 : Int)) ∧ w13.cell? ⟨w10.heap.size, 4, none⟩ = some (Value.slice A10 n10 c10)) := ⟨rows_below5 T13 (by omega) Q12.out.1, rows_below5 T13 z12 Q12.out.2⟩; have z13 := Nat.lt_of_lt_of_le z12 T13.size; have B13 := B12.below T13; have T13 := nxt T12 T13))
  go_wp2_with (fail)
  refine (num15_any _ _).mono ?_
  rintro e w9 ⟨rfl, rfl⟩
  go_wp2_with (fail)
  refine (HL.out _ T13).mono ?_
  rintro e w14 ⟨rfl, T14⟩
  have T14 := nxt T13 T14
  go_wp2
  go_ret
  exact ⟨rfl, T14⟩
set_option maxHeartbeats 8000000 in
theorem back15_yy {Tab : World → Prop} (C : TkC Tab) (k : Int) (x y z : Nat) (A : Option Addr) (n c : Nat) (d : List UInt8) (A' : Option Addr) (n' c' : Nat) (b : List UInt8) (w : World) (hT : Tab w) (hk : I64 k) (hx : x < 18446744073709551616) (hy : y < 18446744073709551616) (hz : z < 18446744073709551616) (hB : Bys w A n c d) (hB' : Bys w A' n' c' b) (hn' : n' ≤ 140737488355328) (hr : tkRight k y z n = true) (ho : tkGetE b = 0) :
    Calls Tryd.prog 5 #[.agg #[.int .i64 k, .int .u64 (x : Int), .int .u64 (y : Int), .int .u64 (z : Int), .slice A n c], .slice A' n' c'] w fun e w' => e = .returned (.bool true) ∧ Below w.heap.size w w' := by
  have hlen := hB.len
  have HL := Lib.hid (fun W (h : Below w.heap.size w W) => live15_any C W (C.keep _ _ hT h))
  have H1 := Lib.hid (fun W (h : Below w.heap.size w W) => C.put k x y z A n c d W hk hx hy hz (hB.below h) (C.keep _ _ hT h))
  have H6 := Lib.hid (fun W (h : Below w.heap.size w W) => C.get A' n' c' b W (hB'.below h) hn' (C.keep _ _ hT h))
  have HB' := Lib.hid (fun W (h : Below w.heap.size w W) => hB'.below h)
  obtain ⟨hp, hg, hbl⟩ := tkGet_put k x y z d hx hy hz (by rw [hlen]; exact hr)
  have hv := tkV_some hg
  have hge : tkGetE (tkPut k x y z d) = 0 := by
    unfold tkGetE
    rw [hg]
    rfl
  have hk0 : ((k.toNat : Nat) : Int) = k := by have := tkRight_kind hr; omega
  have H2 := Lib.hid (fun W B m e (h0 : Below w.heap.size w W) (h : Bys W B m e (tkPut k x y z d)) => C.get B m e (tkPut k x y z d) W h (by have := h.len; omega) (C.keep _ _ hT h0))
  rw [hv, hge] at H2
  unfold GivesTk at H2
  simp only [hk0] at H2
  have H4 := Lib.hid (fun W B m e (h : Below w.heap.size w W) h' => C.same k x y z A n c d k x y z B m e d W (hB.below h) h')
  simp only [tkSame_self] at H4
  rw [show tkErr k y z n = 0 by unfold tkErr; rw [hr]; rfl] at H1
  generalize tkPut k x y z d = X at *
  clear hp hg hv hge hk0 hbl
  obtain ⟨⟨y1, y2, y3, y4, y5⟩, hyv⟩ : ∃ v, tkV b = v := ⟨_, rfl⟩
  rw [hyv] at H6
  unfold GivesTk at H6
  simp only at H6
  have H8 := Lib.hid (fun W B m e (h : Below w.heap.size w W) h' => C.same k x y z A n c d (y1 : Int) y2 y3 y4 B m e y5 W (hB.below h) h')
  have H9 := Lib.hid (fun W B m e (h : Below w.heap.size w W) h' => rtksame_any k x y z A n c d (y1 : Int) y2 y3 y4 B m e y5 W (hB.below h) h')
  generalize tkSame k x y z d (y1 : Int) y2 y3 y4 y5 = tt at *
  have et : (tt != tt) = false := by simp
  have hgo : tkGet b = some (y1, y2, y3, y4, y5) := by
    unfold tkGetE at ho
    split at ho
    · rename_i h1
      obtain ⟨v, hv⟩ := Option.isSome_iff_exists.1 h1
      rw [tkV_some hv] at hyv
      rw [hv, hyv]
    · omega
  obtain ⟨he, hpb, hu2, hu3, hu4⟩ := tkPut_get b y1 y2 y3 y4 y5 hgo
  have hy1 : I64 (y1 : Int) := by
    have h1 := tkRight_kind he
    unfold I64
    omega
  have h7 := fun W B m e (h0 : Below w.heap.size w W) (h : Bys W B m e y5) => (show tkErr (y1 : Int) y3 y4 m = 0 by unfold tkErr; rw [← h.len, he]; rfl) ▸ hpb ▸ C.put (y1 : Int) y2 y3 y4 B m e y5 W hy1 hu2 hu3 hu4 h (C.keep _ _ hT h0)
  have H7 := Lib.hid h7
  rw [ho] at H6
  clear h7 hgo he hpb hu2 hu3 hu4 hy1
  clear hB hB' hn' hk hx hy hz hr ho hlen hyv hT
  go_enter Tryd.func5, Tryd.ntmps5
  go_wp2_with (fail)
  refine (H1.out _ ((Below.refl _ w).alloc (Nat.le_refl _) _)).mono ?_
  rintro e w1 ⟨A1, n1, c1, rfl, B1, T1⟩
  have z1 : w.heap.size < w1.heap.size := lt_row (one_row T1)
  have Q1 := Lib.hid (row5 (one_row T1)).1
  have T1 := nxt ((Below.refl _ w).alloc (Nat.le_refl _) _) T1
  go_wp2_with (fail)
  refine (num15_any _ _).mono ?_
  rintro e w9 ⟨rfl, rfl⟩
  go_wp2_with (fail)
  refine (H2.out _ _ _ _ T1 B1).mono ?_
  rintro e w2 ⟨A2, n2, c2, rfl, B2, T2⟩
  have q2 := rows_below5 T2 z1 Q1.out
  have z2 := Nat.lt_of_lt_of_le z1 T2.size
  have T2 := nxt T1 T2
  have B2 := B2.alloc (.cells #[.int .i64 k, .int .u64 (x : Int), .int .u64 (y : Int), .int .u64 (z : Int), .slice A2 n2 c2] 25)
  have T2a := T2.alloc T2.size (.cells #[.int .i64 k, .int .u64 (x : Int), .int .u64 (y : Int), .int .u64 (z : Int), .slice A2 n2 c2] 25)
  have Q2 := Lib.hid (rows_below5 ((Below.refl w2.heap.size w2).alloc (Nat.le_refl _) (.cells #[.int .i64 k, .int .u64 (x : Int), .int .u64 (y : Int), .int .u64 (z : Int), .slice A2 n2 c2] 25)) z2 q2)
  have z2a : w.heap.size < (w2.alloc (.cells #[.int .i64 k, .int .u64 (x : Int), .int .u64 (y : Int), .int .u64 (z : Int), .slice A2 n2 c2] 25)).heap.size := by simp; omega
  clear q2
  go_wp2_with (fail)
  refine (num15_any _ _).mono ?_
  rintro e w9 ⟨rfl, rfl⟩
  obtain ⟨q0, q1, q2, q3, q4⟩ := Q2.out
  go_wp2_with (fail)
  refine (H4.out _ _ _ _ T2a B2).mono ?_
  rintro e w4 ⟨rfl, T4⟩
  clear q0 q1 q2 q3 q4 B2
  have Q4 := Lib.hid (rows_below5 T4 z2a Q2.out)
  have z4 := Nat.lt_of_lt_of_le z2a T4.size
  have T4 := nxt T2a T4
  go_wp2_with (fail)
  refine (H6.out _ T4).mono ?_
  rintro e w10 ⟨A10, n10, c10, rfl, B10, T10⟩
  have q10 := rows_below5 T10 z4 Q4.out
  have z10 := Nat.lt_of_lt_of_le z4 T10.size
  have T10 := nxt T4 T10
  have Q11 : Hid (((w10.alloc (.cells #[.int .i64 (y1 : Int), .int .u64 (y2 : Int), .int .u64 (y3 : Int), .int .u64 (y4 : Int), .slice A10 n10 c10] 25)).cell? ⟨w.heap.size, 0, none⟩ = some (.int .i64 k) ∧ (w10.alloc (.cells #[.int .i64 (y1 : Int), .int .u64 (y2 : Int), .int .u64 (y3 : Int), .int .u64 (y4 : Int), .slice A10 n10 c10] 25)).cell? ⟨w.heap.size, 1, none⟩ = some (.int .u64 (x : Int)) ∧ (w10.alloc (.cells #[.int .i64 (y1 : Int), .int .u64 (y2 : Int), .int .u64 (y3 : Int), .int .u64 (y4 : Int), .slice A10 n10 c10] 25)).cell? ⟨w.heap.size, 2, none⟩ = some (.int .u64 (y : Int)) ∧ (w10.alloc (.cells #[.int .i64 (y1 : Int), .int .u64 (y2 : Int), .int .u64 (y3 : Int), .int .u64 (y4 : Int), .slice A10 n10 c10] 25)).cell? ⟨w.heap.size, 3, none⟩ = some (.int .u64 (z : Int)) ∧ (w10.alloc (.cells #[.int .i64 (y1 : Int), .int .u64 (y2 : Int), .int .u64 (y3 : Int), .int .u64 (y4 : Int), .slice A10 n10 c10] 25)).cell? ⟨w.heap.size, 4, none⟩ = some (Value.slice A n c)) ∧ (w10.alloc (.cells #[.int .i64 (y1 : Int), .int .u64 (y2 : Int), .int .u64 (y3 : Int), .int .u64 (y4 : Int), .slice A10 n10 c10] 25)).cell? ⟨w10.heap.size, 0, none⟩ = some (Value.int .i64 (y1 : Int)) ∧ (w10.alloc (.cells #[.int .i64 (y1 : Int), .int .u64 (y2 : Int), .int .u64 (y3 : Int), .int .u64 (y4 : Int), .slice A10 n10 c10] 25)).cell? ⟨w10.heap.size, 1, none⟩ = some (Value.int .u64 (y2 : Int)) ∧ (w10.alloc (.cells #[.int .i64 (y1 : Int), .int .u64 (y2 : Int), .int .u64 (y3 : Int), .int .u64 (y4 : Int), .slice A10 n10 c10] 25)).cell? ⟨w10.heap.size, 2, none⟩ = some (Value.int .u64 (y3 : Int)) ∧ (w10.alloc (.cells #[.int .i64 (y1 : Int), .int .u64 (y2 : Int), .int .u64 (y3 : Int), .int .u64 (y4 : Int), .slice A10 n10 c10] 25)).cell? ⟨w10.heap.size, 3, none⟩ = some (Value.int .u64 (y4 : Int)) ∧ (w10.alloc (.cells #[.int .i64 (y1 : Int), .int .u64 (y2 : Int), .int .u64 (y3 : Int), .int .u64 (y4 : Int), .slice A10 n10 c10] 25)).cell? ⟨w10.heap.size, 4, none⟩ = some (Value.slice A10 n10 c10)) := ⟨rows_below5 ((Below.refl w10.heap.size w10).alloc (Nat.le_refl _) _) z10 q10, (row5 (heap_alloc_new w10 _)).1⟩
  have T11 := T10.alloc T10.size (.cells #[.int .i64 (y1 : Int), .int .u64 (y2 : Int), .int .u64 (y3 : Int), .int .u64 (y4 : Int), .slice A10 n10 c10] 25)
  have B11 := B10.alloc (.cells #[.int .i64 (y1 : Int), .int .u64 (y2 : Int), .int .u64 (y3 : Int), .int .u64 (y4 : Int), .slice A10 n10 c10] 25)
  have z11 : w10.heap.size < (w10.alloc (.cells #[.int .i64 (y1 : Int), .int .u64 (y2 : Int), .int .u64 (y3 : Int), .int .u64 (y4 : Int), .slice A10 n10 c10] 25)).heap.size := by simp
  clear q10 B10
  go_wp2_with (fail)
  generalize (w10.alloc (.cells #[.int .i64 (y1 : Int), .int .u64 (y2 : Int), .int .u64 (y3 : Int), .int .u64 (y4 : Int), .slice A10 n10 c10] 25)) = W11 at *
  go_region_held3 (fun w' => (w'.cell? ⟨w.heap.size, 0, none⟩ = some (.int .i64 k) ∧ w'.cell? ⟨w.heap.size, 1, none⟩ = some (.int .u64 (x : Int)) ∧ w'.cell? ⟨w.heap.size, 2, none⟩ = some (.int .u64 (y : Int)) ∧ w'.cell? ⟨w.heap.size, 3, none⟩ = some (.int .u64 (z : Int)) ∧ w'.cell? ⟨w.heap.size, 4, none⟩ = some (Value.slice A n c)) ∧ w'.cell? ⟨w10.heap.size, 0, none⟩ = some (Value.int .i64 (y1 : Int)) ∧ w'.cell? ⟨w10.heap.size, 1, none⟩ = some (Value.int .u64 (y2 : Int)) ∧ w'.cell? ⟨w10.heap.size, 2, none⟩ = some (Value.int .u64 (y3 : Int)) ∧ w'.cell? ⟨w10.heap.size, 3, none⟩ = some (Value.int .u64 (y4 : Int)) ∧ w'.cell? ⟨w10.heap.size, 4, none⟩ = some (Value.slice A10 n10 c10)) (first | exact Q11.out | exact Q12.out | exact Q13.out)
    (first
      | (go_at_call 14; (with_reducible refine (H8.out _ _ _ _ T11.drew B11.drew).mono ?_); rintro e w12 ⟨rfl, T12⟩; have T12 := undrew T12; have Q12 : Hid ((w12.cell? ⟨w.heap.size, 0, none⟩ = some (.int .i64 k) ∧ w12.cell? ⟨w.heap.size, 1, none⟩ = some (.int .u64 (x : Int)) ∧ w12.cell? ⟨w.heap.size, 2, none⟩ = some (.int .u64 (y : Int)) ∧ w12.cell? ⟨w.heap.size, 3, none⟩ = some (.int .u64 (z : Int)) ∧ w12.cell? ⟨w.heap.size, 4, none⟩ = some (Value.slice A n c)) ∧ w12.cell? ⟨w10.heap.size, 0, none⟩ = some (Value.int .i64 (y1 : Int)) ∧ w12.cell? ⟨w10.heap.size, 1, none⟩ = some (Value.int .u64 (y2 : Int)) ∧ w12.cell? ⟨w10.heap.size, 2, none⟩ = some (Value.int .u64 (y3 : Int)) ∧ w12.cell? ⟨w10.heap.size, 3, none⟩ = some (Value.int .u64 (y4 : Int)) ∧ w12.cell? ⟨w10.heap.size, 4, none⟩ = some (Value.slice A10 n10 c10)) := ⟨rows_below5 T12 (by omega) Q11.out.1, rows_below5 T12 z11 Q11.out.2⟩; have z12 := Nat.lt_of_lt_of_le z11 T12.size; have B12 := B11.below T12; have T12 := nxt T11 T12)
      | (go_at_call 13; (with_reducible refine (H9.out _ _ _ _ T12 B12).mono ?_); rintro e w13 ⟨rfl, T13⟩; have Q13 : Hid ((w13.cell? ⟨w.heap.size, 0, none⟩ = some (.int .i64 k) ∧ w13.cell? ⟨w.heap.size, 1, none⟩ = some (.int .u64 (x : Int)) ∧ w13.cell? ⟨w.heap.size, 2, none⟩ = some (.int .u64 (y : Int)) ∧ w13.cell? ⟨w.heap.size, 3, none⟩ = some (.int .u64 (z : Int)) ∧ w13.cell? ⟨w.heap.size, 4, none⟩ = some (Value.slice A n c)) ∧ w13.cell? ⟨w10.heap.size, 0, none⟩ = some (Value.int .i64 (y1 : Int)) ∧ w13.cell? ⟨w10.heap.size, 1, none⟩ = some (Value.int .u64 (y2 : Int)) ∧ w13.cell? ⟨w10.heap.size, 2, none⟩ = some (Value.int .u64 (y3 : Int)) ∧ w13.cell? ⟨w10.heap.size, 3, none⟩ = some (Value.int .u64 (y4 : Int)) ∧ w13.cell? ⟨w10.heap.size, 4, none⟩ = some (Value.slice A10 n10 c10)) := ⟨rows_below5 T13 (by omega) Q12.out.1, rows_below5 T13 z12 Q12.out.2⟩; have z13 := Nat.lt_of_lt_of_le z12 T13.size; have B13 := B12.below T13; have T13 := nxt T12 T13))
  go_wp2_with (fail)
  refine (num15_any _ _).mono ?_
  rintro e w9 ⟨rfl, rfl⟩
  obtain ⟨q4, q5, q6, q7, q8⟩ := Q13.out.2
  go_wp2_with (fail)
  refine (H7.out _ _ _ _ T13 B13).mono ?_
  rintro e w14 ⟨A14, n14, c14, rfl, B14, T14⟩
  have T14 := nxt T13 T14
  clear q4 q5 q6 q7 q8
  go_wp2_with (fail)
  refine (num15_any _ _).mono ?_
  rintro e w9 ⟨rfl, rfl⟩
  go_wp2_with (fail)
  refine (same_true _ _ _ _ _ _ _ _ B14 (HB'.out _ T14)).mono ?_
  rintro e w15 ⟨rfl, T15⟩
  have T15 := nxt T14 T15
  go_wp2_with (fail)
  refine (HL.out _ T15).mono ?_
  rintro e w16 ⟨rfl, T16⟩
  have T16 := nxt T15 T16
  go_wp2
  go_ret
  exact ⟨rfl, T16⟩
theorem walk_TokenBack {Tab : World → Prop} (C : TkC Tab) (k : Int) (x y z : Nat) (A : Option Addr) (n c : Nat) (d : List UInt8) (A' : Option Addr) (n' c' : Nat) (b : List UInt8) (w : World) (hT : Tab w) (hk : I64 k) (hx : x < 18446744073709551616) (hy : y < 18446744073709551616) (hz : z < 18446744073709551616) (hB : Bys w A n c d) (hB' : Bys w A' n' c' b) (hn' : n' ≤ 140737488355328) :
    Calls Tryd.prog 5 #[.agg #[.int .i64 k, .int .u64 (x : Int), .int .u64 (y : Int), .int .u64 (z : Int), .slice A n c], .slice A' n' c'] w fun e w' => e = .returned (.bool true) ∧ Below w.heap.size w w' := by
  cases hr : tkRight k y z n <;> by_cases ho : tkGetE b = 0
  · exact back15_ny C k x y z A n c d A' n' c' b w hT hk hx hy hz hB hB' hn' hr ho
  · exact back15_nn C k x y z A n c d A' n' c' b w hT hk hx hy hz hB hB' hn' hr ho
  · exact back15_yy C k x y z A n c d A' n' c' b w hT hk hx hy hz hB hB' hn' hr ho
  · exact back15_yn C k x y z A n c d A' n' c' b w hT hk hx hy hz hB hB' hn' hr ho
end Go.Proofs.YtabackggnkplhaaDoor
