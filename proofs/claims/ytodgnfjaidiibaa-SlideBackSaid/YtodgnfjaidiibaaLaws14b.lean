/- The walk of layer 14's SlideBack, over the contracts of slide. -/
import Derived.Test.YtodgnfjaidiibaaSlC
import Derived.Deep.RegionHeld3
namespace Go.Proofs.Ytodgnfjaidiibaa
open Go.RowKit
set_option maxRecDepth 20000

set_option maxHeartbeats 8000000 in
theorem back14_nn (C : SlC) (a : Bool) (s : Int) (u : Nat) (A : Option Addr) (n c : Nat) (d : List UInt8) (A' : Option Addr) (n' c' : Nat) (b : List UInt8) (m : Int) (w : World) (hs : I64 s) (hu : u < 18446744073709551616) (hm : I64 m) (hB : Bys w A n c d) (hB' : Bys w A' n' c' b) (hn' : n' ≤ 140737488355328) (hr : slErr a s u n m ≠ 0) (ho : slGetE b m ≠ 0) :
    Calls Try.prog 5 #[.agg #[.bool a, .int .i64 s, .int .u64 (u : Int), .slice A n c], .slice A' n' c', .int .i64 m] w fun e w' => e = .returned (.bool true) ∧ Below w.heap.size w w' := by
  have hlen := hB.len
  have HL := Lib.hid (fun W => live14_any C W)
  have H1 := Lib.hid (fun W (h : Below w.heap.size w W) => C.put a s u A n c d m W hs hu hm (hB.below h))
  have H6 := Lib.hid (fun W (h : Below w.heap.size w W) => C.get A' n' c' b m W hm (hB'.below h) hn')
  have HB' := Lib.hid (fun W (h : Below w.heap.size w W) => hB'.below h)
  have hrb : (slErr a s u n m == 0) = false := by simpa using hr
  generalize slErr a s u n m = R0 at *
  generalize slPut a s u d m = X at *
  obtain ⟨⟨y1, y2, y3, y4⟩, hy⟩ : ∃ v, slV b m = v := ⟨_, rfl⟩
  rw [hy] at H6
  unfold GivesSl at H6
  simp only at H6
  have H8 := Lib.hid (fun W B k e (h : Below w.heap.size w W) h' => C.same a s u A n c d y1 (y2 : Int) y3 B k e y4 W (hB.below h) h')
  have H9 := Lib.hid (fun W B k e (h : Below w.heap.size w W) h' => rslsame_any a s u A n c d y1 (y2 : Int) y3 B k e y4 W (hB.below h) h')
  generalize slSame a s u d y1 (y2 : Int) y3 y4 = tt at *
  have et : (tt != tt) = false := by simp
  have hob : (slGetE b m != 0) = true := by simpa using ho
  generalize slGetE b m = E0 at *
  clear hB hB' hn' hs hu hm hr ho hlen hy
  go_enter Try.func5, Try.ntmps5
  go_wp2_with (fail)
  refine (H1.out _ ((Below.refl _ w).alloc (Nat.le_refl _) _)).mono ?_
  rintro e w1 ⟨A1, n1, c1, rfl, B1, T1⟩
  have z1 : w.heap.size < w1.heap.size := lt_row (one_row T1)
  have Q1 := Lib.hid (row4 (one_row T1)).1
  have T1 := nxt ((Below.refl _ w).alloc (Nat.le_refl _) _) T1
  go_wp2_with (fail)
  refine (num14_any _ _).mono ?_
  rintro e w9 ⟨rfl, rfl⟩
  go_wp2_with (fail)
  refine (H6.out _ T1).mono ?_
  rintro e w10 ⟨A10, n10, c10, rfl, B10, T10⟩
  have q10 := rows_below4 T10 z1 Q1.out
  have z10 := Nat.lt_of_lt_of_le z1 T10.size
  have T10 := nxt T1 T10
  have Q11 : Hid (((w10.alloc (.cells #[.bool y1, .int .i64 (y2 : Int), .int .u64 (y3 : Int), .slice A10 n10 c10] 25)).cell? ⟨w.heap.size, 0, none⟩ = some (.bool a) ∧ (w10.alloc (.cells #[.bool y1, .int .i64 (y2 : Int), .int .u64 (y3 : Int), .slice A10 n10 c10] 25)).cell? ⟨w.heap.size, 1, none⟩ = some (.int .i64 s) ∧ (w10.alloc (.cells #[.bool y1, .int .i64 (y2 : Int), .int .u64 (y3 : Int), .slice A10 n10 c10] 25)).cell? ⟨w.heap.size, 2, none⟩ = some (.int .u64 (u : Int)) ∧ (w10.alloc (.cells #[.bool y1, .int .i64 (y2 : Int), .int .u64 (y3 : Int), .slice A10 n10 c10] 25)).cell? ⟨w.heap.size, 3, none⟩ = some (Value.slice A n c)) ∧ (w10.alloc (.cells #[.bool y1, .int .i64 (y2 : Int), .int .u64 (y3 : Int), .slice A10 n10 c10] 25)).cell? ⟨w10.heap.size, 0, none⟩ = some (Value.bool y1) ∧ (w10.alloc (.cells #[.bool y1, .int .i64 (y2 : Int), .int .u64 (y3 : Int), .slice A10 n10 c10] 25)).cell? ⟨w10.heap.size, 1, none⟩ = some (Value.int .i64 (y2 : Int)) ∧ (w10.alloc (.cells #[.bool y1, .int .i64 (y2 : Int), .int .u64 (y3 : Int), .slice A10 n10 c10] 25)).cell? ⟨w10.heap.size, 2, none⟩ = some (Value.int .u64 (y3 : Int)) ∧ (w10.alloc (.cells #[.bool y1, .int .i64 (y2 : Int), .int .u64 (y3 : Int), .slice A10 n10 c10] 25)).cell? ⟨w10.heap.size, 3, none⟩ = some (Value.slice A10 n10 c10)) := ⟨rows_below4 ((Below.refl w10.heap.size w10).alloc (Nat.le_refl _) _) z10 q10, (row4 (heap_alloc_new w10 _)).1⟩
  have T11 := T10.alloc T10.size (.cells #[.bool y1, .int .i64 (y2 : Int), .int .u64 (y3 : Int), .slice A10 n10 c10] 25)
  have B11 := B10.alloc (.cells #[.bool y1, .int .i64 (y2 : Int), .int .u64 (y3 : Int), .slice A10 n10 c10] 25)
  have z11 : w10.heap.size < (w10.alloc (.cells #[.bool y1, .int .i64 (y2 : Int), .int .u64 (y3 : Int), .slice A10 n10 c10] 25)).heap.size := by simp
  clear q10 B10
  go_wp2_with (fail)
  generalize (w10.alloc (.cells #[.bool y1, .int .i64 (y2 : Int), .int .u64 (y3 : Int), .slice A10 n10 c10] 25)) = W11 at *
  go_region_held3 (fun w' => (w'.cell? ⟨w.heap.size, 0, none⟩ = some (.bool a) ∧ w'.cell? ⟨w.heap.size, 1, none⟩ = some (.int .i64 s) ∧ w'.cell? ⟨w.heap.size, 2, none⟩ = some (.int .u64 (u : Int)) ∧ w'.cell? ⟨w.heap.size, 3, none⟩ = some (Value.slice A n c)) ∧ w'.cell? ⟨w10.heap.size, 0, none⟩ = some (Value.bool y1) ∧ w'.cell? ⟨w10.heap.size, 1, none⟩ = some (Value.int .i64 (y2 : Int)) ∧ w'.cell? ⟨w10.heap.size, 2, none⟩ = some (Value.int .u64 (y3 : Int)) ∧ w'.cell? ⟨w10.heap.size, 3, none⟩ = some (Value.slice A10 n10 c10)) (first | exact Q11.out | exact Q12.out | exact Q13.out)
    (first
      | (go_at_call 14; (with_reducible refine (H8.out _ _ _ _ T11.drew B11.drew).mono ?_); rintro e w12 ⟨rfl, T12⟩; have T12 := undrew T12; have Q12 : Hid ((w12.cell? ⟨w.heap.size, 0, none⟩ = some (.bool a) ∧ w12.cell? ⟨w.heap.size, 1, none⟩ = some (.int .i64 s) ∧ w12.cell? ⟨w.heap.size, 2, none⟩ = some (.int .u64 (u : Int)) ∧ w12.cell? ⟨w.heap.size, 3, none⟩ = some (Value.slice A n c)) ∧ w12.cell? ⟨w10.heap.size, 0, none⟩ = some (Value.bool y1) ∧ w12.cell? ⟨w10.heap.size, 1, none⟩ = some (Value.int .i64 (y2 : Int)) ∧ w12.cell? ⟨w10.heap.size, 2, none⟩ = some (Value.int .u64 (y3 : Int)) ∧ w12.cell? ⟨w10.heap.size, 3, none⟩ = some (Value.slice A10 n10 c10)) := ⟨rows_below4 T12 (by omega) Q11.out.1, rows_below4 T12 z11 Q11.out.2⟩; have z12 := Nat.lt_of_lt_of_le z11 T12.size; have B12 := B11.below T12; have T12 := nxt T11 T12)
      | (go_at_call 13; (with_reducible refine (H9.out _ _ _ _ T12 B12).mono ?_); rintro e w13 ⟨rfl, T13⟩; have Q13 : Hid ((w13.cell? ⟨w.heap.size, 0, none⟩ = some (.bool a) ∧ w13.cell? ⟨w.heap.size, 1, none⟩ = some (.int .i64 s) ∧ w13.cell? ⟨w.heap.size, 2, none⟩ = some (.int .u64 (u : Int)) ∧ w13.cell? ⟨w.heap.size, 3, none⟩ = some (Value.slice A n c)) ∧ w13.cell? ⟨w10.heap.size, 0, none⟩ = some (Value.bool y1) ∧ w13.cell? ⟨w10.heap.size, 1, none⟩ = some (Value.int .i64 (y2 : Int)) ∧ w13.cell? ⟨w10.heap.size, 2, none⟩ = some (Value.int .u64 (y3 : Int)) ∧ w13.cell? ⟨w10.heap.size, 3, none⟩ = some (Value.slice A10 n10 c10)) := ⟨rows_below4 T13 (by omega) Q12.out.1, rows_below4 T13 z12 Q12.out.2⟩; have z13 := Nat.lt_of_lt_of_le z12 T13.size; have B13 := B12.below T13; have T13 := nxt T12 T13))
  go_wp2_with (fail)
  refine (num14_any _ _).mono ?_
  rintro e w9 ⟨rfl, rfl⟩
  go_wp2_with (fail)
  refine (HL.out _).mono ?_
  rintro e w14 ⟨rfl, T14⟩
  have T14 := nxt T13 T14
  go_wp2
  go_ret
  exact ⟨rfl, T14⟩
set_option maxHeartbeats 8000000 in
theorem back14_ny (C : SlC) (a : Bool) (s : Int) (u : Nat) (A : Option Addr) (n c : Nat) (d : List UInt8) (A' : Option Addr) (n' c' : Nat) (b : List UInt8) (m : Int) (w : World) (hs : I64 s) (hu : u < 18446744073709551616) (hm : I64 m) (hB : Bys w A n c d) (hB' : Bys w A' n' c' b) (hn' : n' ≤ 140737488355328) (hr : slErr a s u n m ≠ 0) (ho : slGetE b m = 0) :
    Calls Try.prog 5 #[.agg #[.bool a, .int .i64 s, .int .u64 (u : Int), .slice A n c], .slice A' n' c', .int .i64 m] w fun e w' => e = .returned (.bool true) ∧ Below w.heap.size w w' := by
  have hlen := hB.len
  have HL := Lib.hid (fun W => live14_any C W)
  have H1 := Lib.hid (fun W (h : Below w.heap.size w W) => C.put a s u A n c d m W hs hu hm (hB.below h))
  have H6 := Lib.hid (fun W (h : Below w.heap.size w W) => C.get A' n' c' b m W hm (hB'.below h) hn')
  have HB' := Lib.hid (fun W (h : Below w.heap.size w W) => hB'.below h)
  have hrb : (slErr a s u n m == 0) = false := by simpa using hr
  generalize slErr a s u n m = R0 at *
  generalize slPut a s u d m = X at *
  obtain ⟨⟨y1, y2, y3, y4⟩, hy⟩ : ∃ v, slV b m = v := ⟨_, rfl⟩
  rw [hy] at H6
  unfold GivesSl at H6
  simp only at H6
  have H8 := Lib.hid (fun W B k e (h : Below w.heap.size w W) h' => C.same a s u A n c d y1 (y2 : Int) y3 B k e y4 W (hB.below h) h')
  have H9 := Lib.hid (fun W B k e (h : Below w.heap.size w W) h' => rslsame_any a s u A n c d y1 (y2 : Int) y3 B k e y4 W (hB.below h) h')
  generalize slSame a s u d y1 (y2 : Int) y3 y4 = tt at *
  have et : (tt != tt) = false := by simp
  have hgo : slGet b m = some (y1, y2, y3, y4) := by
    unfold slGetE at ho
    split at ho
    · omega
    · split at ho
      · rename_i h1
        obtain ⟨v, hv⟩ := Option.isSome_iff_exists.1 h1
        rw [slV_some hv] at hy
        rw [hv, hy]
      · omega
  obtain ⟨he, hpb, hu3⟩ := slPut_get b m y1 y2 y3 y4 hgo
  have hy2 : I64 (y2 : Int) := by
    have h1 := slErr_zero he
    have h2 := slRight_seq h1.2
    unfold I64
    omega
  have h7 := fun W B k e (h : Bys W B k e y4) => (show slErr y1 (y2 : Int) y3 k m = 0 by rw [← h.len]; exact he) ▸ hpb ▸ C.put y1 (y2 : Int) y3 B k e y4 m W hy2 hu3 hm h
  have H7 := Lib.hid h7
  rw [ho] at H6
  clear h7 hgo he hpb hu3 hy2
  clear hB hB' hn' hs hu hm hr ho hlen hy
  go_enter Try.func5, Try.ntmps5
  go_wp2_with (fail)
  refine (H1.out _ ((Below.refl _ w).alloc (Nat.le_refl _) _)).mono ?_
  rintro e w1 ⟨A1, n1, c1, rfl, B1, T1⟩
  have z1 : w.heap.size < w1.heap.size := lt_row (one_row T1)
  have Q1 := Lib.hid (row4 (one_row T1)).1
  have T1 := nxt ((Below.refl _ w).alloc (Nat.le_refl _) _) T1
  go_wp2_with (fail)
  refine (num14_any _ _).mono ?_
  rintro e w9 ⟨rfl, rfl⟩
  go_wp2_with (fail)
  refine (H6.out _ T1).mono ?_
  rintro e w10 ⟨A10, n10, c10, rfl, B10, T10⟩
  have q10 := rows_below4 T10 z1 Q1.out
  have z10 := Nat.lt_of_lt_of_le z1 T10.size
  have T10 := nxt T1 T10
  have Q11 : Hid (((w10.alloc (.cells #[.bool y1, .int .i64 (y2 : Int), .int .u64 (y3 : Int), .slice A10 n10 c10] 25)).cell? ⟨w.heap.size, 0, none⟩ = some (.bool a) ∧ (w10.alloc (.cells #[.bool y1, .int .i64 (y2 : Int), .int .u64 (y3 : Int), .slice A10 n10 c10] 25)).cell? ⟨w.heap.size, 1, none⟩ = some (.int .i64 s) ∧ (w10.alloc (.cells #[.bool y1, .int .i64 (y2 : Int), .int .u64 (y3 : Int), .slice A10 n10 c10] 25)).cell? ⟨w.heap.size, 2, none⟩ = some (.int .u64 (u : Int)) ∧ (w10.alloc (.cells #[.bool y1, .int .i64 (y2 : Int), .int .u64 (y3 : Int), .slice A10 n10 c10] 25)).cell? ⟨w.heap.size, 3, none⟩ = some (Value.slice A n c)) ∧ (w10.alloc (.cells #[.bool y1, .int .i64 (y2 : Int), .int .u64 (y3 : Int), .slice A10 n10 c10] 25)).cell? ⟨w10.heap.size, 0, none⟩ = some (Value.bool y1) ∧ (w10.alloc (.cells #[.bool y1, .int .i64 (y2 : Int), .int .u64 (y3 : Int), .slice A10 n10 c10] 25)).cell? ⟨w10.heap.size, 1, none⟩ = some (Value.int .i64 (y2 : Int)) ∧ (w10.alloc (.cells #[.bool y1, .int .i64 (y2 : Int), .int .u64 (y3 : Int), .slice A10 n10 c10] 25)).cell? ⟨w10.heap.size, 2, none⟩ = some (Value.int .u64 (y3 : Int)) ∧ (w10.alloc (.cells #[.bool y1, .int .i64 (y2 : Int), .int .u64 (y3 : Int), .slice A10 n10 c10] 25)).cell? ⟨w10.heap.size, 3, none⟩ = some (Value.slice A10 n10 c10)) := ⟨rows_below4 ((Below.refl w10.heap.size w10).alloc (Nat.le_refl _) _) z10 q10, (row4 (heap_alloc_new w10 _)).1⟩
  have T11 := T10.alloc T10.size (.cells #[.bool y1, .int .i64 (y2 : Int), .int .u64 (y3 : Int), .slice A10 n10 c10] 25)
  have B11 := B10.alloc (.cells #[.bool y1, .int .i64 (y2 : Int), .int .u64 (y3 : Int), .slice A10 n10 c10] 25)
  have z11 : w10.heap.size < (w10.alloc (.cells #[.bool y1, .int .i64 (y2 : Int), .int .u64 (y3 : Int), .slice A10 n10 c10] 25)).heap.size := by simp
  clear q10 B10
  go_wp2_with (fail)
  generalize (w10.alloc (.cells #[.bool y1, .int .i64 (y2 : Int), .int .u64 (y3 : Int), .slice A10 n10 c10] 25)) = W11 at *
  go_region_held3 (fun w' => (w'.cell? ⟨w.heap.size, 0, none⟩ = some (.bool a) ∧ w'.cell? ⟨w.heap.size, 1, none⟩ = some (.int .i64 s) ∧ w'.cell? ⟨w.heap.size, 2, none⟩ = some (.int .u64 (u : Int)) ∧ w'.cell? ⟨w.heap.size, 3, none⟩ = some (Value.slice A n c)) ∧ w'.cell? ⟨w10.heap.size, 0, none⟩ = some (Value.bool y1) ∧ w'.cell? ⟨w10.heap.size, 1, none⟩ = some (Value.int .i64 (y2 : Int)) ∧ w'.cell? ⟨w10.heap.size, 2, none⟩ = some (Value.int .u64 (y3 : Int)) ∧ w'.cell? ⟨w10.heap.size, 3, none⟩ = some (Value.slice A10 n10 c10)) (first | exact Q11.out | exact Q12.out | exact Q13.out)
    (first
      | (go_at_call 14; (with_reducible refine (H8.out _ _ _ _ T11.drew B11.drew).mono ?_); rintro e w12 ⟨rfl, T12⟩; have T12 := undrew T12; have Q12 : Hid ((w12.cell? ⟨w.heap.size, 0, none⟩ = some (.bool a) ∧ w12.cell? ⟨w.heap.size, 1, none⟩ = some (.int .i64 s) ∧ w12.cell? ⟨w.heap.size, 2, none⟩ = some (.int .u64 (u : Int)) ∧ w12.cell? ⟨w.heap.size, 3, none⟩ = some (Value.slice A n c)) ∧ w12.cell? ⟨w10.heap.size, 0, none⟩ = some (Value.bool y1) ∧ w12.cell? ⟨w10.heap.size, 1, none⟩ = some (Value.int .i64 (y2 : Int)) ∧ w12.cell? ⟨w10.heap.size, 2, none⟩ = some (Value.int .u64 (y3 : Int)) ∧ w12.cell? ⟨w10.heap.size, 3, none⟩ = some (Value.slice A10 n10 c10)) := ⟨rows_below4 T12 (by omega) Q11.out.1, rows_below4 T12 z11 Q11.out.2⟩; have z12 := Nat.lt_of_lt_of_le z11 T12.size; have B12 := B11.below T12; have T12 := nxt T11 T12)
      | (go_at_call 13; (with_reducible refine (H9.out _ _ _ _ T12 B12).mono ?_); rintro e w13 ⟨rfl, T13⟩; have Q13 : Hid ((w13.cell? ⟨w.heap.size, 0, none⟩ = some (.bool a) ∧ w13.cell? ⟨w.heap.size, 1, none⟩ = some (.int .i64 s) ∧ w13.cell? ⟨w.heap.size, 2, none⟩ = some (.int .u64 (u : Int)) ∧ w13.cell? ⟨w.heap.size, 3, none⟩ = some (Value.slice A n c)) ∧ w13.cell? ⟨w10.heap.size, 0, none⟩ = some (Value.bool y1) ∧ w13.cell? ⟨w10.heap.size, 1, none⟩ = some (Value.int .i64 (y2 : Int)) ∧ w13.cell? ⟨w10.heap.size, 2, none⟩ = some (Value.int .u64 (y3 : Int)) ∧ w13.cell? ⟨w10.heap.size, 3, none⟩ = some (Value.slice A10 n10 c10)) := ⟨rows_below4 T13 (by omega) Q12.out.1, rows_below4 T13 z12 Q12.out.2⟩; have z13 := Nat.lt_of_lt_of_le z12 T13.size; have B13 := B12.below T13; have T13 := nxt T12 T13))
  go_wp2_with (fail)
  refine (num14_any _ _).mono ?_
  rintro e w9 ⟨rfl, rfl⟩
  obtain ⟨q4, q5, q6, q7⟩ := Q13.out.2
  go_wp2_with (fail)
  refine (H7.out _ _ _ _ B13).mono ?_
  rintro e w14 ⟨A14, n14, c14, rfl, B14, T14⟩
  have T14 := nxt T13 T14
  clear q4 q5 q6 q7
  go_wp2_with (fail)
  refine (num14_any _ _).mono ?_
  rintro e w9 ⟨rfl, rfl⟩
  go_wp2_with (fail)
  refine (same_true _ _ _ _ _ _ _ _ B14 (HB'.out _ T14)).mono ?_
  rintro e w15 ⟨rfl, T15⟩
  have T15 := nxt T14 T15
  go_wp2_with (fail)
  refine (HL.out _).mono ?_
  rintro e w16 ⟨rfl, T16⟩
  have T16 := nxt T15 T16
  go_wp2
  go_ret
  exact ⟨rfl, T16⟩
set_option maxHeartbeats 8000000 in
theorem back14_yn (C : SlC) (a : Bool) (s : Int) (u : Nat) (A : Option Addr) (n c : Nat) (d : List UInt8) (A' : Option Addr) (n' c' : Nat) (b : List UInt8) (m : Int) (w : World) (hs : I64 s) (hu : u < 18446744073709551616) (hm : I64 m) (hB : Bys w A n c d) (hB' : Bys w A' n' c' b) (hn' : n' ≤ 140737488355328) (hr : slErr a s u n m = 0) (ho : slGetE b m ≠ 0) :
    Calls Try.prog 5 #[.agg #[.bool a, .int .i64 s, .int .u64 (u : Int), .slice A n c], .slice A' n' c', .int .i64 m] w fun e w' => e = .returned (.bool true) ∧ Below w.heap.size w w' := by
  have hlen := hB.len
  have HL := Lib.hid (fun W => live14_any C W)
  have H1 := Lib.hid (fun W (h : Below w.heap.size w W) => C.put a s u A n c d m W hs hu hm (hB.below h))
  have H6 := Lib.hid (fun W (h : Below w.heap.size w W) => C.get A' n' c' b m W hm (hB'.below h) hn')
  have HB' := Lib.hid (fun W (h : Below w.heap.size w W) => hB'.below h)
  obtain ⟨hp, hg⟩ := slGet_put a s u d m hu (by rw [hlen]; exact hr)
  have hv := slV_some hg
  have hge : slGetE (slPut a s u d m) m = 0 := by
    unfold slGetE
    rw [if_neg (by have := (slErr_zero hr).1; omega), hg]
    rfl
  have hs0 : ((s.toNat : Nat) : Int) = s := by have := slRight_seq (slErr_zero hr).2; omega
  have hbl : (slPut a s u d m).length ≤ 140737488355328 := by
    have hd : d.length ≤ 64 := by
      have h2 := (slErr_zero hr).2
      unfold slRight at h2
      split at h2
      · cases h2
      · split at h2
        · have := of_decide_eq_true h2; omega
        · have := of_decide_eq_true h2; omega
    rw [hp]
    unfold slBytes
    split <;> simp [putB_length] <;> omega
  have H2 := Lib.hid (fun W B k e (h : Bys W B k e (slPut a s u d m)) => C.get B k e (slPut a s u d m) m W hm h (by have := h.len; omega))
  rw [hv, hge] at H2
  unfold GivesSl at H2
  simp only [hs0] at H2
  have H4 := Lib.hid (fun W B k e (h : Below w.heap.size w W) h' => C.same a s u A n c d a s u B k e d W (hB.below h) h')
  have H5 := Lib.hid (fun W B k e (h : Below w.heap.size w W) h' => rslsame_any a s u A n c d a s u B k e d W (hB.below h) h')
  simp only [slSame_self] at H4 H5
  rw [hr] at H1
  generalize slPut a s u d m = X at *
  clear hp hg hv hge hs0 hbl
  obtain ⟨⟨y1, y2, y3, y4⟩, hy⟩ : ∃ v, slV b m = v := ⟨_, rfl⟩
  rw [hy] at H6
  unfold GivesSl at H6
  simp only at H6
  have H8 := Lib.hid (fun W B k e (h : Below w.heap.size w W) h' => C.same a s u A n c d y1 (y2 : Int) y3 B k e y4 W (hB.below h) h')
  have H9 := Lib.hid (fun W B k e (h : Below w.heap.size w W) h' => rslsame_any a s u A n c d y1 (y2 : Int) y3 B k e y4 W (hB.below h) h')
  generalize slSame a s u d y1 (y2 : Int) y3 y4 = tt at *
  have et : (tt != tt) = false := by simp
  have hob : (slGetE b m != 0) = true := by simpa using ho
  generalize slGetE b m = E0 at *
  clear hB hB' hn' hs hu hm hr ho hlen hy
  go_enter Try.func5, Try.ntmps5
  go_wp2_with (fail)
  refine (H1.out _ ((Below.refl _ w).alloc (Nat.le_refl _) _)).mono ?_
  rintro e w1 ⟨A1, n1, c1, rfl, B1, T1⟩
  have z1 : w.heap.size < w1.heap.size := lt_row (one_row T1)
  have Q1 := Lib.hid (row4 (one_row T1)).1
  have T1 := nxt ((Below.refl _ w).alloc (Nat.le_refl _) _) T1
  go_wp2_with (fail)
  refine (num14_any _ _).mono ?_
  rintro e w9 ⟨rfl, rfl⟩
  go_wp2_with (fail)
  refine (H2.out _ _ _ _ B1).mono ?_
  rintro e w2 ⟨A2, n2, c2, rfl, B2, T2⟩
  have q2 := rows_below4 T2 z1 Q1.out
  have z2 := Nat.lt_of_lt_of_le z1 T2.size
  have T2 := nxt T1 T2
  have B2 := B2.alloc (.cells #[.bool a, .int .i64 s, .int .u64 (u : Int), .slice A2 n2 c2] 25)
  have T2a := T2.alloc T2.size (.cells #[.bool a, .int .i64 s, .int .u64 (u : Int), .slice A2 n2 c2] 25)
  have Q2 := Lib.hid (rows_below4 ((Below.refl w2.heap.size w2).alloc (Nat.le_refl _) (.cells #[.bool a, .int .i64 s, .int .u64 (u : Int), .slice A2 n2 c2] 25)) z2 q2)
  have z2a : w.heap.size < (w2.alloc (.cells #[.bool a, .int .i64 s, .int .u64 (u : Int), .slice A2 n2 c2] 25)).heap.size := by simp; omega
  have hnew := Lib.hid (heap_alloc_new w2 (.cells #[.bool a, .int .i64 s, .int .u64 (u : Int), .slice A2 n2 c2] 25))
  clear q2
  go_wp2_with (fail)
  refine (num14_any _ _).mono ?_
  rintro e w9 ⟨rfl, rfl⟩
  have q0 := Q2.out.1
  have q1 := Q2.out.2.1
  have q2 := Q2.out.2.2.1
  have q3 := Q2.out.2.2.2
  go_wp2_with (fail)
  refine (H4.out _ _ _ _ T2a B2).mono ?_
  rintro e w3 ⟨rfl, T3⟩
  clear q0 q1 q2 q3
  have Q3 := Lib.hid (rows_below4 T3 z2a Q2.out)
  have z3 := Nat.lt_of_lt_of_le z2a T3.size
  have B3 := B2.below T3
  obtain ⟨q4, q5, q6, q7⟩ := rows_below4 T3 (lt_row hnew.out) (row4 hnew.out).1
  have q0 := Q3.out.1
  have q1 := Q3.out.2.1
  have q2 := Q3.out.2.2.1
  have q3 := Q3.out.2.2.2
  have T3 := nxt T2a T3
  go_wp2_with (fail)
  refine (H5.out _ _ _ _ T3 B3).mono ?_
  rintro e w4 ⟨rfl, T4⟩
  clear q0 q1 q2 q3 q4 q5 q6 q7 B3 B2
  have Q4 := Lib.hid (rows_below4 T4 z3 Q3.out)
  have z4 := Nat.lt_of_lt_of_le z3 T4.size
  have T4 := nxt T3 T4
  go_wp2_with (fail)
  refine (H6.out _ T4).mono ?_
  rintro e w10 ⟨A10, n10, c10, rfl, B10, T10⟩
  have q10 := rows_below4 T10 z4 Q4.out
  have z10 := Nat.lt_of_lt_of_le z4 T10.size
  have T10 := nxt T4 T10
  have Q11 : Hid (((w10.alloc (.cells #[.bool y1, .int .i64 (y2 : Int), .int .u64 (y3 : Int), .slice A10 n10 c10] 25)).cell? ⟨w.heap.size, 0, none⟩ = some (.bool a) ∧ (w10.alloc (.cells #[.bool y1, .int .i64 (y2 : Int), .int .u64 (y3 : Int), .slice A10 n10 c10] 25)).cell? ⟨w.heap.size, 1, none⟩ = some (.int .i64 s) ∧ (w10.alloc (.cells #[.bool y1, .int .i64 (y2 : Int), .int .u64 (y3 : Int), .slice A10 n10 c10] 25)).cell? ⟨w.heap.size, 2, none⟩ = some (.int .u64 (u : Int)) ∧ (w10.alloc (.cells #[.bool y1, .int .i64 (y2 : Int), .int .u64 (y3 : Int), .slice A10 n10 c10] 25)).cell? ⟨w.heap.size, 3, none⟩ = some (Value.slice A n c)) ∧ (w10.alloc (.cells #[.bool y1, .int .i64 (y2 : Int), .int .u64 (y3 : Int), .slice A10 n10 c10] 25)).cell? ⟨w10.heap.size, 0, none⟩ = some (Value.bool y1) ∧ (w10.alloc (.cells #[.bool y1, .int .i64 (y2 : Int), .int .u64 (y3 : Int), .slice A10 n10 c10] 25)).cell? ⟨w10.heap.size, 1, none⟩ = some (Value.int .i64 (y2 : Int)) ∧ (w10.alloc (.cells #[.bool y1, .int .i64 (y2 : Int), .int .u64 (y3 : Int), .slice A10 n10 c10] 25)).cell? ⟨w10.heap.size, 2, none⟩ = some (Value.int .u64 (y3 : Int)) ∧ (w10.alloc (.cells #[.bool y1, .int .i64 (y2 : Int), .int .u64 (y3 : Int), .slice A10 n10 c10] 25)).cell? ⟨w10.heap.size, 3, none⟩ = some (Value.slice A10 n10 c10)) := ⟨rows_below4 ((Below.refl w10.heap.size w10).alloc (Nat.le_refl _) _) z10 q10, (row4 (heap_alloc_new w10 _)).1⟩
  have T11 := T10.alloc T10.size (.cells #[.bool y1, .int .i64 (y2 : Int), .int .u64 (y3 : Int), .slice A10 n10 c10] 25)
  have B11 := B10.alloc (.cells #[.bool y1, .int .i64 (y2 : Int), .int .u64 (y3 : Int), .slice A10 n10 c10] 25)
  have z11 : w10.heap.size < (w10.alloc (.cells #[.bool y1, .int .i64 (y2 : Int), .int .u64 (y3 : Int), .slice A10 n10 c10] 25)).heap.size := by simp
  clear q10 B10
  go_wp2_with (fail)
  generalize (w10.alloc (.cells #[.bool y1, .int .i64 (y2 : Int), .int .u64 (y3 : Int), .slice A10 n10 c10] 25)) = W11 at *
  go_region_held3 (fun w' => (w'.cell? ⟨w.heap.size, 0, none⟩ = some (.bool a) ∧ w'.cell? ⟨w.heap.size, 1, none⟩ = some (.int .i64 s) ∧ w'.cell? ⟨w.heap.size, 2, none⟩ = some (.int .u64 (u : Int)) ∧ w'.cell? ⟨w.heap.size, 3, none⟩ = some (Value.slice A n c)) ∧ w'.cell? ⟨w10.heap.size, 0, none⟩ = some (Value.bool y1) ∧ w'.cell? ⟨w10.heap.size, 1, none⟩ = some (Value.int .i64 (y2 : Int)) ∧ w'.cell? ⟨w10.heap.size, 2, none⟩ = some (Value.int .u64 (y3 : Int)) ∧ w'.cell? ⟨w10.heap.size, 3, none⟩ = some (Value.slice A10 n10 c10)) (first | exact Q11.out | exact Q12.out | exact Q13.out)
    (first
      | (go_at_call 14; (with_reducible refine (H8.out _ _ _ _ T11.drew B11.drew).mono ?_); rintro e w12 ⟨rfl, T12⟩; have T12 := undrew T12; have Q12 : Hid ((w12.cell? ⟨w.heap.size, 0, none⟩ = some (.bool a) ∧ w12.cell? ⟨w.heap.size, 1, none⟩ = some (.int .i64 s) ∧ w12.cell? ⟨w.heap.size, 2, none⟩ = some (.int .u64 (u : Int)) ∧ w12.cell? ⟨w.heap.size, 3, none⟩ = some (Value.slice A n c)) ∧ w12.cell? ⟨w10.heap.size, 0, none⟩ = some (Value.bool y1) ∧ w12.cell? ⟨w10.heap.size, 1, none⟩ = some (Value.int .i64 (y2 : Int)) ∧ w12.cell? ⟨w10.heap.size, 2, none⟩ = some (Value.int .u64 (y3 : Int)) ∧ w12.cell? ⟨w10.heap.size, 3, none⟩ = some (Value.slice A10 n10 c10)) := ⟨rows_below4 T12 (by omega) Q11.out.1, rows_below4 T12 z11 Q11.out.2⟩; have z12 := Nat.lt_of_lt_of_le z11 T12.size; have B12 := B11.below T12; have T12 := nxt T11 T12)
      | (go_at_call 13; (with_reducible refine (H9.out _ _ _ _ T12 B12).mono ?_); rintro e w13 ⟨rfl, T13⟩; have Q13 : Hid ((w13.cell? ⟨w.heap.size, 0, none⟩ = some (.bool a) ∧ w13.cell? ⟨w.heap.size, 1, none⟩ = some (.int .i64 s) ∧ w13.cell? ⟨w.heap.size, 2, none⟩ = some (.int .u64 (u : Int)) ∧ w13.cell? ⟨w.heap.size, 3, none⟩ = some (Value.slice A n c)) ∧ w13.cell? ⟨w10.heap.size, 0, none⟩ = some (Value.bool y1) ∧ w13.cell? ⟨w10.heap.size, 1, none⟩ = some (Value.int .i64 (y2 : Int)) ∧ w13.cell? ⟨w10.heap.size, 2, none⟩ = some (Value.int .u64 (y3 : Int)) ∧ w13.cell? ⟨w10.heap.size, 3, none⟩ = some (Value.slice A10 n10 c10)) := ⟨rows_below4 T13 (by omega) Q12.out.1, rows_below4 T13 z12 Q12.out.2⟩; have z13 := Nat.lt_of_lt_of_le z12 T13.size; have B13 := B12.below T13; have T13 := nxt T12 T13))
  go_wp2_with (fail)
  refine (num14_any _ _).mono ?_
  rintro e w9 ⟨rfl, rfl⟩
  go_wp2_with (fail)
  refine (HL.out _).mono ?_
  rintro e w14 ⟨rfl, T14⟩
  have T14 := nxt T13 T14
  go_wp2
  go_ret
  exact ⟨rfl, T14⟩
set_option maxHeartbeats 8000000 in
theorem back14_yy (C : SlC) (a : Bool) (s : Int) (u : Nat) (A : Option Addr) (n c : Nat) (d : List UInt8) (A' : Option Addr) (n' c' : Nat) (b : List UInt8) (m : Int) (w : World) (hs : I64 s) (hu : u < 18446744073709551616) (hm : I64 m) (hB : Bys w A n c d) (hB' : Bys w A' n' c' b) (hn' : n' ≤ 140737488355328) (hr : slErr a s u n m = 0) (ho : slGetE b m = 0) :
    Calls Try.prog 5 #[.agg #[.bool a, .int .i64 s, .int .u64 (u : Int), .slice A n c], .slice A' n' c', .int .i64 m] w fun e w' => e = .returned (.bool true) ∧ Below w.heap.size w w' := by
  have hlen := hB.len
  have HL := Lib.hid (fun W => live14_any C W)
  have H1 := Lib.hid (fun W (h : Below w.heap.size w W) => C.put a s u A n c d m W hs hu hm (hB.below h))
  have H6 := Lib.hid (fun W (h : Below w.heap.size w W) => C.get A' n' c' b m W hm (hB'.below h) hn')
  have HB' := Lib.hid (fun W (h : Below w.heap.size w W) => hB'.below h)
  obtain ⟨hp, hg⟩ := slGet_put a s u d m hu (by rw [hlen]; exact hr)
  have hv := slV_some hg
  have hge : slGetE (slPut a s u d m) m = 0 := by
    unfold slGetE
    rw [if_neg (by have := (slErr_zero hr).1; omega), hg]
    rfl
  have hs0 : ((s.toNat : Nat) : Int) = s := by have := slRight_seq (slErr_zero hr).2; omega
  have hbl : (slPut a s u d m).length ≤ 140737488355328 := by
    have hd : d.length ≤ 64 := by
      have h2 := (slErr_zero hr).2
      unfold slRight at h2
      split at h2
      · cases h2
      · split at h2
        · have := of_decide_eq_true h2; omega
        · have := of_decide_eq_true h2; omega
    rw [hp]
    unfold slBytes
    split <;> simp [putB_length] <;> omega
  have H2 := Lib.hid (fun W B k e (h : Bys W B k e (slPut a s u d m)) => C.get B k e (slPut a s u d m) m W hm h (by have := h.len; omega))
  rw [hv, hge] at H2
  unfold GivesSl at H2
  simp only [hs0] at H2
  have H4 := Lib.hid (fun W B k e (h : Below w.heap.size w W) h' => C.same a s u A n c d a s u B k e d W (hB.below h) h')
  have H5 := Lib.hid (fun W B k e (h : Below w.heap.size w W) h' => rslsame_any a s u A n c d a s u B k e d W (hB.below h) h')
  simp only [slSame_self] at H4 H5
  rw [hr] at H1
  generalize slPut a s u d m = X at *
  clear hp hg hv hge hs0 hbl
  obtain ⟨⟨y1, y2, y3, y4⟩, hy⟩ : ∃ v, slV b m = v := ⟨_, rfl⟩
  rw [hy] at H6
  unfold GivesSl at H6
  simp only at H6
  have H8 := Lib.hid (fun W B k e (h : Below w.heap.size w W) h' => C.same a s u A n c d y1 (y2 : Int) y3 B k e y4 W (hB.below h) h')
  have H9 := Lib.hid (fun W B k e (h : Below w.heap.size w W) h' => rslsame_any a s u A n c d y1 (y2 : Int) y3 B k e y4 W (hB.below h) h')
  generalize slSame a s u d y1 (y2 : Int) y3 y4 = tt at *
  have et : (tt != tt) = false := by simp
  have hgo : slGet b m = some (y1, y2, y3, y4) := by
    unfold slGetE at ho
    split at ho
    · omega
    · split at ho
      · rename_i h1
        obtain ⟨v, hv⟩ := Option.isSome_iff_exists.1 h1
        rw [slV_some hv] at hy
        rw [hv, hy]
      · omega
  obtain ⟨he, hpb, hu3⟩ := slPut_get b m y1 y2 y3 y4 hgo
  have hy2 : I64 (y2 : Int) := by
    have h1 := slErr_zero he
    have h2 := slRight_seq h1.2
    unfold I64
    omega
  have h7 := fun W B k e (h : Bys W B k e y4) => (show slErr y1 (y2 : Int) y3 k m = 0 by rw [← h.len]; exact he) ▸ hpb ▸ C.put y1 (y2 : Int) y3 B k e y4 m W hy2 hu3 hm h
  have H7 := Lib.hid h7
  rw [ho] at H6
  clear h7 hgo he hpb hu3 hy2
  clear hB hB' hn' hs hu hm hr ho hlen hy
  go_enter Try.func5, Try.ntmps5
  go_wp2_with (fail)
  refine (H1.out _ ((Below.refl _ w).alloc (Nat.le_refl _) _)).mono ?_
  rintro e w1 ⟨A1, n1, c1, rfl, B1, T1⟩
  have z1 : w.heap.size < w1.heap.size := lt_row (one_row T1)
  have Q1 := Lib.hid (row4 (one_row T1)).1
  have T1 := nxt ((Below.refl _ w).alloc (Nat.le_refl _) _) T1
  go_wp2_with (fail)
  refine (num14_any _ _).mono ?_
  rintro e w9 ⟨rfl, rfl⟩
  go_wp2_with (fail)
  refine (H2.out _ _ _ _ B1).mono ?_
  rintro e w2 ⟨A2, n2, c2, rfl, B2, T2⟩
  have q2 := rows_below4 T2 z1 Q1.out
  have z2 := Nat.lt_of_lt_of_le z1 T2.size
  have T2 := nxt T1 T2
  have B2 := B2.alloc (.cells #[.bool a, .int .i64 s, .int .u64 (u : Int), .slice A2 n2 c2] 25)
  have T2a := T2.alloc T2.size (.cells #[.bool a, .int .i64 s, .int .u64 (u : Int), .slice A2 n2 c2] 25)
  have Q2 := Lib.hid (rows_below4 ((Below.refl w2.heap.size w2).alloc (Nat.le_refl _) (.cells #[.bool a, .int .i64 s, .int .u64 (u : Int), .slice A2 n2 c2] 25)) z2 q2)
  have z2a : w.heap.size < (w2.alloc (.cells #[.bool a, .int .i64 s, .int .u64 (u : Int), .slice A2 n2 c2] 25)).heap.size := by simp; omega
  have hnew := Lib.hid (heap_alloc_new w2 (.cells #[.bool a, .int .i64 s, .int .u64 (u : Int), .slice A2 n2 c2] 25))
  clear q2
  go_wp2_with (fail)
  refine (num14_any _ _).mono ?_
  rintro e w9 ⟨rfl, rfl⟩
  have q0 := Q2.out.1
  have q1 := Q2.out.2.1
  have q2 := Q2.out.2.2.1
  have q3 := Q2.out.2.2.2
  go_wp2_with (fail)
  refine (H4.out _ _ _ _ T2a B2).mono ?_
  rintro e w3 ⟨rfl, T3⟩
  clear q0 q1 q2 q3
  have Q3 := Lib.hid (rows_below4 T3 z2a Q2.out)
  have z3 := Nat.lt_of_lt_of_le z2a T3.size
  have B3 := B2.below T3
  obtain ⟨q4, q5, q6, q7⟩ := rows_below4 T3 (lt_row hnew.out) (row4 hnew.out).1
  have q0 := Q3.out.1
  have q1 := Q3.out.2.1
  have q2 := Q3.out.2.2.1
  have q3 := Q3.out.2.2.2
  have T3 := nxt T2a T3
  go_wp2_with (fail)
  refine (H5.out _ _ _ _ T3 B3).mono ?_
  rintro e w4 ⟨rfl, T4⟩
  clear q0 q1 q2 q3 q4 q5 q6 q7 B3 B2
  have Q4 := Lib.hid (rows_below4 T4 z3 Q3.out)
  have z4 := Nat.lt_of_lt_of_le z3 T4.size
  have T4 := nxt T3 T4
  go_wp2_with (fail)
  refine (H6.out _ T4).mono ?_
  rintro e w10 ⟨A10, n10, c10, rfl, B10, T10⟩
  have q10 := rows_below4 T10 z4 Q4.out
  have z10 := Nat.lt_of_lt_of_le z4 T10.size
  have T10 := nxt T4 T10
  have Q11 : Hid (((w10.alloc (.cells #[.bool y1, .int .i64 (y2 : Int), .int .u64 (y3 : Int), .slice A10 n10 c10] 25)).cell? ⟨w.heap.size, 0, none⟩ = some (.bool a) ∧ (w10.alloc (.cells #[.bool y1, .int .i64 (y2 : Int), .int .u64 (y3 : Int), .slice A10 n10 c10] 25)).cell? ⟨w.heap.size, 1, none⟩ = some (.int .i64 s) ∧ (w10.alloc (.cells #[.bool y1, .int .i64 (y2 : Int), .int .u64 (y3 : Int), .slice A10 n10 c10] 25)).cell? ⟨w.heap.size, 2, none⟩ = some (.int .u64 (u : Int)) ∧ (w10.alloc (.cells #[.bool y1, .int .i64 (y2 : Int), .int .u64 (y3 : Int), .slice A10 n10 c10] 25)).cell? ⟨w.heap.size, 3, none⟩ = some (Value.slice A n c)) ∧ (w10.alloc (.cells #[.bool y1, .int .i64 (y2 : Int), .int .u64 (y3 : Int), .slice A10 n10 c10] 25)).cell? ⟨w10.heap.size, 0, none⟩ = some (Value.bool y1) ∧ (w10.alloc (.cells #[.bool y1, .int .i64 (y2 : Int), .int .u64 (y3 : Int), .slice A10 n10 c10] 25)).cell? ⟨w10.heap.size, 1, none⟩ = some (Value.int .i64 (y2 : Int)) ∧ (w10.alloc (.cells #[.bool y1, .int .i64 (y2 : Int), .int .u64 (y3 : Int), .slice A10 n10 c10] 25)).cell? ⟨w10.heap.size, 2, none⟩ = some (Value.int .u64 (y3 : Int)) ∧ (w10.alloc (.cells #[.bool y1, .int .i64 (y2 : Int), .int .u64 (y3 : Int), .slice A10 n10 c10] 25)).cell? ⟨w10.heap.size, 3, none⟩ = some (Value.slice A10 n10 c10)) := ⟨rows_below4 ((Below.refl w10.heap.size w10).alloc (Nat.le_refl _) _) z10 q10, (row4 (heap_alloc_new w10 _)).1⟩
  have T11 := T10.alloc T10.size (.cells #[.bool y1, .int .i64 (y2 : Int), .int .u64 (y3 : Int), .slice A10 n10 c10] 25)
  have B11 := B10.alloc (.cells #[.bool y1, .int .i64 (y2 : Int), .int .u64 (y3 : Int), .slice A10 n10 c10] 25)
  have z11 : w10.heap.size < (w10.alloc (.cells #[.bool y1, .int .i64 (y2 : Int), .int .u64 (y3 : Int), .slice A10 n10 c10] 25)).heap.size := by simp
  clear q10 B10
  go_wp2_with (fail)
  generalize (w10.alloc (.cells #[.bool y1, .int .i64 (y2 : Int), .int .u64 (y3 : Int), .slice A10 n10 c10] 25)) = W11 at *
  go_region_held3 (fun w' => (w'.cell? ⟨w.heap.size, 0, none⟩ = some (.bool a) ∧ w'.cell? ⟨w.heap.size, 1, none⟩ = some (.int .i64 s) ∧ w'.cell? ⟨w.heap.size, 2, none⟩ = some (.int .u64 (u : Int)) ∧ w'.cell? ⟨w.heap.size, 3, none⟩ = some (Value.slice A n c)) ∧ w'.cell? ⟨w10.heap.size, 0, none⟩ = some (Value.bool y1) ∧ w'.cell? ⟨w10.heap.size, 1, none⟩ = some (Value.int .i64 (y2 : Int)) ∧ w'.cell? ⟨w10.heap.size, 2, none⟩ = some (Value.int .u64 (y3 : Int)) ∧ w'.cell? ⟨w10.heap.size, 3, none⟩ = some (Value.slice A10 n10 c10)) (first | exact Q11.out | exact Q12.out | exact Q13.out)
    (first
      | (go_at_call 14; (with_reducible refine (H8.out _ _ _ _ T11.drew B11.drew).mono ?_); rintro e w12 ⟨rfl, T12⟩; have T12 := undrew T12; have Q12 : Hid ((w12.cell? ⟨w.heap.size, 0, none⟩ = some (.bool a) ∧ w12.cell? ⟨w.heap.size, 1, none⟩ = some (.int .i64 s) ∧ w12.cell? ⟨w.heap.size, 2, none⟩ = some (.int .u64 (u : Int)) ∧ w12.cell? ⟨w.heap.size, 3, none⟩ = some (Value.slice A n c)) ∧ w12.cell? ⟨w10.heap.size, 0, none⟩ = some (Value.bool y1) ∧ w12.cell? ⟨w10.heap.size, 1, none⟩ = some (Value.int .i64 (y2 : Int)) ∧ w12.cell? ⟨w10.heap.size, 2, none⟩ = some (Value.int .u64 (y3 : Int)) ∧ w12.cell? ⟨w10.heap.size, 3, none⟩ = some (Value.slice A10 n10 c10)) := ⟨rows_below4 T12 (by omega) Q11.out.1, rows_below4 T12 z11 Q11.out.2⟩; have z12 := Nat.lt_of_lt_of_le z11 T12.size; have B12 := B11.below T12; have T12 := nxt T11 T12)
      | (go_at_call 13; (with_reducible refine (H9.out _ _ _ _ T12 B12).mono ?_); rintro e w13 ⟨rfl, T13⟩; have Q13 : Hid ((w13.cell? ⟨w.heap.size, 0, none⟩ = some (.bool a) ∧ w13.cell? ⟨w.heap.size, 1, none⟩ = some (.int .i64 s) ∧ w13.cell? ⟨w.heap.size, 2, none⟩ = some (.int .u64 (u : Int)) ∧ w13.cell? ⟨w.heap.size, 3, none⟩ = some (Value.slice A n c)) ∧ w13.cell? ⟨w10.heap.size, 0, none⟩ = some (Value.bool y1) ∧ w13.cell? ⟨w10.heap.size, 1, none⟩ = some (Value.int .i64 (y2 : Int)) ∧ w13.cell? ⟨w10.heap.size, 2, none⟩ = some (Value.int .u64 (y3 : Int)) ∧ w13.cell? ⟨w10.heap.size, 3, none⟩ = some (Value.slice A10 n10 c10)) := ⟨rows_below4 T13 (by omega) Q12.out.1, rows_below4 T13 z12 Q12.out.2⟩; have z13 := Nat.lt_of_lt_of_le z12 T13.size; have B13 := B12.below T13; have T13 := nxt T12 T13))
  go_wp2_with (fail)
  refine (num14_any _ _).mono ?_
  rintro e w9 ⟨rfl, rfl⟩
  obtain ⟨q4, q5, q6, q7⟩ := Q13.out.2
  go_wp2_with (fail)
  refine (H7.out _ _ _ _ B13).mono ?_
  rintro e w14 ⟨A14, n14, c14, rfl, B14, T14⟩
  have T14 := nxt T13 T14
  clear q4 q5 q6 q7
  go_wp2_with (fail)
  refine (num14_any _ _).mono ?_
  rintro e w9 ⟨rfl, rfl⟩
  go_wp2_with (fail)
  refine (same_true _ _ _ _ _ _ _ _ B14 (HB'.out _ T14)).mono ?_
  rintro e w15 ⟨rfl, T15⟩
  have T15 := nxt T14 T15
  go_wp2_with (fail)
  refine (HL.out _).mono ?_
  rintro e w16 ⟨rfl, T16⟩
  have T16 := nxt T15 T16
  go_wp2
  go_ret
  exact ⟨rfl, T16⟩
theorem walk_SlideBack (C : SlC) (a : Bool) (s : Int) (u : Nat) (A : Option Addr) (n c : Nat) (d : List UInt8) (A' : Option Addr) (n' c' : Nat) (b : List UInt8) (m : Int) (w : World) (hs : I64 s) (hu : u < 18446744073709551616) (hm : I64 m) (hB : Bys w A n c d) (hB' : Bys w A' n' c' b) (hn' : n' ≤ 140737488355328) :
    Calls Try.prog 5 #[.agg #[.bool a, .int .i64 s, .int .u64 (u : Int), .slice A n c], .slice A' n' c', .int .i64 m] w fun e w' => e = .returned (.bool true) ∧ Below w.heap.size w w' := by
  by_cases hr : slErr a s u n m = 0 <;> by_cases ho : slGetE b m = 0
  · exact back14_yy C a s u A n c d A' n' c' b m w hs hu hm hB hB' hn' hr ho
  · exact back14_yn C a s u A n c d A' n' c' b m w hs hu hm hB hB' hn' hr ho
  · exact back14_ny C a s u A n c d A' n' c' b m w hs hu hm hB hB' hn' hr ho
  · exact back14_nn C a s u A n c d A' n' c' b m w hs hu hm hB hB' hn' hr ho
end Go.Proofs.Ytodgnfjaidiibaa
