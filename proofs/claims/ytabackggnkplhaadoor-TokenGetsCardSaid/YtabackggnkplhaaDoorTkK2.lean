/- What the landed token's Same answers (at ac8f435). -/
import Derived.Test.YtabackggnkplhaaDoorTkK1
import Derived.Test.YtabackggnkplhaaDoorRtk9
import Derived.Test.YtabackggnkplhaaDoorOsame
import Derived.Laws.StructEq
import Derived.ChangeKeysEq
import Derived.Deep.RegionHeld3
namespace Go.Proofs.YtabackggnkplhaaDoor
open Go.RowKit
set_option maxRecDepth 20000

theorem eq_three (a b c a' b' c' : Int) (W : World) : (Op.equalIn 10000 43 (.agg #[.int .u64 a, .int .u64 b, .int .u64 c]) (.agg #[.int .u64 a', .int .u64 b', .int .u64 c'])).run Tryd.prog W = .ok (a == a' && (b == b' && c == c')) W := by
  obtain ⟨i, hi⟩ := Option.isSome_iff_exists.1 (show (Tryd.prog.info? 22).isSome = true by kernel_rfl)
  have hc : Tryd.prog.cellsOf 22 = 1 := by kernel_rfl
  have hp : Tryd.prog.plainKey 22 = true := by kernel_rfl
  have e := fun (x y : Int) W => run_equalIn_int (P := Tryd.prog) W 9998 22 .u64 .u64 x y Tryd.underlying22
  have p0 := fun (x y z : Int) W => run_part_plain (P := Tryd.prog) W hp (xs := #[.int .u64 x, .int .u64 y, .int .u64 z]) (off := 0) rfl
  have p1 := fun (x y z : Int) W => run_part_plain (P := Tryd.prog) W hp (xs := #[.int .u64 x, .int .u64 y, .int .u64 z]) (off := 1) rfl
  have p2 := fun (x y z : Int) W => run_part_plain (P := Tryd.prog) W hp (xs := #[.int .u64 x, .int .u64 y, .int .u64 z]) (off := 2) rfl
  rw [run_equalIn_array W 9999 _ _ Tryd.underlying43 hi, hc, show List.range 3 = [0, 1, 2] from rfl]
  cases h1 : (a == a') <;> cases h2 : (b == b') <;> cases h3 : (c == c') <;> simp [Op.eqItems, p0, p1, p2, e, h1, h2, h3, -beq_eq_false_iff_ne, -beq_iff_eq]
set_option maxHeartbeats 8000000 in
theorem tksame_eq (k : Int) (x y z : Nat) (A : Option Addr) (n c : Nat) (d : List UInt8) (A' : Option Addr) (n' c' : Nat) (d' : List UInt8) (w : World) (hB : Bys w A n c d) (hB' : Bys w A' n' c' d') :
    Calls Tryd.prog 14 #[.agg #[.int .i64 k, .int .u64 (x : Int), .int .u64 (y : Int), .int .u64 (z : Int), .slice A n c], .agg #[.int .i64 k, .int .u64 (x : Int), .int .u64 (y : Int), .int .u64 (z : Int), .slice A' n' c']] w fun e w' => e = .returned (.bool (sameB d d')) ∧ Below w.heap.size w w' := by
  have eq3 := eq_three (x : Int) (y : Int) (z : Int) (x : Int) (y : Int) (z : Int)
  simp only [beq_self_eq_true, Bool.and_self] at eq3
  have e1 : (k == k) = true := by simp
  have HN1 := Lib.hid (fun W => tknums_any k x y z A n c W)
  have HN2 := Lib.hid (fun W => tknums_any k x y z A' n' c' W)
  have T0 : Below w.heap.size w ((w.alloc (.cells #[.int .i64 k, .int .u64 (x : Int), .int .u64 (y : Int), .int .u64 (z : Int), .slice A n c] 25)).alloc (.cells #[.int .i64 k, .int .u64 (x : Int), .int .u64 (y : Int), .int .u64 (z : Int), .slice A' n' c'] 25)) := ((Below.refl _ w).alloc (Nat.le_refl _) _).alloc (by simp) _
  have z0 : w.heap.size + 1 < ((w.alloc (.cells #[.int .i64 k, .int .u64 (x : Int), .int .u64 (y : Int), .int .u64 (z : Int), .slice A n c] 25)).alloc (.cells #[.int .i64 k, .int .u64 (x : Int), .int .u64 (y : Int), .int .u64 (z : Int), .slice A' n' c'] 25)).heap.size := by simp
  have Q0 : Hid ((((w.alloc (.cells #[.int .i64 k, .int .u64 (x : Int), .int .u64 (y : Int), .int .u64 (z : Int), .slice A n c] 25)).alloc (.cells #[.int .i64 k, .int .u64 (x : Int), .int .u64 (y : Int), .int .u64 (z : Int), .slice A' n' c'] 25)).cell? ⟨w.heap.size, 0, none⟩ = some (.int .i64 k) ∧ ((w.alloc (.cells #[.int .i64 k, .int .u64 (x : Int), .int .u64 (y : Int), .int .u64 (z : Int), .slice A n c] 25)).alloc (.cells #[.int .i64 k, .int .u64 (x : Int), .int .u64 (y : Int), .int .u64 (z : Int), .slice A' n' c'] 25)).cell? ⟨w.heap.size, 1, none⟩ = some (.int .u64 (x : Int)) ∧ ((w.alloc (.cells #[.int .i64 k, .int .u64 (x : Int), .int .u64 (y : Int), .int .u64 (z : Int), .slice A n c] 25)).alloc (.cells #[.int .i64 k, .int .u64 (x : Int), .int .u64 (y : Int), .int .u64 (z : Int), .slice A' n' c'] 25)).cell? ⟨w.heap.size, 2, none⟩ = some (.int .u64 (y : Int)) ∧ ((w.alloc (.cells #[.int .i64 k, .int .u64 (x : Int), .int .u64 (y : Int), .int .u64 (z : Int), .slice A n c] 25)).alloc (.cells #[.int .i64 k, .int .u64 (x : Int), .int .u64 (y : Int), .int .u64 (z : Int), .slice A' n' c'] 25)).cell? ⟨w.heap.size, 3, none⟩ = some (.int .u64 (z : Int)) ∧ ((w.alloc (.cells #[.int .i64 k, .int .u64 (x : Int), .int .u64 (y : Int), .int .u64 (z : Int), .slice A n c] 25)).alloc (.cells #[.int .i64 k, .int .u64 (x : Int), .int .u64 (y : Int), .int .u64 (z : Int), .slice A' n' c'] 25)).cell? ⟨w.heap.size, 4, none⟩ = some (Value.slice A n c)) ∧ ((w.alloc (.cells #[.int .i64 k, .int .u64 (x : Int), .int .u64 (y : Int), .int .u64 (z : Int), .slice A n c] 25)).alloc (.cells #[.int .i64 k, .int .u64 (x : Int), .int .u64 (y : Int), .int .u64 (z : Int), .slice A' n' c'] 25)).cell? ⟨w.heap.size + 1, 0, none⟩ = some (.int .i64 k) ∧ ((w.alloc (.cells #[.int .i64 k, .int .u64 (x : Int), .int .u64 (y : Int), .int .u64 (z : Int), .slice A n c] 25)).alloc (.cells #[.int .i64 k, .int .u64 (x : Int), .int .u64 (y : Int), .int .u64 (z : Int), .slice A' n' c'] 25)).cell? ⟨w.heap.size + 1, 1, none⟩ = some (.int .u64 (x : Int)) ∧ ((w.alloc (.cells #[.int .i64 k, .int .u64 (x : Int), .int .u64 (y : Int), .int .u64 (z : Int), .slice A n c] 25)).alloc (.cells #[.int .i64 k, .int .u64 (x : Int), .int .u64 (y : Int), .int .u64 (z : Int), .slice A' n' c'] 25)).cell? ⟨w.heap.size + 1, 2, none⟩ = some (.int .u64 (y : Int)) ∧ ((w.alloc (.cells #[.int .i64 k, .int .u64 (x : Int), .int .u64 (y : Int), .int .u64 (z : Int), .slice A n c] 25)).alloc (.cells #[.int .i64 k, .int .u64 (x : Int), .int .u64 (y : Int), .int .u64 (z : Int), .slice A' n' c'] 25)).cell? ⟨w.heap.size + 1, 3, none⟩ = some (.int .u64 (z : Int)) ∧ ((w.alloc (.cells #[.int .i64 k, .int .u64 (x : Int), .int .u64 (y : Int), .int .u64 (z : Int), .slice A n c] 25)).alloc (.cells #[.int .i64 k, .int .u64 (x : Int), .int .u64 (y : Int), .int .u64 (z : Int), .slice A' n' c'] 25)).cell? ⟨w.heap.size + 1, 4, none⟩ = some (Value.slice A' n' c')) := ⟨(row5 (two_rows (Below.refl _ _)).1).1, (row5 (two_rows (Below.refl _ _)).2).1⟩
  have HS := Lib.hid (fun W (h : Below w.heap.size w W) => osame_any A A' n c n' c' d d' W (hB.below h) (hB'.below h))
  clear hB hB'
  go_enter Tryd.func14, Tryd.ntmps14
  go_wp2_with (fail)
  generalize ((w.alloc (.cells #[.int .i64 k, .int .u64 (x : Int), .int .u64 (y : Int), .int .u64 (z : Int), .slice A n c] 25)).alloc (.cells #[.int .i64 k, .int .u64 (x : Int), .int .u64 (y : Int), .int .u64 (z : Int), .slice A' n' c'] 25)) = W0 at *
  go_region_held3 (fun w' => (w'.cell? ⟨w.heap.size, 0, none⟩ = some (.int .i64 k) ∧ w'.cell? ⟨w.heap.size, 1, none⟩ = some (.int .u64 (x : Int)) ∧ w'.cell? ⟨w.heap.size, 2, none⟩ = some (.int .u64 (y : Int)) ∧ w'.cell? ⟨w.heap.size, 3, none⟩ = some (.int .u64 (z : Int)) ∧ w'.cell? ⟨w.heap.size, 4, none⟩ = some (Value.slice A n c)) ∧ w'.cell? ⟨w.heap.size + 1, 0, none⟩ = some (.int .i64 k) ∧ w'.cell? ⟨w.heap.size + 1, 1, none⟩ = some (.int .u64 (x : Int)) ∧ w'.cell? ⟨w.heap.size + 1, 2, none⟩ = some (.int .u64 (y : Int)) ∧ w'.cell? ⟨w.heap.size + 1, 3, none⟩ = some (.int .u64 (z : Int)) ∧ w'.cell? ⟨w.heap.size + 1, 4, none⟩ = some (Value.slice A' n' c')) (first | exact Q0.out | exact Q1.out | exact Q2.out)
    (first
      | (go_at_call 17; (with_reducible refine (HN1.out _).mono ?_); rintro e w1 ⟨rfl, T1⟩; have T1 := undrew T1; have Q1 : Hid ((w1.cell? ⟨w.heap.size, 0, none⟩ = some (.int .i64 k) ∧ w1.cell? ⟨w.heap.size, 1, none⟩ = some (.int .u64 (x : Int)) ∧ w1.cell? ⟨w.heap.size, 2, none⟩ = some (.int .u64 (y : Int)) ∧ w1.cell? ⟨w.heap.size, 3, none⟩ = some (.int .u64 (z : Int)) ∧ w1.cell? ⟨w.heap.size, 4, none⟩ = some (Value.slice A n c)) ∧ w1.cell? ⟨w.heap.size + 1, 0, none⟩ = some (.int .i64 k) ∧ w1.cell? ⟨w.heap.size + 1, 1, none⟩ = some (.int .u64 (x : Int)) ∧ w1.cell? ⟨w.heap.size + 1, 2, none⟩ = some (.int .u64 (y : Int)) ∧ w1.cell? ⟨w.heap.size + 1, 3, none⟩ = some (.int .u64 (z : Int)) ∧ w1.cell? ⟨w.heap.size + 1, 4, none⟩ = some (Value.slice A' n' c')) := ⟨rows_below5 T1 (by omega) Q0.out.1, rows_below5 T1 z0 Q0.out.2⟩; have z1 := Nat.lt_of_lt_of_le z0 T1.size; have T1 := nxt T0 T1)
      | (go_at_call 17; (with_reducible refine (HN2.out _).mono ?_); rintro e w2 ⟨rfl, T2⟩; have Q2 : Hid ((w2.cell? ⟨w.heap.size, 0, none⟩ = some (.int .i64 k) ∧ w2.cell? ⟨w.heap.size, 1, none⟩ = some (.int .u64 (x : Int)) ∧ w2.cell? ⟨w.heap.size, 2, none⟩ = some (.int .u64 (y : Int)) ∧ w2.cell? ⟨w.heap.size, 3, none⟩ = some (.int .u64 (z : Int)) ∧ w2.cell? ⟨w.heap.size, 4, none⟩ = some (Value.slice A n c)) ∧ w2.cell? ⟨w.heap.size + 1, 0, none⟩ = some (.int .i64 k) ∧ w2.cell? ⟨w.heap.size + 1, 1, none⟩ = some (.int .u64 (x : Int)) ∧ w2.cell? ⟨w.heap.size + 1, 2, none⟩ = some (.int .u64 (y : Int)) ∧ w2.cell? ⟨w.heap.size + 1, 3, none⟩ = some (.int .u64 (z : Int)) ∧ w2.cell? ⟨w.heap.size + 1, 4, none⟩ = some (Value.slice A' n' c')) := ⟨rows_below5 T2 (by omega) Q1.out.1, rows_below5 T2 z1 Q1.out.2⟩; have z2 := Nat.lt_of_lt_of_le z1 T2.size; have T2 := nxt T1 T2)
      | (go_at_call 23; (with_reducible refine (HS.out _ T2).mono ?_); rintro e w3 ⟨rfl, rfl⟩))
  all_goals
    go_wp2
    go_ret
    exact ⟨rfl, T2⟩
set_option maxHeartbeats 8000000 in
theorem tksame_ne (k : Int) (x y z : Nat) (A : Option Addr) (n c : Nat) (x' y' z' : Nat) (A' : Option Addr) (n' c' : Nat) (w : World) (hb : ((x : Int) == (x' : Int) && ((y : Int) == (y' : Int) && (z : Int) == (z' : Int))) = false) :
    Calls Tryd.prog 14 #[.agg #[.int .i64 k, .int .u64 (x : Int), .int .u64 (y : Int), .int .u64 (z : Int), .slice A n c], .agg #[.int .i64 k, .int .u64 (x' : Int), .int .u64 (y' : Int), .int .u64 (z' : Int), .slice A' n' c']] w fun e w' => e = .returned (.bool false) ∧ Below w.heap.size w w' := by
  have eq3 := eq_three (x : Int) (y : Int) (z : Int) (x' : Int) (y' : Int) (z' : Int)
  rw [hb] at eq3
  have e1 : (k == k) = true := by simp
  clear hb
  have HN1 := Lib.hid (fun W => tknums_any k x y z A n c W)
  have HN2 := Lib.hid (fun W => tknums_any k x' y' z' A' n' c' W)
  have T0 : Below w.heap.size w ((w.alloc (.cells #[.int .i64 k, .int .u64 (x : Int), .int .u64 (y : Int), .int .u64 (z : Int), .slice A n c] 25)).alloc (.cells #[.int .i64 k, .int .u64 (x' : Int), .int .u64 (y' : Int), .int .u64 (z' : Int), .slice A' n' c'] 25)) := ((Below.refl _ w).alloc (Nat.le_refl _) _).alloc (by simp) _
  have z0 : w.heap.size + 1 < ((w.alloc (.cells #[.int .i64 k, .int .u64 (x : Int), .int .u64 (y : Int), .int .u64 (z : Int), .slice A n c] 25)).alloc (.cells #[.int .i64 k, .int .u64 (x' : Int), .int .u64 (y' : Int), .int .u64 (z' : Int), .slice A' n' c'] 25)).heap.size := by simp
  have Q0 : Hid ((((w.alloc (.cells #[.int .i64 k, .int .u64 (x : Int), .int .u64 (y : Int), .int .u64 (z : Int), .slice A n c] 25)).alloc (.cells #[.int .i64 k, .int .u64 (x' : Int), .int .u64 (y' : Int), .int .u64 (z' : Int), .slice A' n' c'] 25)).cell? ⟨w.heap.size, 0, none⟩ = some (.int .i64 k) ∧ ((w.alloc (.cells #[.int .i64 k, .int .u64 (x : Int), .int .u64 (y : Int), .int .u64 (z : Int), .slice A n c] 25)).alloc (.cells #[.int .i64 k, .int .u64 (x' : Int), .int .u64 (y' : Int), .int .u64 (z' : Int), .slice A' n' c'] 25)).cell? ⟨w.heap.size, 1, none⟩ = some (.int .u64 (x : Int)) ∧ ((w.alloc (.cells #[.int .i64 k, .int .u64 (x : Int), .int .u64 (y : Int), .int .u64 (z : Int), .slice A n c] 25)).alloc (.cells #[.int .i64 k, .int .u64 (x' : Int), .int .u64 (y' : Int), .int .u64 (z' : Int), .slice A' n' c'] 25)).cell? ⟨w.heap.size, 2, none⟩ = some (.int .u64 (y : Int)) ∧ ((w.alloc (.cells #[.int .i64 k, .int .u64 (x : Int), .int .u64 (y : Int), .int .u64 (z : Int), .slice A n c] 25)).alloc (.cells #[.int .i64 k, .int .u64 (x' : Int), .int .u64 (y' : Int), .int .u64 (z' : Int), .slice A' n' c'] 25)).cell? ⟨w.heap.size, 3, none⟩ = some (.int .u64 (z : Int)) ∧ ((w.alloc (.cells #[.int .i64 k, .int .u64 (x : Int), .int .u64 (y : Int), .int .u64 (z : Int), .slice A n c] 25)).alloc (.cells #[.int .i64 k, .int .u64 (x' : Int), .int .u64 (y' : Int), .int .u64 (z' : Int), .slice A' n' c'] 25)).cell? ⟨w.heap.size, 4, none⟩ = some (Value.slice A n c)) ∧ ((w.alloc (.cells #[.int .i64 k, .int .u64 (x : Int), .int .u64 (y : Int), .int .u64 (z : Int), .slice A n c] 25)).alloc (.cells #[.int .i64 k, .int .u64 (x' : Int), .int .u64 (y' : Int), .int .u64 (z' : Int), .slice A' n' c'] 25)).cell? ⟨w.heap.size + 1, 0, none⟩ = some (.int .i64 k) ∧ ((w.alloc (.cells #[.int .i64 k, .int .u64 (x : Int), .int .u64 (y : Int), .int .u64 (z : Int), .slice A n c] 25)).alloc (.cells #[.int .i64 k, .int .u64 (x' : Int), .int .u64 (y' : Int), .int .u64 (z' : Int), .slice A' n' c'] 25)).cell? ⟨w.heap.size + 1, 1, none⟩ = some (.int .u64 (x' : Int)) ∧ ((w.alloc (.cells #[.int .i64 k, .int .u64 (x : Int), .int .u64 (y : Int), .int .u64 (z : Int), .slice A n c] 25)).alloc (.cells #[.int .i64 k, .int .u64 (x' : Int), .int .u64 (y' : Int), .int .u64 (z' : Int), .slice A' n' c'] 25)).cell? ⟨w.heap.size + 1, 2, none⟩ = some (.int .u64 (y' : Int)) ∧ ((w.alloc (.cells #[.int .i64 k, .int .u64 (x : Int), .int .u64 (y : Int), .int .u64 (z : Int), .slice A n c] 25)).alloc (.cells #[.int .i64 k, .int .u64 (x' : Int), .int .u64 (y' : Int), .int .u64 (z' : Int), .slice A' n' c'] 25)).cell? ⟨w.heap.size + 1, 3, none⟩ = some (.int .u64 (z' : Int)) ∧ ((w.alloc (.cells #[.int .i64 k, .int .u64 (x : Int), .int .u64 (y : Int), .int .u64 (z : Int), .slice A n c] 25)).alloc (.cells #[.int .i64 k, .int .u64 (x' : Int), .int .u64 (y' : Int), .int .u64 (z' : Int), .slice A' n' c'] 25)).cell? ⟨w.heap.size + 1, 4, none⟩ = some (Value.slice A' n' c')) := ⟨(row5 (two_rows (Below.refl _ _)).1).1, (row5 (two_rows (Below.refl _ _)).2).1⟩
  go_enter Tryd.func14, Tryd.ntmps14
  go_wp2_with (fail)
  generalize ((w.alloc (.cells #[.int .i64 k, .int .u64 (x : Int), .int .u64 (y : Int), .int .u64 (z : Int), .slice A n c] 25)).alloc (.cells #[.int .i64 k, .int .u64 (x' : Int), .int .u64 (y' : Int), .int .u64 (z' : Int), .slice A' n' c'] 25)) = W0 at *
  obtain ⟨⟨a0, a1, a2, a3, a4⟩, b0, b1, b2, b3, b4⟩ := Q0.out
  first
  | go_region_with (first
      | (go_at_call 17; (with_reducible refine (HN1.out _).mono ?_); rintro e w1 ⟨rfl, T1⟩; have T1 := undrew T1; have Q1 : Hid ((w1.cell? ⟨w.heap.size, 0, none⟩ = some (.int .i64 k) ∧ w1.cell? ⟨w.heap.size, 1, none⟩ = some (.int .u64 (x : Int)) ∧ w1.cell? ⟨w.heap.size, 2, none⟩ = some (.int .u64 (y : Int)) ∧ w1.cell? ⟨w.heap.size, 3, none⟩ = some (.int .u64 (z : Int)) ∧ w1.cell? ⟨w.heap.size, 4, none⟩ = some (Value.slice A n c)) ∧ w1.cell? ⟨w.heap.size + 1, 0, none⟩ = some (.int .i64 k) ∧ w1.cell? ⟨w.heap.size + 1, 1, none⟩ = some (.int .u64 (x' : Int)) ∧ w1.cell? ⟨w.heap.size + 1, 2, none⟩ = some (.int .u64 (y' : Int)) ∧ w1.cell? ⟨w.heap.size + 1, 3, none⟩ = some (.int .u64 (z' : Int)) ∧ w1.cell? ⟨w.heap.size + 1, 4, none⟩ = some (Value.slice A' n' c')) := ⟨rows_below5 T1 (by omega) Q0.out.1, rows_below5 T1 z0 Q0.out.2⟩; have z1 := Nat.lt_of_lt_of_le z0 T1.size; have T1 := nxt T0 T1; clear a0 a1 a2 a3 a4 b0 b1 b2 b3 b4; obtain ⟨⟨a0, a1, a2, a3, a4⟩, b0, b1, b2, b3, b4⟩ := Q1.out)
      | (go_at_call 17; (with_reducible refine (HN2.out _).mono ?_); rintro e w2 ⟨rfl, T2⟩; have T2 := nxt T1 T2; clear a0 a1 a2 a3 a4 b0 b1 b2 b3 b4))
  | fail
  all_goals
    go_wp2
    go_ret
    exact ⟨rfl, T2⟩
set_option maxHeartbeats 4000000 in
theorem tksame_kind (k : Int) (x y z : Nat) (A : Option Addr) (n c : Nat) (k' : Int) (x' y' z' : Nat) (A' : Option Addr) (n' c' : Nat) (w : World) (e1 : (k == k') = false) :
    Calls Tryd.prog 14 #[.agg #[.int .i64 k, .int .u64 (x : Int), .int .u64 (y : Int), .int .u64 (z : Int), .slice A n c], .agg #[.int .i64 k', .int .u64 (x' : Int), .int .u64 (y' : Int), .int .u64 (z' : Int), .slice A' n' c']] w fun e w' => e = .returned (.bool false) ∧ Below w.heap.size w w' := by
  have T0 : Below w.heap.size w ((w.alloc (.cells #[.int .i64 k, .int .u64 (x : Int), .int .u64 (y : Int), .int .u64 (z : Int), .slice A n c] 25)).alloc (.cells #[.int .i64 k', .int .u64 (x' : Int), .int .u64 (y' : Int), .int .u64 (z' : Int), .slice A' n' c'] 25)) := ((Below.refl _ w).alloc (Nat.le_refl _) _).alloc (by simp) _
  go_enter Tryd.func14, Tryd.ntmps14
  go_wp2_with (fail)
  go_region
  all_goals
    go_wp2
    go_ret
    exact ⟨rfl, below_drewN' T0 1⟩
theorem tksame_any (k : Int) (x y z : Nat) (A : Option Addr) (n c : Nat) (d : List UInt8) (k' : Int) (x' y' z' : Nat) (A' : Option Addr) (n' c' : Nat) (d' : List UInt8) (w : World) (hB : Bys w A n c d) (hB' : Bys w A' n' c' d') :
    Calls Tryd.prog 14 #[.agg #[.int .i64 k, .int .u64 (x : Int), .int .u64 (y : Int), .int .u64 (z : Int), .slice A n c], .agg #[.int .i64 k', .int .u64 (x' : Int), .int .u64 (y' : Int), .int .u64 (z' : Int), .slice A' n' c']] w fun e w' => e = .returned (.bool (tkSame k x y z d k' x' y' z' d')) ∧ Below w.heap.size w w' := by
  by_cases h0 : k = k'
  · subst h0
    by_cases h1 : x = x' ∧ y = y' ∧ z = z'
    · obtain ⟨rfl, rfl, rfl⟩ := h1
      rw [show tkSame k x y z d k x y z d' = sameB d d' by unfold tkSame sameB; simp]
      exact tksame_eq k x y z A n c d A' n' c' d' w hB hB'
    · rw [show tkSame k x y z d k x' y' z' d' = false by unfold tkSame; simp; intro a1 a2 a3; exact absurd ⟨a1, a2, a3⟩ h1]
      refine tksame_ne k x y z A n c x' y' z' A' n' c' w ?_
      rw [Bool.eq_false_iff]
      intro h
      simp only [Bool.and_eq_true, beq_iff_eq] at h
      exact h1 ⟨by omega, by omega, by omega⟩
  · rw [show tkSame k x y z d k' x' y' z' d' = false by unfold tkSame; simp [h0]]
    exact tksame_kind k x y z A n c k' x' y' z' A' n' c' w (by simpa using h0)
end Go.Proofs.YtabackggnkplhaaDoor
