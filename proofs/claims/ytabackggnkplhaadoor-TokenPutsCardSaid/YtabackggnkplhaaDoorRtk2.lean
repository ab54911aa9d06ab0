/- What kedgeref15.Put answers. -/
import Derived.Test.YtabackggnkplhaaDoorRtk1
import Derived.Test.YtabackggnkplhaaDoorRput
import Derived.Test.YtabackggnkplhaaDoorRpr2
import Derived.Deep.RegionHeld3
namespace Go.Proofs.YtabackggnkplhaaDoor
open Go.RowKit
set_option maxRecDepth 20000

theorem rtput_k (x : Nat) (k : Nat) (w : World) (hx : x < 18446744073709551616) (h1 : 1 ≤ k) (h8 : k ≤ 8) : Calls Tryd.prog 19 #[.int .u64 (x : Int), .int .i64 (k : Int)] w (GivesK w k (putB x k)) := by
  refine (rput_any x (k : Int) w hx).mono fun e w' h => ?_
  have e1 : putOf x (k : Int) = putB x k := by unfold putOf; rw [if_neg (by omega)]; rfl
  rw [e1] at h
  have := h.givesK
  rwa [putB_length] at this
theorem rtput_eight (x : Nat) (w : World) (hx : x < 18446744073709551616) : Calls Tryd.prog 19 #[.int .u64 (x : Int), .int .i64 8] w (GivesK w 8 (putB x 8)) := rtput_k x 8 w hx (by decide) (by decide)
set_option maxHeartbeats 4000000 in
theorem rtkput_no (k : Int) (x y z : Nat) (A : Option Addr) (n c : Nat) (d : List UInt8) (w : World) (hB : Bys w A n c d) (h : tkRight k y z n = false) :
    Calls Tryd.prog 7 #[.agg #[.int .i64 k, .int .u64 (x : Int), .int .u64 (y : Int), .int .u64 (z : Int), .slice A n c]] w (GivesI w (tkErr k y z n) (tkPut k x y z d)) := by
  have hl := hB.len
  have hp : tkPut k x y z d = [] := by unfold tkPut; rw [hl, h]; rfl
  have he : tkErr k y z n = 130 := by unfold tkErr; rw [h]; rfl
  rw [hp, he]
  have HR := Lib.hid (fun W => rtkright_any k x y z A n c W)
  rw [h] at HR
  clear hp he hB hl h
  go_enter Tryd.func7, Tryd.ntmps7
  go_wp2_with (fail)
  refine (HR.out _).mono ?_
  rintro e w1 ⟨rfl, T1⟩
  have T1 := nxt ((Below.refl _ w).alloc (Nat.le_refl _) _) T1
  go_wp2
  go_ret2
  exact ⟨_, _, _, rfl, Bys.nil _, T1⟩
set_option maxHeartbeats 8000000 in
theorem rtkput_0 (x y z : Nat) (A : Option Addr) (n c : Nat) (d : List UInt8) (w : World) (hx : x < 18446744073709551616) (hy : y < 18446744073709551616) (hz : z < 18446744073709551616) (hB : Bys w A n c d) (h : tkRight 0 y z n = true) :
    Calls Tryd.prog 7 #[.agg #[.int .i64 0, .int .u64 (x : Int), .int .u64 (y : Int), .int .u64 (z : Int), .slice A n c]] w (GivesI w 0 (tkBytes 0 x y z d)) := by
  have hn := tkRight_len h
  have HR := Lib.hid (fun W => rtkright_any 0 x y z A n c W)
  rw [h] at HR
  have HE : Hid (tkBytes 0 x y z d = [0] ++ putB x 8 ++ d) := by show _ = _; unfold tkBytes; simp
  have HP := Lib.hid (fun W => rtput_eight x W hx)
  have HPC := Lib.hid (fun W => rtput_eight y W hy)
  have HPR := Lib.hid (fun W => rtput_eight z W hz)
  have HC := Lib.hid (fun W (k : Below w.heap.size w W) => hB.below k)
  clear h hB hx hy hz
  generalize tkBytes 0 x y z d = E at *
  go_enter Tryd.func7, Tryd.ntmps7
  go_wp2_with (fail)
  refine (HR.out _).mono ?_
  rintro e w1 ⟨rfl, T1⟩
  have Q1 := Lib.hid (row5 (one_row T1)).1
  have z1 : w.heap.size < w1.heap.size := lt_row (one_row T1)
  have T1 := nxt ((Below.refl _ w).alloc (Nat.le_refl _) _) T1
  have LX := Lib.hid (own_lit_at w1 0 0 rfl (w.heap.size + 1) z1)
  have QX : Hid ((w1.alloc (.cells #[.int .u8 0] 5)).cell? ⟨w.heap.size, 0, none⟩ = some (.int .i64 0) ∧ (w1.alloc (.cells #[.int .u8 0] 5)).cell? ⟨w.heap.size, 1, none⟩ = some (.int .u64 (x : Int)) ∧ (w1.alloc (.cells #[.int .u8 0] 5)).cell? ⟨w.heap.size, 2, none⟩ = some (.int .u64 (y : Int)) ∧ (w1.alloc (.cells #[.int .u8 0] 5)).cell? ⟨w.heap.size, 3, none⟩ = some (.int .u64 (z : Int)) ∧ (w1.alloc (.cells #[.int .u8 0] 5)).cell? ⟨w.heap.size, 4, none⟩ = some (Value.slice A n c)) := rows_below5 ((Below.refl w1.heap.size w1).alloc (Nat.le_refl _) _) z1 Q1.out
  go_wp2_with (fail)
  go_region_held3 (fun w' => w'.cell? ⟨w.heap.size, 0, none⟩ = some (.int .i64 0) ∧ w'.cell? ⟨w.heap.size, 1, none⟩ = some (.int .u64 (x : Int)) ∧ w'.cell? ⟨w.heap.size, 2, none⟩ = some (.int .u64 (y : Int)) ∧ w'.cell? ⟨w.heap.size, 3, none⟩ = some (.int .u64 (z : Int)) ∧ w'.cell? ⟨w.heap.size, 4, none⟩ = some (Value.slice A n c)) (first | exact Q1.out | exact QX.out | exact Q2.out | exact QY.out | exact Q3.out)
    (first
      | (go_at_call 19; (with_reducible refine (HP.out _).mono ?_); rintro e w2 ⟨A2, c2, rfl, B2, T2⟩; have T2 := undrew T2; have L2 : Hid (w2.ownsRow (w.heap.size + 1) 5 1 (.slice (some ⟨w1.heap.size, 0, none⟩) 1 1) 1 (bvs [0])) := own_below LX.out T2; have Q2 := Lib.hid (rows_below5 T2 (by simp; omega) QX.out); have z2 : w.heap.size < w2.heap.size := Nat.lt_of_lt_of_le z1 (by have := T2.size; simp at this; omega); have T2 := nxt (T1.alloc T1.size _) T2)
      | (go_at_call 19; (with_reducible refine (HP.out _).mono ?_); rintro e w2 ⟨A2, c2, rfl, B2, T2⟩; have T2 := undrew T2; have Q2 := Lib.hid (rows_below5 T2 z1 Q1.out); have QY : Hid ((w2.alloc (.cells #[.int .u8 0] 5)).cell? ⟨w.heap.size, 0, none⟩ = some (.int .i64 0) ∧ (w2.alloc (.cells #[.int .u8 0] 5)).cell? ⟨w.heap.size, 1, none⟩ = some (.int .u64 (x : Int)) ∧ (w2.alloc (.cells #[.int .u8 0] 5)).cell? ⟨w.heap.size, 2, none⟩ = some (.int .u64 (y : Int)) ∧ (w2.alloc (.cells #[.int .u8 0] 5)).cell? ⟨w.heap.size, 3, none⟩ = some (.int .u64 (z : Int)) ∧ (w2.alloc (.cells #[.int .u8 0] 5)).cell? ⟨w.heap.size, 4, none⟩ = some (Value.slice A n c)) := rows_below5 ((Below.refl w2.heap.size w2).alloc (Nat.le_refl _) _) (Nat.lt_of_lt_of_le z1 T2.size) Q2.out; have z2 := Nat.lt_of_lt_of_le z1 T2.size; have T2 := nxt T1 T2; have L2 := Lib.hid (own_lit_at w2 0 0 rfl (w.heap.size + 1) z2))
      | ((refine step_bys _ rfl (.tmp 11) (.tmp 14) rfl (w.heap.size + 1) (.slice (some ⟨w1.heap.size, 0, none⟩) 1 1) 1 (bvs [0]) rfl ?_ A2 8 c2 (putB x 8) rfl ?_ ?_ ?_ ?_); (exact L2.out); (exact B2); (omega); (exact z2); intro v3 w3 hown3 hgrow3 hwhere3; have Q3 := Lib.hid (rows_grown5 hgrow3 z2 (by simp [Value.ownBlock]; omega) Q2.out); have T3 := T2.grown hgrow3 T2.size (fun k hk => Nat.le_of_succ_le (own_block_ge L2.out k hk)); have z3 : w.heap.size < w3.heap.size := Nat.lt_of_lt_of_le z2 hgrow3.size)
      | ((refine step_bys _ rfl (.tmp 11) (.tmp 14) rfl (w.heap.size + 1) (.slice (some ⟨w2.heap.size, 0, none⟩) 1 1) 1 (bvs [0]) rfl ?_ A2 8 c2 (putB x 8) rfl ?_ ?_ ?_ ?_); (exact L2.out); (exact B2.alloc _); (omega); (simp; omega); intro v3 w3 hown3 hgrow3 hwhere3; have Q3 := Lib.hid (rows_grown5 hgrow3 (by simp; omega) (by simp [Value.ownBlock]; omega) QY.out); have T3 := (T2.alloc T2.size _).grown hgrow3 (by simp; omega) (fun k hk => Nat.le_of_succ_le (own_block_ge L2.out k hk)); have z3 : w.heap.size < w3.heap.size := Nat.lt_of_lt_of_le z2 (Nat.le_trans (by simp) hgrow3.size)))
  all_goals
    obtain ⟨A3, c3, rfl⟩ := own_shape hown3
    rw [← bvs_append] at hown3
    have O3 := Lib.hid hown3
    clear hown3
    obtain ⟨q0, q1, q2, q3, q4⟩ := Q3.out
    go_wp2_with ((with_reducible refine app_bys _ rfl (.tmp 42) (.tmp 44) rfl (w.heap.size + 1) _ 9 (bvs ([0] ++ putB x 8)) rfl ?_ A n c d rfl ?_ ?_ ?_ ?_); (exact O3.out); (exact HC.out _ T3); (omega); (exact z3); intro v4 w4 hown4 hgrow4 hwhere4)
    obtain ⟨A4, c4, rfl⟩ := own_shape hown4
    have T4 := T3.grown hgrow4 T3.size (fun k hk => Nat.le_of_succ_le (own_block_ge O3.out k hk))
    rw [← bvs_append, ← HE.out] at hown4
    have HO := Lib.hid (Bys.of_own hown4)
    clear hown4
    go_wp2
    go_ret2
    exact ⟨_, _, _, rfl, HO.out, T4⟩
set_option maxHeartbeats 8000000 in
theorem rtkput_1 (x y z : Nat) (A : Option Addr) (n c : Nat) (d : List UInt8) (w : World) (hx : x < 18446744073709551616) (hy : y < 18446744073709551616) (hz : z < 18446744073709551616) (hB : Bys w A n c d) (h : tkRight 1 y z n = true) :
    Calls Tryd.prog 7 #[.agg #[.int .i64 1, .int .u64 (x : Int), .int .u64 (y : Int), .int .u64 (z : Int), .slice A n c]] w (GivesI w 0 (tkBytes 1 x y z d)) := by
  have hn := tkRight_len h
  have HR := Lib.hid (fun W => rtkright_any 1 x y z A n c W)
  rw [h] at HR
  have HE : Hid (tkBytes 1 x y z d = [1] ++ putB x 8 ++ putB y 8 ++ putB z 8 ++ d) := by show _ = _; unfold tkBytes; simp
  have HP := Lib.hid (fun W => rtput_eight x W hx)
  have HPC := Lib.hid (fun W => rtput_eight y W hy)
  have HPR := Lib.hid (fun W => rtput_eight z W hz)
  have HC := Lib.hid (fun W (k : Below w.heap.size w W) => hB.below k)
  clear h hB hx hy hz
  generalize tkBytes 1 x y z d = E at *
  go_enter Tryd.func7, Tryd.ntmps7
  go_wp2_with (fail)
  refine (HR.out _).mono ?_
  rintro e w1 ⟨rfl, T1⟩
  have Q1 := Lib.hid (row5 (one_row T1)).1
  have z1 : w.heap.size < w1.heap.size := lt_row (one_row T1)
  have T1 := nxt ((Below.refl _ w).alloc (Nat.le_refl _) _) T1
  have LX := Lib.hid (own_lit_at w1 1 1 rfl (w.heap.size + 1) z1)
  have QX : Hid ((w1.alloc (.cells #[.int .u8 1] 5)).cell? ⟨w.heap.size, 0, none⟩ = some (.int .i64 1) ∧ (w1.alloc (.cells #[.int .u8 1] 5)).cell? ⟨w.heap.size, 1, none⟩ = some (.int .u64 (x : Int)) ∧ (w1.alloc (.cells #[.int .u8 1] 5)).cell? ⟨w.heap.size, 2, none⟩ = some (.int .u64 (y : Int)) ∧ (w1.alloc (.cells #[.int .u8 1] 5)).cell? ⟨w.heap.size, 3, none⟩ = some (.int .u64 (z : Int)) ∧ (w1.alloc (.cells #[.int .u8 1] 5)).cell? ⟨w.heap.size, 4, none⟩ = some (Value.slice A n c)) := rows_below5 ((Below.refl w1.heap.size w1).alloc (Nat.le_refl _) _) z1 Q1.out
  go_wp2_with (fail)
  go_region_held3 (fun w' => w'.cell? ⟨w.heap.size, 0, none⟩ = some (.int .i64 1) ∧ w'.cell? ⟨w.heap.size, 1, none⟩ = some (.int .u64 (x : Int)) ∧ w'.cell? ⟨w.heap.size, 2, none⟩ = some (.int .u64 (y : Int)) ∧ w'.cell? ⟨w.heap.size, 3, none⟩ = some (.int .u64 (z : Int)) ∧ w'.cell? ⟨w.heap.size, 4, none⟩ = some (Value.slice A n c)) (first | exact Q1.out | exact QX.out | exact Q2.out | exact QY.out | exact Q3.out)
    (first
      | (go_at_call 19; (with_reducible refine (HP.out _).mono ?_); rintro e w2 ⟨A2, c2, rfl, B2, T2⟩; have T2 := undrew T2; have L2 : Hid (w2.ownsRow (w.heap.size + 1) 5 1 (.slice (some ⟨w1.heap.size, 0, none⟩) 1 1) 1 (bvs [1])) := own_below LX.out T2; have Q2 := Lib.hid (rows_below5 T2 (by simp; omega) QX.out); have z2 : w.heap.size < w2.heap.size := Nat.lt_of_lt_of_le z1 (by have := T2.size; simp at this; omega); have T2 := nxt (T1.alloc T1.size _) T2)
      | (go_at_call 19; (with_reducible refine (HP.out _).mono ?_); rintro e w2 ⟨A2, c2, rfl, B2, T2⟩; have T2 := undrew T2; have Q2 := Lib.hid (rows_below5 T2 z1 Q1.out); have QY : Hid ((w2.alloc (.cells #[.int .u8 1] 5)).cell? ⟨w.heap.size, 0, none⟩ = some (.int .i64 1) ∧ (w2.alloc (.cells #[.int .u8 1] 5)).cell? ⟨w.heap.size, 1, none⟩ = some (.int .u64 (x : Int)) ∧ (w2.alloc (.cells #[.int .u8 1] 5)).cell? ⟨w.heap.size, 2, none⟩ = some (.int .u64 (y : Int)) ∧ (w2.alloc (.cells #[.int .u8 1] 5)).cell? ⟨w.heap.size, 3, none⟩ = some (.int .u64 (z : Int)) ∧ (w2.alloc (.cells #[.int .u8 1] 5)).cell? ⟨w.heap.size, 4, none⟩ = some (Value.slice A n c)) := rows_below5 ((Below.refl w2.heap.size w2).alloc (Nat.le_refl _) _) (Nat.lt_of_lt_of_le z1 T2.size) Q2.out; have z2 := Nat.lt_of_lt_of_le z1 T2.size; have T2 := nxt T1 T2; have L2 := Lib.hid (own_lit_at w2 1 1 rfl (w.heap.size + 1) z2))
      | ((refine step_bys _ rfl (.tmp 11) (.tmp 14) rfl (w.heap.size + 1) (.slice (some ⟨w1.heap.size, 0, none⟩) 1 1) 1 (bvs [1]) rfl ?_ A2 8 c2 (putB x 8) rfl ?_ ?_ ?_ ?_); (exact L2.out); (exact B2); (omega); (exact z2); intro v3 w3 hown3 hgrow3 hwhere3; have Q3 := Lib.hid (rows_grown5 hgrow3 z2 (by simp [Value.ownBlock]; omega) Q2.out); have T3 := T2.grown hgrow3 T2.size (fun k hk => Nat.le_of_succ_le (own_block_ge L2.out k hk)); have z3 : w.heap.size < w3.heap.size := Nat.lt_of_lt_of_le z2 hgrow3.size)
      | ((refine step_bys _ rfl (.tmp 11) (.tmp 14) rfl (w.heap.size + 1) (.slice (some ⟨w2.heap.size, 0, none⟩) 1 1) 1 (bvs [1]) rfl ?_ A2 8 c2 (putB x 8) rfl ?_ ?_ ?_ ?_); (exact L2.out); (exact B2.alloc _); (omega); (simp; omega); intro v3 w3 hown3 hgrow3 hwhere3; have Q3 := Lib.hid (rows_grown5 hgrow3 (by simp; omega) (by simp [Value.ownBlock]; omega) QY.out); have T3 := (T2.alloc T2.size _).grown hgrow3 (by simp; omega) (fun k hk => Nat.le_of_succ_le (own_block_ge L2.out k hk)); have z3 : w.heap.size < w3.heap.size := Nat.lt_of_lt_of_le z2 (Nat.le_trans (by simp) hgrow3.size)))
  all_goals
    obtain ⟨A3, c3, rfl⟩ := own_shape hown3
    rw [← bvs_append] at hown3
    have O3 := Lib.hid hown3
    clear hown3
    obtain ⟨q0, q1, q2, q3, q4⟩ := Q3.out
    go_wp2_with (fail)
    refine (HPC.out _).mono ?_
    rintro e w4 ⟨A4, c4, rfl, B4, T4⟩
    have O4 := Lib.hid (own_below O3.out T4)
    have Q4 := Lib.hid (rows_below5 T4 z3 Q3.out)
    have z4 := Nat.lt_of_lt_of_le z3 T4.size
    have T4 := nxt T3 T4
    clear q0 q1 q2 q3 q4
    go_wp2_with ((with_reducible refine app_bys _ rfl (.tmp 24) (.tmp 27) rfl (w.heap.size + 1) _ 9 (bvs ([1] ++ putB x 8)) rfl ?_ A4 8 c4 (putB y 8) rfl ?_ ?_ ?_ ?_); (exact O4.out); (exact B4); (omega); (exact z4); intro v5 w5 hown5 hgrow5 hwhere5; obtain ⟨A5, c5, rfl⟩ := own_shape hown5; rw [← bvs_append] at hown5; have O5 := Lib.hid hown5; have Q5 := Lib.hid (rows_grown5 hgrow5 z4 (fun e => absurd (own_block_ge O4.out _ e.symm) (by omega)) Q4.out); have T5 := T4.grown hgrow5 T4.size (fun k hk => Nat.le_of_succ_le (own_block_ge O4.out k hk)); have z5 : w.heap.size < w5.heap.size := Nat.lt_of_lt_of_le z4 hgrow5.size; obtain ⟨q0, q1, q2, q3, q4⟩ := Q5.out; clear hown5 hgrow5 hwhere5)
    go_wp2_with (fail)
    refine (HPR.out _).mono ?_
    rintro e w6 ⟨A6, c6, rfl, B6, T6⟩
    have O6 := Lib.hid (own_below O5.out T6)
    have Q6 := Lib.hid (rows_below5 T6 z5 Q5.out)
    have z6 := Nat.lt_of_lt_of_le z5 T6.size
    have T6 := nxt T5 T6
    clear q0 q1 q2 q3 q4
    go_wp2_with (first | ((with_reducible refine app_bys _ rfl (.tmp 37) (.tmp 40) rfl (w.heap.size + 1) _ 17 (bvs ([1] ++ putB x 8 ++ putB y 8)) rfl ?_ A6 8 c6 (putB z 8) rfl ?_ ?_ ?_ ?_); (exact O6.out); (exact B6); (omega); (exact z6); intro v7 w7 hown7 hgrow7 hwhere7; obtain ⟨A7, c7, rfl⟩ := own_shape hown7; rw [← bvs_append] at hown7; have O7 := Lib.hid hown7; have Q7 := Lib.hid (rows_grown5 hgrow7 z6 (fun e => absurd (own_block_ge O6.out _ e.symm) (by omega)) Q6.out); have T7 := T6.grown hgrow7 T6.size (fun k hk => Nat.le_of_succ_le (own_block_ge O6.out k hk)); have z7 : w.heap.size < w7.heap.size := Nat.lt_of_lt_of_le z6 hgrow7.size; obtain ⟨q0, q1, q2, q3, q4⟩ := Q7.out; clear hown7 hgrow7 hwhere7) | ((with_reducible refine app_bys _ rfl (.tmp 42) (.tmp 44) rfl (w.heap.size + 1) _ 25 (bvs ([1] ++ putB x 8 ++ putB y 8 ++ putB z 8)) rfl ?_ A n c d rfl ?_ ?_ ?_ ?_); (exact O7.out); (exact HC.out _ T7); (omega); (exact z7); intro v8 w8 hown8 hgrow8 hwhere8))
    obtain ⟨A8, c8, rfl⟩ := own_shape hown8
    have T8 := T7.grown hgrow8 T7.size (fun k hk => Nat.le_of_succ_le (own_block_ge O7.out k hk))
    rw [← bvs_append, ← HE.out] at hown8
    have HO := Lib.hid (Bys.of_own hown8)
    clear hown8
    go_wp2
    go_ret2
    exact ⟨_, _, _, rfl, HO.out, T8⟩
set_option maxHeartbeats 8000000 in
theorem rtkput_2 (x y z : Nat) (A : Option Addr) (n c : Nat) (d : List UInt8) (w : World) (hx : x < 18446744073709551616) (hy : y < 18446744073709551616) (hz : z < 18446744073709551616) (hB : Bys w A n c d) (h : tkRight 2 y z n = true) :
    Calls Tryd.prog 7 #[.agg #[.int .i64 2, .int .u64 (x : Int), .int .u64 (y : Int), .int .u64 (z : Int), .slice A n c]] w (GivesI w 0 (tkBytes 2 x y z d)) := by
  have hn := tkRight_len h
  have HR := Lib.hid (fun W => rtkright_any 2 x y z A n c W)
  rw [h] at HR
  have HE : Hid (tkBytes 2 x y z d = [2] ++ putB x 8 ++ putB y 8 ++ d) := by show _ = _; unfold tkBytes; simp
  have HP := Lib.hid (fun W => rtput_eight x W hx)
  have HPC := Lib.hid (fun W => rtput_eight y W hy)
  have HPR := Lib.hid (fun W => rtput_eight z W hz)
  have HC := Lib.hid (fun W (k : Below w.heap.size w W) => hB.below k)
  clear h hB hx hy hz
  generalize tkBytes 2 x y z d = E at *
  go_enter Tryd.func7, Tryd.ntmps7
  go_wp2_with (fail)
  refine (HR.out _).mono ?_
  rintro e w1 ⟨rfl, T1⟩
  have Q1 := Lib.hid (row5 (one_row T1)).1
  have z1 : w.heap.size < w1.heap.size := lt_row (one_row T1)
  have T1 := nxt ((Below.refl _ w).alloc (Nat.le_refl _) _) T1
  have LX := Lib.hid (own_lit_at w1 2 2 rfl (w.heap.size + 1) z1)
  have QX : Hid ((w1.alloc (.cells #[.int .u8 2] 5)).cell? ⟨w.heap.size, 0, none⟩ = some (.int .i64 2) ∧ (w1.alloc (.cells #[.int .u8 2] 5)).cell? ⟨w.heap.size, 1, none⟩ = some (.int .u64 (x : Int)) ∧ (w1.alloc (.cells #[.int .u8 2] 5)).cell? ⟨w.heap.size, 2, none⟩ = some (.int .u64 (y : Int)) ∧ (w1.alloc (.cells #[.int .u8 2] 5)).cell? ⟨w.heap.size, 3, none⟩ = some (.int .u64 (z : Int)) ∧ (w1.alloc (.cells #[.int .u8 2] 5)).cell? ⟨w.heap.size, 4, none⟩ = some (Value.slice A n c)) := rows_below5 ((Below.refl w1.heap.size w1).alloc (Nat.le_refl _) _) z1 Q1.out
  go_wp2_with (fail)
  go_region_held3 (fun w' => w'.cell? ⟨w.heap.size, 0, none⟩ = some (.int .i64 2) ∧ w'.cell? ⟨w.heap.size, 1, none⟩ = some (.int .u64 (x : Int)) ∧ w'.cell? ⟨w.heap.size, 2, none⟩ = some (.int .u64 (y : Int)) ∧ w'.cell? ⟨w.heap.size, 3, none⟩ = some (.int .u64 (z : Int)) ∧ w'.cell? ⟨w.heap.size, 4, none⟩ = some (Value.slice A n c)) (first | exact Q1.out | exact QX.out | exact Q2.out | exact QY.out | exact Q3.out)
    (first
      | (go_at_call 19; (with_reducible refine (HP.out _).mono ?_); rintro e w2 ⟨A2, c2, rfl, B2, T2⟩; have T2 := undrew T2; have L2 : Hid (w2.ownsRow (w.heap.size + 1) 5 1 (.slice (some ⟨w1.heap.size, 0, none⟩) 1 1) 1 (bvs [2])) := own_below LX.out T2; have Q2 := Lib.hid (rows_below5 T2 (by simp; omega) QX.out); have z2 : w.heap.size < w2.heap.size := Nat.lt_of_lt_of_le z1 (by have := T2.size; simp at this; omega); have T2 := nxt (T1.alloc T1.size _) T2)
      | (go_at_call 19; (with_reducible refine (HP.out _).mono ?_); rintro e w2 ⟨A2, c2, rfl, B2, T2⟩; have T2 := undrew T2; have Q2 := Lib.hid (rows_below5 T2 z1 Q1.out); have QY : Hid ((w2.alloc (.cells #[.int .u8 2] 5)).cell? ⟨w.heap.size, 0, none⟩ = some (.int .i64 2) ∧ (w2.alloc (.cells #[.int .u8 2] 5)).cell? ⟨w.heap.size, 1, none⟩ = some (.int .u64 (x : Int)) ∧ (w2.alloc (.cells #[.int .u8 2] 5)).cell? ⟨w.heap.size, 2, none⟩ = some (.int .u64 (y : Int)) ∧ (w2.alloc (.cells #[.int .u8 2] 5)).cell? ⟨w.heap.size, 3, none⟩ = some (.int .u64 (z : Int)) ∧ (w2.alloc (.cells #[.int .u8 2] 5)).cell? ⟨w.heap.size, 4, none⟩ = some (Value.slice A n c)) := rows_below5 ((Below.refl w2.heap.size w2).alloc (Nat.le_refl _) _) (Nat.lt_of_lt_of_le z1 T2.size) Q2.out; have z2 := Nat.lt_of_lt_of_le z1 T2.size; have T2 := nxt T1 T2; have L2 := Lib.hid (own_lit_at w2 2 2 rfl (w.heap.size + 1) z2))
      | ((refine step_bys _ rfl (.tmp 11) (.tmp 14) rfl (w.heap.size + 1) (.slice (some ⟨w1.heap.size, 0, none⟩) 1 1) 1 (bvs [2]) rfl ?_ A2 8 c2 (putB x 8) rfl ?_ ?_ ?_ ?_); (exact L2.out); (exact B2); (omega); (exact z2); intro v3 w3 hown3 hgrow3 hwhere3; have Q3 := Lib.hid (rows_grown5 hgrow3 z2 (by simp [Value.ownBlock]; omega) Q2.out); have T3 := T2.grown hgrow3 T2.size (fun k hk => Nat.le_of_succ_le (own_block_ge L2.out k hk)); have z3 : w.heap.size < w3.heap.size := Nat.lt_of_lt_of_le z2 hgrow3.size)
      | ((refine step_bys _ rfl (.tmp 11) (.tmp 14) rfl (w.heap.size + 1) (.slice (some ⟨w2.heap.size, 0, none⟩) 1 1) 1 (bvs [2]) rfl ?_ A2 8 c2 (putB x 8) rfl ?_ ?_ ?_ ?_); (exact L2.out); (exact B2.alloc _); (omega); (simp; omega); intro v3 w3 hown3 hgrow3 hwhere3; have Q3 := Lib.hid (rows_grown5 hgrow3 (by simp; omega) (by simp [Value.ownBlock]; omega) QY.out); have T3 := (T2.alloc T2.size _).grown hgrow3 (by simp; omega) (fun k hk => Nat.le_of_succ_le (own_block_ge L2.out k hk)); have z3 : w.heap.size < w3.heap.size := Nat.lt_of_lt_of_le z2 (Nat.le_trans (by simp) hgrow3.size)))
  all_goals
    obtain ⟨A3, c3, rfl⟩ := own_shape hown3
    rw [← bvs_append] at hown3
    have O3 := Lib.hid hown3
    clear hown3
    obtain ⟨q0, q1, q2, q3, q4⟩ := Q3.out
    go_wp2_with (fail)
    refine (HPC.out _).mono ?_
    rintro e w4 ⟨A4, c4, rfl, B4, T4⟩
    have O4 := Lib.hid (own_below O3.out T4)
    have Q4 := Lib.hid (rows_below5 T4 z3 Q3.out)
    have z4 := Nat.lt_of_lt_of_le z3 T4.size
    have T4 := nxt T3 T4
    clear q0 q1 q2 q3 q4
    go_wp2_with (first | ((with_reducible refine app_bys _ rfl (.tmp 24) (.tmp 27) rfl (w.heap.size + 1) _ 9 (bvs ([2] ++ putB x 8)) rfl ?_ A4 8 c4 (putB y 8) rfl ?_ ?_ ?_ ?_); (exact O4.out); (exact B4); (omega); (exact z4); intro v5 w5 hown5 hgrow5 hwhere5; obtain ⟨A5, c5, rfl⟩ := own_shape hown5; rw [← bvs_append] at hown5; have O5 := Lib.hid hown5; have Q5 := Lib.hid (rows_grown5 hgrow5 z4 (fun e => absurd (own_block_ge O4.out _ e.symm) (by omega)) Q4.out); have T5 := T4.grown hgrow5 T4.size (fun k hk => Nat.le_of_succ_le (own_block_ge O4.out k hk)); have z5 : w.heap.size < w5.heap.size := Nat.lt_of_lt_of_le z4 hgrow5.size; obtain ⟨q0, q1, q2, q3, q4⟩ := Q5.out; clear hown5 hgrow5 hwhere5) | ((with_reducible refine app_bys _ rfl (.tmp 42) (.tmp 44) rfl (w.heap.size + 1) _ 17 (bvs ([2] ++ putB x 8 ++ putB y 8)) rfl ?_ A n c d rfl ?_ ?_ ?_ ?_); (exact O5.out); (exact HC.out _ T5); (omega); (exact z5); intro v6 w6 hown6 hgrow6 hwhere6))
    obtain ⟨A6, c6, rfl⟩ := own_shape hown6
    have T6 := T5.grown hgrow6 T5.size (fun k hk => Nat.le_of_succ_le (own_block_ge O5.out k hk))
    rw [← bvs_append, ← HE.out] at hown6
    have HO := Lib.hid (Bys.of_own hown6)
    clear hown6
    go_wp2
    go_ret2
    exact ⟨_, _, _, rfl, HO.out, T6⟩
set_option maxHeartbeats 8000000 in
theorem rtkput_3 (x y z : Nat) (A : Option Addr) (n c : Nat) (d : List UInt8) (w : World) (hx : x < 18446744073709551616) (hy : y < 18446744073709551616) (hz : z < 18446744073709551616) (hB : Bys w A n c d) (h : tkRight 3 y z n = true) :
    Calls Tryd.prog 7 #[.agg #[.int .i64 3, .int .u64 (x : Int), .int .u64 (y : Int), .int .u64 (z : Int), .slice A n c]] w (GivesI w 0 (tkBytes 3 x y z d)) := by
  have hn := tkRight_len h
  have HR := Lib.hid (fun W => rtkright_any 3 x y z A n c W)
  rw [h] at HR
  have HE : Hid (tkBytes 3 x y z d = [3] ++ putB x 8 ++ putB z 8 ++ d) := by show _ = _; unfold tkBytes; simp
  have HP := Lib.hid (fun W => rtput_eight x W hx)
  have HPC := Lib.hid (fun W => rtput_eight y W hy)
  have HPR := Lib.hid (fun W => rtput_eight z W hz)
  have HC := Lib.hid (fun W (k : Below w.heap.size w W) => hB.below k)
  clear h hB hx hy hz
  generalize tkBytes 3 x y z d = E at *
  go_enter Tryd.func7, Tryd.ntmps7
  go_wp2_with (fail)
  refine (HR.out _).mono ?_
  rintro e w1 ⟨rfl, T1⟩
  have Q1 := Lib.hid (row5 (one_row T1)).1
  have z1 : w.heap.size < w1.heap.size := lt_row (one_row T1)
  have T1 := nxt ((Below.refl _ w).alloc (Nat.le_refl _) _) T1
  have LX := Lib.hid (own_lit_at w1 3 3 rfl (w.heap.size + 1) z1)
  have QX : Hid ((w1.alloc (.cells #[.int .u8 3] 5)).cell? ⟨w.heap.size, 0, none⟩ = some (.int .i64 3) ∧ (w1.alloc (.cells #[.int .u8 3] 5)).cell? ⟨w.heap.size, 1, none⟩ = some (.int .u64 (x : Int)) ∧ (w1.alloc (.cells #[.int .u8 3] 5)).cell? ⟨w.heap.size, 2, none⟩ = some (.int .u64 (y : Int)) ∧ (w1.alloc (.cells #[.int .u8 3] 5)).cell? ⟨w.heap.size, 3, none⟩ = some (.int .u64 (z : Int)) ∧ (w1.alloc (.cells #[.int .u8 3] 5)).cell? ⟨w.heap.size, 4, none⟩ = some (Value.slice A n c)) := rows_below5 ((Below.refl w1.heap.size w1).alloc (Nat.le_refl _) _) z1 Q1.out
  go_wp2_with (fail)
  go_region_held3 (fun w' => w'.cell? ⟨w.heap.size, 0, none⟩ = some (.int .i64 3) ∧ w'.cell? ⟨w.heap.size, 1, none⟩ = some (.int .u64 (x : Int)) ∧ w'.cell? ⟨w.heap.size, 2, none⟩ = some (.int .u64 (y : Int)) ∧ w'.cell? ⟨w.heap.size, 3, none⟩ = some (.int .u64 (z : Int)) ∧ w'.cell? ⟨w.heap.size, 4, none⟩ = some (Value.slice A n c)) (first | exact Q1.out | exact QX.out | exact Q2.out | exact QY.out | exact Q3.out)
    (first
      | (go_at_call 19; (with_reducible refine (HP.out _).mono ?_); rintro e w2 ⟨A2, c2, rfl, B2, T2⟩; have T2 := undrew T2; have L2 : Hid (w2.ownsRow (w.heap.size + 1) 5 1 (.slice (some ⟨w1.heap.size, 0, none⟩) 1 1) 1 (bvs [3])) := own_below LX.out T2; have Q2 := Lib.hid (rows_below5 T2 (by simp; omega) QX.out); have z2 : w.heap.size < w2.heap.size := Nat.lt_of_lt_of_le z1 (by have := T2.size; simp at this; omega); have T2 := nxt (T1.alloc T1.size _) T2)
      | (go_at_call 19; (with_reducible refine (HP.out _).mono ?_); rintro e w2 ⟨A2, c2, rfl, B2, T2⟩; have T2 := undrew T2; have Q2 := Lib.hid (rows_below5 T2 z1 Q1.out); have QY : Hid ((w2.alloc (.cells #[.int .u8 3] 5)).cell? ⟨w.heap.size, 0, none⟩ = some (.int .i64 3) ∧ (w2.alloc (.cells #[.int .u8 3] 5)).cell? ⟨w.heap.size, 1, none⟩ = some (.int .u64 (x : Int)) ∧ (w2.alloc (.cells #[.int .u8 3] 5)).cell? ⟨w.heap.size, 2, none⟩ = some (.int .u64 (y : Int)) ∧ (w2.alloc (.cells #[.int .u8 3] 5)).cell? ⟨w.heap.size, 3, none⟩ = some (.int .u64 (z : Int)) ∧ (w2.alloc (.cells #[.int .u8 3] 5)).cell? ⟨w.heap.size, 4, none⟩ = some (Value.slice A n c)) := rows_below5 ((Below.refl w2.heap.size w2).alloc (Nat.le_refl _) _) (Nat.lt_of_lt_of_le z1 T2.size) Q2.out; have z2 := Nat.lt_of_lt_of_le z1 T2.size; have T2 := nxt T1 T2; have L2 := Lib.hid (own_lit_at w2 3 3 rfl (w.heap.size + 1) z2))
      | ((refine step_bys _ rfl (.tmp 11) (.tmp 14) rfl (w.heap.size + 1) (.slice (some ⟨w1.heap.size, 0, none⟩) 1 1) 1 (bvs [3]) rfl ?_ A2 8 c2 (putB x 8) rfl ?_ ?_ ?_ ?_); (exact L2.out); (exact B2); (omega); (exact z2); intro v3 w3 hown3 hgrow3 hwhere3; have Q3 := Lib.hid (rows_grown5 hgrow3 z2 (by simp [Value.ownBlock]; omega) Q2.out); have T3 := T2.grown hgrow3 T2.size (fun k hk => Nat.le_of_succ_le (own_block_ge L2.out k hk)); have z3 : w.heap.size < w3.heap.size := Nat.lt_of_lt_of_le z2 hgrow3.size)
      | ((refine step_bys _ rfl (.tmp 11) (.tmp 14) rfl (w.heap.size + 1) (.slice (some ⟨w2.heap.size, 0, none⟩) 1 1) 1 (bvs [3]) rfl ?_ A2 8 c2 (putB x 8) rfl ?_ ?_ ?_ ?_); (exact L2.out); (exact B2.alloc _); (omega); (simp; omega); intro v3 w3 hown3 hgrow3 hwhere3; have Q3 := Lib.hid (rows_grown5 hgrow3 (by simp; omega) (by simp [Value.ownBlock]; omega) QY.out); have T3 := (T2.alloc T2.size _).grown hgrow3 (by simp; omega) (fun k hk => Nat.le_of_succ_le (own_block_ge L2.out k hk)); have z3 : w.heap.size < w3.heap.size := Nat.lt_of_lt_of_le z2 (Nat.le_trans (by simp) hgrow3.size)))
  all_goals
    obtain ⟨A3, c3, rfl⟩ := own_shape hown3
    rw [← bvs_append] at hown3
    have O3 := Lib.hid hown3
    clear hown3
    obtain ⟨q0, q1, q2, q3, q4⟩ := Q3.out
    go_wp2_with (fail)
    refine (HPR.out _).mono ?_
    rintro e w4 ⟨A4, c4, rfl, B4, T4⟩
    have O4 := Lib.hid (own_below O3.out T4)
    have Q4 := Lib.hid (rows_below5 T4 z3 Q3.out)
    have z4 := Nat.lt_of_lt_of_le z3 T4.size
    have T4 := nxt T3 T4
    clear q0 q1 q2 q3 q4
    go_wp2_with (first | ((with_reducible refine app_bys _ rfl (.tmp 37) (.tmp 40) rfl (w.heap.size + 1) _ 9 (bvs ([3] ++ putB x 8)) rfl ?_ A4 8 c4 (putB z 8) rfl ?_ ?_ ?_ ?_); (exact O4.out); (exact B4); (omega); (exact z4); intro v5 w5 hown5 hgrow5 hwhere5; obtain ⟨A5, c5, rfl⟩ := own_shape hown5; rw [← bvs_append] at hown5; have O5 := Lib.hid hown5; have Q5 := Lib.hid (rows_grown5 hgrow5 z4 (fun e => absurd (own_block_ge O4.out _ e.symm) (by omega)) Q4.out); have T5 := T4.grown hgrow5 T4.size (fun k hk => Nat.le_of_succ_le (own_block_ge O4.out k hk)); have z5 : w.heap.size < w5.heap.size := Nat.lt_of_lt_of_le z4 hgrow5.size; obtain ⟨q0, q1, q2, q3, q4⟩ := Q5.out; clear hown5 hgrow5 hwhere5) | ((with_reducible refine app_bys _ rfl (.tmp 42) (.tmp 44) rfl (w.heap.size + 1) _ 17 (bvs ([3] ++ putB x 8 ++ putB z 8)) rfl ?_ A n c d rfl ?_ ?_ ?_ ?_); (exact O5.out); (exact HC.out _ T5); (omega); (exact z5); intro v6 w6 hown6 hgrow6 hwhere6))
    obtain ⟨A6, c6, rfl⟩ := own_shape hown6
    have T6 := T5.grown hgrow6 T5.size (fun k hk => Nat.le_of_succ_le (own_block_ge O5.out k hk))
    rw [← bvs_append, ← HE.out] at hown6
    have HO := Lib.hid (Bys.of_own hown6)
    clear hown6
    go_wp2
    go_ret2
    exact ⟨_, _, _, rfl, HO.out, T6⟩
theorem rtkput_any (k : Int) (x y z : Nat) (A : Option Addr) (n c : Nat) (d : List UInt8) (w : World) (hx : x < 18446744073709551616) (hy : y < 18446744073709551616) (hz : z < 18446744073709551616) (hB : Bys w A n c d) :
    Calls Tryd.prog 7 #[.agg #[.int .i64 k, .int .u64 (x : Int), .int .u64 (y : Int), .int .u64 (z : Int), .slice A n c]] w (GivesI w (tkErr k y z n) (tkPut k x y z d)) := by
  cases h : tkRight k y z n with
  | false => exact rtkput_no k x y z A n c d w hB h
  | true =>
    have hl := hB.len
    have hp : tkPut k x y z d = tkBytes k x y z d := by unfold tkPut; rw [hl, h]; rfl
    have he : tkErr k y z n = 0 := by unfold tkErr; rw [h]; rfl
    rw [hp, he]
    rcases tkRight_kind h with rfl | rfl | rfl | rfl
    · exact rtkput_0 x y z A n c d w hx hy hz hB h
    · exact rtkput_1 x y z A n c d w hx hy hz hB h
    · exact rtkput_2 x y z A n c d w hx hy hz hB h
    · exact rtkput_3 x y z A n c d w hx hy hz hB h
end Go.Proofs.YtabackggnkplhaaDoor
