/- What kedgeref14.Put answers. -/
import Derived.Test.YtodgnfjaidiibaaRsl1
import Derived.Test.YtodgnfjaidiibaaRput
import Derived.Deep.RegionHeld3
import Derived.Test.YtodgnfjaidiibaaRpr2
namespace Go.Proofs.Ytodgnfjaidiibaa
open Go.RowKit
set_option maxRecDepth 20000

theorem rput_k (x : Nat) (k : Nat) (w : World) (hx : x < 18446744073709551616) (h1 : 1 ≤ k) (h8 : k ≤ 8) : Calls Try.prog 20 #[.int .u64 (x : Int), .int .i64 (k : Int)] w (GivesK w k (putB x k)) := by
  refine (rput_any x (k : Int) w hx).mono fun e w' h => ?_
  have e1 : putOf x (k : Int) = putB x k := by unfold putOf; rw [if_neg (by omega)]; rfl
  rw [e1] at h
  have := h.givesK
  rwa [putB_length] at this
theorem rput_two (x : Nat) (w : World) (hx : x < 18446744073709551616) : Calls Try.prog 20 #[.int .u64 (x : Int), .int .i64 2] w (GivesK w 2 (putB x 2)) := rput_k x 2 w hx (by decide) (by decide)
theorem rput_eight (x : Nat) (w : World) (hx : x < 18446744073709551616) : Calls Try.prog 20 #[.int .u64 (x : Int), .int .i64 8] w (GivesK w 8 (putB x 8)) := rput_k x 8 w hx (by decide) (by decide)
set_option maxHeartbeats 4000000 in
theorem rslput_no (a : Bool) (s : Int) (u : Nat) (A : Option Addr) (n c : Nat) (d : List UInt8) (m : Int) (w : World) (hB : Bys w A n c d) (h : slErr a s u n m ≠ 0) :
    Calls Try.prog 7 #[.agg #[.bool a, .int .i64 s, .int .u64 (u : Int), .slice A n c], .int .i64 m] w (GivesI w (slErr a s u n m) (slPut a s u d m)) := by
  have hl := hB.len
  have hp : slPut a s u d m = [] := by unfold slPut; rw [hl, if_neg h]
  rw [hp]
  clear hp hB hl
  by_cases h1 : m < 1
  · have d1 : decide (m < 1) = true := by simp; omega
    rw [show slErr a s u n m = 1 by unfold slErr; rw [if_pos (.inl h1)]]
    clear h h1
    go_enter Try.func7, Try.ntmps7
    go_wp2
    go_ret2
    exact ⟨_, _, _, rfl, Bys.nil _, (Below.refl _ _).alloc (Nat.le_refl _) _⟩
  · have d1 : decide (m < 1) = false := by simp; omega
    by_cases h2 : 65536 < m
    · have d2 : decide (65536 < m) = true := by simp; omega
      rw [show slErr a s u n m = 1 by unfold slErr; rw [if_pos (.inr h2)]]
      clear h h1 h2
      go_enter Try.func7, Try.ntmps7
      go_wp2
      go_ret2
      exact ⟨_, _, _, rfl, Bys.nil _, (Below.refl _ _).alloc (Nat.le_refl _) _⟩
    · have d2 : decide (65536 < m) = false := by simp; omega
      have hr : slRight a s u n m = false := by
        cases hr : slRight a s u n m with
        | false => rfl
        | true => exact absurd (slErr_ok (by omega) hr) h
      rw [show slErr a s u n m = 130 by unfold slErr; rw [if_neg (by omega), hr]; rfl]
      have HR := Lib.hid (fun W => rslright_any a s u A n c m W)
      rw [hr] at HR
      clear h h1 h2 hr
      go_enter Try.func7, Try.ntmps7
      go_wp2_with (fail)
      refine (HR.out _).mono ?_
      rintro e w1 ⟨rfl, T1⟩
      have T1 := nxt ((Below.refl _ w).alloc (Nat.le_refl _) _) T1
      go_wp2
      go_ret2
      exact ⟨_, _, _, rfl, Bys.nil _, T1⟩
set_option maxHeartbeats 8000000 in
theorem rslput_data (s u : Nat) (A : Option Addr) (n c : Nat) (d : List UInt8) (m : Int) (w : World) (hB : Bys w A n c d) (h : slErr false (s : Int) u n m = 0) :
    Calls Try.prog 7 #[.agg #[.bool false, .int .i64 (s : Int), .int .u64 (u : Int), .slice A n c], .int .i64 m] w (GivesI w 0 (slBytes false (s : Int) u d)) := by
  obtain ⟨hm, hr⟩ := slErr_zero h
  have hs := slRight_seq hr
  have d1 : decide (m < 1) = false := by simp; omega
  have d2 : decide (65536 < m) = false := by simp; omega
  have hn : n ≤ 64 := by
    unfold slRight at hr
    rw [if_neg (by omega)] at hr
    simp at hr
    omega
  have HR := Lib.hid (fun W => rslright_any false (s : Int) u A n c m W)
  rw [hr] at HR
  have HE : Hid (slBytes false (s : Int) u d = [0] ++ putB s 2 ++ d) := by show _ = _; unfold slBytes; rw [if_neg (by decide), Int.toNat_natCast]; rfl
  have HP := Lib.hid (fun W (z : Int) (hz : z = (s : Int)) => hz ▸ rput_two s W (by omega))
  have HC := Lib.hid (fun W (k : Below w.heap.size w W) => hB.below k)
  have hw : IntKind.u64.wrap (s : Int) = (s : Int) := IntWalk.u64_in _ (by omega)
  clear h hr hB
  generalize slBytes false (s : Int) u d = E at *
  go_enter Try.func7, Try.ntmps7
  go_wp2_with (fail)
  refine (HR.out _).mono ?_
  rintro e w1 ⟨rfl, T1⟩
  have Q1 := Lib.hid (row4 (one_row T1)).1
  have z1 : w.heap.size < w1.heap.size := lt_row (one_row T1)
  have T1 := nxt ((Below.refl _ w).alloc (Nat.le_refl _) _) T1
  have LX := Lib.hid (own_lit_at w1 0 0 rfl (w.heap.size + 1) z1)
  have QX : Hid ((w1.alloc (.cells #[.int .u8 0] 5)).cell? ⟨w.heap.size, 0, none⟩ = some (.bool false) ∧ (w1.alloc (.cells #[.int .u8 0] 5)).cell? ⟨w.heap.size, 1, none⟩ = some (.int .i64 (s : Int)) ∧ (w1.alloc (.cells #[.int .u8 0] 5)).cell? ⟨w.heap.size, 2, none⟩ = some (.int .u64 (u : Int)) ∧ (w1.alloc (.cells #[.int .u8 0] 5)).cell? ⟨w.heap.size, 3, none⟩ = some (Value.slice A n c)) := rows_below4 ((Below.refl w1.heap.size w1).alloc (Nat.le_refl _) _) z1 Q1.out
  have q0 := Q1.out.1
  have q1 := Q1.out.2.1
  have q2 := Q1.out.2.2.1
  have q3 := Q1.out.2.2.2
  go_wp2_with (fail)
  clear q0 q1 q2 q3
  go_region_held3 (fun w' => w'.cell? ⟨w.heap.size, 0, none⟩ = some (.bool false) ∧ w'.cell? ⟨w.heap.size, 1, none⟩ = some (.int .i64 (s : Int)) ∧ w'.cell? ⟨w.heap.size, 2, none⟩ = some (.int .u64 (u : Int)) ∧ w'.cell? ⟨w.heap.size, 3, none⟩ = some (Value.slice A n c)) (first | exact Q1.out | exact QX.out | exact Q2.out | exact QY.out | exact Q3.out | exact Q4.out)
    (first
      | (go_at_call 20; (with_reducible refine (HP.out _ _ (by first | rfl | exact hw)).mono ?_); rintro e w2 ⟨A2, c2, rfl, B2, T2⟩; have T2 := undrew T2; have L2 : Hid (w2.ownsRow (w.heap.size + 1) 5 1 (.slice (some ⟨w1.heap.size, 0, none⟩) 1 1) 1 (bvs [0])) := own_below LX.out T2; have Q2 := Lib.hid (rows_below4 T2 (by simp; omega) QX.out); have z2 : w.heap.size < w2.heap.size := Nat.lt_of_lt_of_le z1 (by have := T2.size; simp at this; omega); have T2 := nxt (T1.alloc T1.size _) T2)
      | (go_at_call 20; (with_reducible refine (HP.out _ _ (by first | rfl | exact hw)).mono ?_); rintro e w2 ⟨A2, c2, rfl, B2, T2⟩; have T2 := undrew T2; have Q2 := Lib.hid (rows_below4 T2 z1 Q1.out); have QY : Hid ((w2.alloc (.cells #[.int .u8 0] 5)).cell? ⟨w.heap.size, 0, none⟩ = some (.bool false) ∧ (w2.alloc (.cells #[.int .u8 0] 5)).cell? ⟨w.heap.size, 1, none⟩ = some (.int .i64 (s : Int)) ∧ (w2.alloc (.cells #[.int .u8 0] 5)).cell? ⟨w.heap.size, 2, none⟩ = some (.int .u64 (u : Int)) ∧ (w2.alloc (.cells #[.int .u8 0] 5)).cell? ⟨w.heap.size, 3, none⟩ = some (Value.slice A n c)) := rows_below4 ((Below.refl w2.heap.size w2).alloc (Nat.le_refl _) _) (Nat.lt_of_lt_of_le z1 T2.size) Q2.out; have z2 := Nat.lt_of_lt_of_le z1 T2.size; have T2 := nxt T1 T2; have L2 := Lib.hid (own_lit_at w2 0 0 rfl (w.heap.size + 1) z2))
      | ((refine step_bys _ rfl (.tmp 28) (.tmp 32) rfl (w.heap.size + 1) (.slice (some ⟨w1.heap.size, 0, none⟩) 1 1) 1 (bvs [0]) rfl ?_ A2 2 c2 (putB s 2) rfl ?_ ?_ ?_ ?_); (exact L2.out); (exact B2); (omega); (exact z2); intro v3 w3 hown3 hgrow3 hwhere3; have Q3 := Lib.hid (rows_grown4 hgrow3 z2 (by simp [Value.ownBlock]; omega) Q2.out); have T3 := T2.grown hgrow3 T2.size (fun k hk => Nat.le_of_succ_le (own_block_ge L2.out k hk)); have z3 : w.heap.size < w3.heap.size := Nat.lt_of_lt_of_le z2 hgrow3.size)
      | ((refine step_bys _ rfl (.tmp 28) (.tmp 32) rfl (w.heap.size + 1) (.slice (some ⟨w2.heap.size, 0, none⟩) 1 1) 1 (bvs [0]) rfl ?_ A2 2 c2 (putB s 2) rfl ?_ ?_ ?_ ?_); (exact L2.out); (exact B2.alloc _); (omega); (simp; omega); intro v3 w3 hown3 hgrow3 hwhere3; have Q3 := Lib.hid (rows_grown4 hgrow3 (by simp; omega) (by simp [Value.ownBlock]; omega) QY.out); have T3 := (T2.alloc T2.size _).grown hgrow3 (by simp; omega) (fun k hk => Nat.le_of_succ_le (own_block_ge L2.out k hk)); have z3 : w.heap.size < w3.heap.size := Nat.lt_of_lt_of_le z2 (Nat.le_trans (by simp) hgrow3.size))
      | ((refine step_bys _ rfl (.tmp 33) (.tmp 35) rfl (w.heap.size + 1) v3 (1 + 2) (bvs [0] ++ bvs (putB s 2)) rfl ?_ A n c d rfl ?_ ?_ ?_ ?_); (exact hown3); (exact HC.out _ T3); (omega); (exact z3); intro v4 w4 hown4 hgrow4 hwhere4; have Q4 := Lib.hid (rows_grown4 hgrow4 z3 (fun e => absurd (own_block_ge hown3 _ e.symm) (by omega)) Q3.out); have T4 := T3.grown hgrow4 T3.size (fun k hk => Nat.le_of_succ_le (own_block_ge hown3 k hk))))
  all_goals
    obtain ⟨A4, c4, rfl⟩ := own_shape hown4
    rw [← bvs_append, ← bvs_append, ← HE.out] at hown4
    have HO := Lib.hid (Bys.of_own hown4)
    clear hown4 hown3
    go_wp2
    go_ret2
    exact ⟨_, _, _, rfl, HO.out, T4⟩
set_option maxHeartbeats 8000000 in
theorem rslput_ack (s u : Nat) (A : Option Addr) (n c : Nat) (d : List UInt8) (m : Int) (w : World) (hu : u < 18446744073709551616) (h : slErr true (s : Int) u n m = 0) :
    Calls Try.prog 7 #[.agg #[.bool true, .int .i64 (s : Int), .int .u64 (u : Int), .slice A n c], .int .i64 m] w (GivesI w 0 (slBytes true (s : Int) u d)) := by
  obtain ⟨hm, hr⟩ := slErr_zero h
  have hs := slRight_seq hr
  have d1 : decide (m < 1) = false := by simp; omega
  have d2 : decide (65536 < m) = false := by simp; omega
  have HR := Lib.hid (fun W => rslright_any true (s : Int) u A n c m W)
  rw [hr] at HR
  have HE : Hid (slBytes true (s : Int) u d = [1] ++ putB s 2 ++ putB u 8) := by show _ = _; unfold slBytes; rw [if_pos rfl, Int.toNat_natCast]; rfl
  have HP := Lib.hid (fun W (z : Int) (hz : z = (s : Int)) => hz ▸ rput_two s W (by omega))
  have HP8 := Lib.hid (fun W => rput_eight u W hu)
  have hw : IntKind.u64.wrap (s : Int) = (s : Int) := IntWalk.u64_in _ (by omega)
  clear h hr hu
  generalize slBytes true (s : Int) u d = E at *
  go_enter Try.func7, Try.ntmps7
  go_wp2_with (fail)
  refine (HR.out _).mono ?_
  rintro e w1 ⟨rfl, T1⟩
  have Q1 := Lib.hid (row4 (one_row T1)).1
  have z1 : w.heap.size < w1.heap.size := lt_row (one_row T1)
  have T1 := nxt ((Below.refl _ w).alloc (Nat.le_refl _) _) T1
  have LX := Lib.hid (own_lit_at w1 1 1 rfl (w.heap.size + 1) z1)
  have QX : Hid ((w1.alloc (.cells #[.int .u8 1] 5)).cell? ⟨w.heap.size, 0, none⟩ = some (.bool true) ∧ (w1.alloc (.cells #[.int .u8 1] 5)).cell? ⟨w.heap.size, 1, none⟩ = some (.int .i64 (s : Int)) ∧ (w1.alloc (.cells #[.int .u8 1] 5)).cell? ⟨w.heap.size, 2, none⟩ = some (.int .u64 (u : Int)) ∧ (w1.alloc (.cells #[.int .u8 1] 5)).cell? ⟨w.heap.size, 3, none⟩ = some (Value.slice A n c)) := rows_below4 ((Below.refl w1.heap.size w1).alloc (Nat.le_refl _) _) z1 Q1.out
  have q0 := Q1.out.1
  have q1 := Q1.out.2.1
  have q2 := Q1.out.2.2.1
  have q3 := Q1.out.2.2.2
  go_wp2_with (fail)
  clear q0 q1 q2 q3
  go_region_held3 (fun w' => w'.cell? ⟨w.heap.size, 0, none⟩ = some (.bool true) ∧ w'.cell? ⟨w.heap.size, 1, none⟩ = some (.int .i64 (s : Int)) ∧ w'.cell? ⟨w.heap.size, 2, none⟩ = some (.int .u64 (u : Int)) ∧ w'.cell? ⟨w.heap.size, 3, none⟩ = some (Value.slice A n c)) (first | exact Q1.out | exact QX.out | exact Q2.out | exact QY.out | exact Q3.out | exact Q4.out | exact Q5.out)
    (first
      | (go_at_call 20; (with_reducible refine (HP.out _ _ (by first | rfl | exact hw)).mono ?_); rintro e w2 ⟨A2, c2, rfl, B2, T2⟩; have T2 := undrew T2; have L2 : Hid (w2.ownsRow (w.heap.size + 1) 5 1 (.slice (some ⟨w1.heap.size, 0, none⟩) 1 1) 1 (bvs [1])) := own_below LX.out T2; have Q2 := Lib.hid (rows_below4 T2 (by simp; omega) QX.out); have z2 : w.heap.size < w2.heap.size := Nat.lt_of_lt_of_le z1 (by have := T2.size; simp at this; omega); have T2 := nxt (T1.alloc T1.size _) T2)
      | (go_at_call 20; (with_reducible refine (HP.out _ _ (by first | rfl | exact hw)).mono ?_); rintro e w2 ⟨A2, c2, rfl, B2, T2⟩; have T2 := undrew T2; have Q2 := Lib.hid (rows_below4 T2 z1 Q1.out); have QY : Hid ((w2.alloc (.cells #[.int .u8 1] 5)).cell? ⟨w.heap.size, 0, none⟩ = some (.bool true) ∧ (w2.alloc (.cells #[.int .u8 1] 5)).cell? ⟨w.heap.size, 1, none⟩ = some (.int .i64 (s : Int)) ∧ (w2.alloc (.cells #[.int .u8 1] 5)).cell? ⟨w.heap.size, 2, none⟩ = some (.int .u64 (u : Int)) ∧ (w2.alloc (.cells #[.int .u8 1] 5)).cell? ⟨w.heap.size, 3, none⟩ = some (Value.slice A n c)) := rows_below4 ((Below.refl w2.heap.size w2).alloc (Nat.le_refl _) _) (Nat.lt_of_lt_of_le z1 T2.size) Q2.out; have z2 := Nat.lt_of_lt_of_le z1 T2.size; have T2 := nxt T1 T2; have L2 := Lib.hid (own_lit_at w2 1 1 rfl (w.heap.size + 1) z2))
      | ((refine step_bys _ rfl (.tmp 18) (.tmp 22) rfl (w.heap.size + 1) (.slice (some ⟨w1.heap.size, 0, none⟩) 1 1) 1 (bvs [1]) rfl ?_ A2 2 c2 (putB s 2) rfl ?_ ?_ ?_ ?_); (exact L2.out); (exact B2); (omega); (exact z2); intro v3 w3 hown3 hgrow3 hwhere3; have Q3 := Lib.hid (rows_grown4 hgrow3 z2 (by simp [Value.ownBlock]; omega) Q2.out); have T3 := T2.grown hgrow3 T2.size (fun k hk => Nat.le_of_succ_le (own_block_ge L2.out k hk)); have z3 : w.heap.size < w3.heap.size := Nat.lt_of_lt_of_le z2 hgrow3.size)
      | ((refine step_bys _ rfl (.tmp 18) (.tmp 22) rfl (w.heap.size + 1) (.slice (some ⟨w2.heap.size, 0, none⟩) 1 1) 1 (bvs [1]) rfl ?_ A2 2 c2 (putB s 2) rfl ?_ ?_ ?_ ?_); (exact L2.out); (exact B2.alloc _); (omega); (simp; omega); intro v3 w3 hown3 hgrow3 hwhere3; have Q3 := Lib.hid (rows_grown4 hgrow3 (by simp; omega) (by simp [Value.ownBlock]; omega) QY.out); have T3 := (T2.alloc T2.size _).grown hgrow3 (by simp; omega) (fun k hk => Nat.le_of_succ_le (own_block_ge L2.out k hk)); have z3 : w.heap.size < w3.heap.size := Nat.lt_of_lt_of_le z2 (Nat.le_trans (by simp) hgrow3.size))
      | (go_at_call 20; (with_reducible refine (HP8.out _).mono ?_); rintro e w4 ⟨A4, c4, rfl, B4, T4⟩; have Q4 := Lib.hid (rows_below4 T4 z3 Q3.out); have z4 : w.heap.size < w4.heap.size := Nat.lt_of_lt_of_le z3 T4.size; have O4 := own_below hown3 T4; have T4 := nxt T3 T4)
      | ((refine step_bys _ rfl (.tmp 23) (.tmp 26) rfl (w.heap.size + 1) v3 (1 + 2) (bvs [1] ++ bvs (putB s 2)) rfl ?_ A4 8 c4 (putB u 8) rfl ?_ ?_ ?_ ?_); (exact O4); (exact B4); (omega); (exact z4); intro v5 w5 hown5 hgrow5 hwhere5; have Q5 := Lib.hid (rows_grown4 hgrow5 z4 (fun e => absurd (own_block_ge O4 _ e.symm) (by omega)) Q4.out); have T5 := T4.grown hgrow5 T4.size (fun k hk => Nat.le_of_succ_le (own_block_ge O4 k hk))))
  all_goals
    obtain ⟨A5, c5, rfl⟩ := own_shape hown5
    rw [← bvs_append, ← bvs_append, ← HE.out] at hown5
    have HO := Lib.hid (Bys.of_own hown5)
    clear hown5 hown3 O4
    go_wp2
    go_ret2
    exact ⟨_, _, _, rfl, HO.out, T5⟩
theorem rslput_any (a : Bool) (s : Int) (u : Nat) (A : Option Addr) (n c : Nat) (d : List UInt8) (m : Int) (w : World) (hu : u < 18446744073709551616) (hB : Bys w A n c d) :
    Calls Try.prog 7 #[.agg #[.bool a, .int .i64 s, .int .u64 (u : Int), .slice A n c], .int .i64 m] w (GivesI w (slErr a s u n m) (slPut a s u d m)) := by
  by_cases h : slErr a s u n m = 0
  · have hl := hB.len
    have hp : slPut a s u d m = slBytes a s u d := by unfold slPut; rw [hl, if_pos h]
    rw [hp, h]
    obtain ⟨_, hr⟩ := slErr_zero h
    obtain ⟨s, rfl⟩ := Int.eq_ofNat_of_zero_le (slRight_seq hr).1
    cases a
    · exact rslput_data s u A n c d m w hB h
    · exact rslput_ack s u A n c d m w hu h
  · exact rslput_no a s u A n c d m w hB h
end Go.Proofs.Ytodgnfjaidiibaa
