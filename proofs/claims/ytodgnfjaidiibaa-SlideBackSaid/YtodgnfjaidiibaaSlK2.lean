/- What slide.Put answers (landed code at 7086a58). -/
import Derived.Test.YtodgnfjaidiibaaSlK1
import Derived.Test.YtodgnfjaidiibaaJoin
import Derived.Test.YtodgnfjaidiibaaPut
import Derived.Deep.RegionHeld3
namespace Go.Proofs.Ytodgnfjaidiibaa
open Go.RowKit
set_option maxRecDepth 20000

theorem oput_k (x : Nat) (k : Nat) (w : World) (hx : x < 18446744073709551616) (h1 : 1 ≤ k) (h8 : k ≤ 8) : Calls Try.prog 17 #[.int .u64 (x : Int), .int .i64 (k : Int)] w (GivesK w k (putB x k)) := by
  refine (put_any x (k : Int) w hx).mono fun e w' h => ?_
  have e1 : putOf x (k : Int) = putB x k := by unfold putOf; rw [if_neg (by omega)]; rfl
  rw [e1] at h
  have := h.givesK
  rwa [putB_length] at this
set_option maxHeartbeats 4000000 in
theorem slput_no (a : Bool) (s : Int) (u : Nat) (A : Option Addr) (n c : Nat) (d : List UInt8) (m : Int) (w : World) (hB : Bys w A n c d) (h : slErr a s u n m ≠ 0) :
    Calls Try.prog 6 #[.agg #[.bool a, .int .i64 s, .int .u64 (u : Int), .slice A n c], .int .i64 m] w (GivesI w (slErr a s u n m) (slPut a s u d m)) := by
  have hl := hB.len
  have hp : slPut a s u d m = [] := by unfold slPut; rw [hl, if_neg h]
  rw [hp]
  clear hp hB hl
  have HM := Lib.hid (fun W => slmod_any m W)
  by_cases h1 : 1 ≤ m ∧ m ≤ 65536
  · have d1 : decide (1 ≤ m ∧ m ≤ 65536) = true := by simp; omega
    rw [d1] at HM
    have hr : slRight a s u n m = false := by
      cases hr : slRight a s u n m with
      | false => rfl
      | true => exact absurd (slErr_ok (by omega) hr) h
    rw [show slErr a s u n m = 130 by unfold slErr; rw [if_neg (by omega), hr]; rfl]
    have HR := Lib.hid (fun W => slright_any a s u A n c m W)
    rw [hr] at HR
    clear h h1 hr d1
    go_enter Try.func6, Try.ntmps6
    go_wp2_with (fail)
    refine (HM.out _).mono ?_
    rintro e w1 ⟨rfl, rfl⟩
    go_wp2_with (fail)
    refine (HR.out _).mono ?_
    rintro e w1 ⟨rfl, T1⟩
    have T1 := nxt ((Below.refl _ w).alloc (Nat.le_refl _) _) T1
    go_wp2
    go_ret2
    exact ⟨_, _, _, rfl, Bys.nil _, T1⟩
  · have d1 : decide (1 ≤ m ∧ m ≤ 65536) = false := by simp; omega
    rw [d1] at HM
    rw [show slErr a s u n m = 1 by unfold slErr; rw [if_pos (by omega)]]
    clear h h1 d1
    go_enter Try.func6, Try.ntmps6
    go_wp2_with (fail)
    refine (HM.out _).mono ?_
    rintro e w1 ⟨rfl, rfl⟩
    go_wp2
    go_ret2
    exact ⟨_, _, _, rfl, Bys.nil _, (Below.refl _ _).alloc (Nat.le_refl _) _⟩
set_option maxHeartbeats 8000000 in
theorem slput_ack (s u : Nat) (A : Option Addr) (n c : Nat) (d : List UInt8) (m : Int) (w : World) (hu : u < 18446744073709551616) (h : slErr true (s : Int) u n m = 0) :
    Calls Try.prog 6 #[.agg #[.bool true, .int .i64 (s : Int), .int .u64 (u : Int), .slice A n c], .int .i64 m] w (GivesI w 0 (slBytes true (s : Int) u d)) := by
  obtain ⟨hm, hr⟩ := slErr_zero h
  have hs := slRight_seq hr
  have HM := Lib.hid (fun W => slmod_any m W)
  rw [show decide (1 ≤ m ∧ m ≤ 65536) = true by simp; omega] at HM
  have HR := Lib.hid (fun W => slright_any true (s : Int) u A n c m W)
  rw [hr] at HR
  have HE : Hid ([putB 1 1, putB s 2, putB u 8].flatten = slBytes true (s : Int) u d) := by show _ = _; unfold slBytes; rw [if_pos rfl, Int.toNat_natCast]; simp [putB]
  have HP := Lib.hid (show ∀ W (z : Int), z = (s : Int) → Calls Try.prog 17 #[.int .u64 z, .int .i64 2] W (GivesK W 2 (putB s 2)) from fun W (z : Int) (hz : z = (s : Int)) => hz ▸ oput_k s 2 W (by omega) (by decide) (by decide))
  have HK := Lib.hid (show ∀ W, Calls Try.prog 17 #[.int .u64 1, .int .i64 1] W (GivesK W 1 (putB 1 1)) from fun W => oput_k 1 1 W (by decide) (by decide) (by decide))
  have HP8 := Lib.hid (show ∀ W, Calls Try.prog 17 #[.int .u64 (u : Int), .int .i64 8] W (GivesK W 8 (putB u 8)) from fun W => oput_k u 8 W hu (by decide) (by decide))
  have hw : IntKind.u64.wrap (s : Int) = (s : Int) := IntWalk.u64_in _ (by omega)
  clear h hr hu
  generalize slBytes true (s : Int) u d = E at *
  go_enter Try.func6, Try.ntmps6
  go_wp2_with (fail)
  refine (HM.out _).mono ?_
  rintro e w1 ⟨rfl, rfl⟩
  go_wp2_with (fail)
  refine (HR.out _).mono ?_
  rintro e w1 ⟨rfl, T1⟩
  have Q1 := Lib.hid (row4 (one_row T1)).1
  have z1 : w.heap.size < w1.heap.size := lt_row (one_row T1)
  have T1 := nxt ((Below.refl _ w).alloc (Nat.le_refl _) _) T1
  have q0 := Q1.out.1
  have q1 := Q1.out.2.1
  go_wp2_with (fail)
  refine (HP.out _ _ (by first | rfl | exact hw)).mono ?_
  rintro e w2 ⟨A2, c2, rfl, B2, T2⟩
  have Q2 := Lib.hid (rows_below4 T2 z1 Q1.out)
  have z2 := Nat.lt_of_lt_of_le z1 T2.size
  have T2 := nxt T1 T2
  have B2 := Lib.hid B2
  clear q0 q1
  have q0 := Q2.out.1
  go_wp2_with (fail)
  clear q0
  go_region_held3 (fun w' => (w'.cell? ⟨w.heap.size, 0, none⟩ = some (.bool true) ∧ w'.cell? ⟨w.heap.size, 1, none⟩ = some (.int .i64 (s : Int)) ∧ w'.cell? ⟨w.heap.size, 2, none⟩ = some (.int .u64 (u : Int)) ∧ w'.cell? ⟨w.heap.size, 3, none⟩ = some (Value.slice A n c))) (first | exact Q2.out | exact Q3.out | exact Q4.out | exact QA.out | exact Q5.out)
    (first
      | (go_at_call 17; (with_reducible refine (HK.out _).mono ?_); rintro e w3 ⟨A3, c3, rfl, B3, T3⟩; have T3 := undrew T3; have Q3 := Lib.hid (rows_below4 T3 z2 Q2.out); have z3 := Nat.lt_of_lt_of_le z2 T3.size; have B2 := Lib.hid (B2.out.below T3); have T3 := nxt T2 T3; have B3 := Lib.hid B3)
      | (go_at_call 17; (with_reducible refine (HP8.out _).mono ?_); rintro e w4 ⟨A4, c4, rfl, B4, T4⟩; have Q4 := Lib.hid (rows_below4 T4 z3 Q3.out); have z4 := Nat.lt_of_lt_of_le z3 T4.size; have B2 := Lib.hid (B2.out.below T4); have B3 := Lib.hid (B3.out.below T4); have T4 := nxt T3 T4; have J := Lib.hid (HE.out ▸ ojoin_own _ 3 3 [putB 1 1, putB s 2, putB u 8] _ (litrow w4 A3 A2 A4 1 2 8 c3 c2 c4 (putB 1 1) (putB s 2) (putB u 8) (putB_length _ _) (putB_length _ _) (putB_length _ _) B3.out B2.out B4) (by omega) (by omega) (by simp [Lib.lens, putB_length]) (by simp [putB_length])); have QA := Lib.hid (rows_below4 ((Below.refl w4.heap.size w4).alloc (Nat.le_refl _) (.cells #[.slice A3 1 c3, .slice A2 2 c2, .slice A4 8 c4] 23)) z4 Q4.out))
      | (go_at_call 18; (with_reducible refine J.out.mono ?_); rintro e w5 ⟨g5, c5, rfl, O5, T5⟩; have Q5 := Lib.hid (rows_below4 T5 (by simp; omega) QA.out); have T5 := nxt (T4.alloc T4.size _) T5))
  all_goals
    have HO := Lib.hid O5.bys
    clear O5 J
    go_wp2
    go_ret2
    exact ⟨_, _, _, rfl, HO.out, T5⟩
set_option maxHeartbeats 8000000 in
theorem slput_data (s u : Nat) (A : Option Addr) (n c : Nat) (d : List UInt8) (m : Int) (w : World) (hB : Bys w A n c d) (h : slErr false (s : Int) u n m = 0) :
    Calls Try.prog 6 #[.agg #[.bool false, .int .i64 (s : Int), .int .u64 (u : Int), .slice A n c], .int .i64 m] w (GivesI w 0 (slBytes false (s : Int) u d)) := by
  obtain ⟨hm, hr⟩ := slErr_zero h
  have hs := slRight_seq hr
  have HM := Lib.hid (fun W => slmod_any m W)
  rw [show decide (1 ≤ m ∧ m ≤ 65536) = true by simp; omega] at HM
  have hn : n ≤ 64 := by
    unfold slRight at hr
    rw [if_neg (by omega)] at hr
    simp at hr
    omega
  have HC := Lib.hid (fun W (k : Below w.heap.size w W) => hB.below k)
  have hdl := hB.len
  have HR := Lib.hid (fun W => slright_any false (s : Int) u A n c m W)
  rw [hr] at HR
  have HE : Hid ([putB 0 1, putB s 2, d].flatten = slBytes false (s : Int) u d) := by show _ = _; unfold slBytes; rw [if_neg (by decide), Int.toNat_natCast]; simp [putB]
  have HP := Lib.hid (show ∀ W (z : Int), z = (s : Int) → Calls Try.prog 17 #[.int .u64 z, .int .i64 2] W (GivesK W 2 (putB s 2)) from fun W (z : Int) (hz : z = (s : Int)) => hz ▸ oput_k s 2 W (by omega) (by decide) (by decide))
  have HK := Lib.hid (show ∀ W, Calls Try.prog 17 #[.int .u64 0, .int .i64 1] W (GivesK W 1 (putB 0 1)) from fun W => oput_k 0 1 W (by decide) (by decide) (by decide))
  have hw : IntKind.u64.wrap (s : Int) = (s : Int) := IntWalk.u64_in _ (by omega)
  clear h hr hB
  generalize slBytes false (s : Int) u d = E at *
  go_enter Try.func6, Try.ntmps6
  go_wp2_with (fail)
  refine (HM.out _).mono ?_
  rintro e w1 ⟨rfl, rfl⟩
  go_wp2_with (fail)
  refine (HR.out _).mono ?_
  rintro e w1 ⟨rfl, T1⟩
  have Q1 := Lib.hid (row4 (one_row T1)).1
  have z1 : w.heap.size < w1.heap.size := lt_row (one_row T1)
  have T1 := nxt ((Below.refl _ w).alloc (Nat.le_refl _) _) T1
  have q0 := Q1.out.1
  have q1 := Q1.out.2.1
  go_wp2_with (fail)
  refine (HP.out _ _ (by first | rfl | exact hw)).mono ?_
  rintro e w2 ⟨A2, c2, rfl, B2, T2⟩
  have Q2 := Lib.hid (rows_below4 T2 z1 Q1.out)
  have z2 := Nat.lt_of_lt_of_le z1 T2.size
  have T2 := nxt T1 T2
  have B2 := Lib.hid B2
  clear q0 q1
  have q0 := Q2.out.1
  go_wp2_with (fail)
  clear q0
  go_region_held3 (fun w' => (w'.cell? ⟨w.heap.size, 0, none⟩ = some (.bool false) ∧ w'.cell? ⟨w.heap.size, 1, none⟩ = some (.int .i64 (s : Int)) ∧ w'.cell? ⟨w.heap.size, 2, none⟩ = some (.int .u64 (u : Int)) ∧ w'.cell? ⟨w.heap.size, 3, none⟩ = some (Value.slice A n c))) (first | exact Q2.out | exact Q3.out | exact Q4.out | exact QA.out | exact Q5.out)
    (first
      | (go_at_call 17; (with_reducible refine (HK.out _).mono ?_); rintro e w3 ⟨A3, c3, rfl, B3, T3⟩; have T3 := undrew T3; have Q3 := Lib.hid (rows_below4 T3 z2 Q2.out); have z3 := Nat.lt_of_lt_of_le z2 T3.size; have B2 := Lib.hid (B2.out.below T3); have T3 := nxt T2 T3; have B3 := Lib.hid B3; have B4 := Lib.hid (HC.out _ T3); have J := Lib.hid (HE.out ▸ ojoin_own _ 3 3 [putB 0 1, putB s 2, d] _ (litrow w3 A3 A2 A 1 2 n c3 c2 c (putB 0 1) (putB s 2) d (putB_length _ _) (putB_length _ _) hdl B3.out B2.out B4.out) (by omega) (by omega) (by simp [Lib.lens, putB_length]; omega) (by simp [putB_length]; omega)); have QA := Lib.hid (rows_below4 ((Below.refl w3.heap.size w3).alloc (Nat.le_refl _) (.cells #[.slice A3 1 c3, .slice A2 2 c2, .slice A n c] 23)) z3 Q3.out))
      | (go_at_call 18; (with_reducible refine J.out.mono ?_); rintro e w5 ⟨g5, c5, rfl, O5, T5⟩; have Q5 := Lib.hid (rows_below4 T5 (by simp; omega) QA.out); have T5 := nxt (T3.alloc T3.size _) T5))
  all_goals
    have HO := Lib.hid O5.bys
    clear O5 J
    go_wp2
    go_ret2
    exact ⟨_, _, _, rfl, HO.out, T5⟩
theorem slput_any (a : Bool) (s : Int) (u : Nat) (A : Option Addr) (n c : Nat) (d : List UInt8) (m : Int) (w : World) (hu : u < 18446744073709551616) (hB : Bys w A n c d) :
    Calls Try.prog 6 #[.agg #[.bool a, .int .i64 s, .int .u64 (u : Int), .slice A n c], .int .i64 m] w (GivesI w (slErr a s u n m) (slPut a s u d m)) := by
  by_cases h : slErr a s u n m = 0
  · have hl := hB.len
    have hp : slPut a s u d m = slBytes a s u d := by unfold slPut; rw [hl, if_pos h]
    rw [hp, h]
    obtain ⟨_, hr⟩ := slErr_zero h
    obtain ⟨s, rfl⟩ := Int.eq_ofNat_of_zero_le (slRight_seq hr).1
    cases a
    · exact slput_data s u A n c d m w hB h
    · exact slput_ack s u A n c d m w hu h
  · exact slput_no a s u A n c d m w hB h
end Go.Proofs.Ytodgnfjaidiibaa
