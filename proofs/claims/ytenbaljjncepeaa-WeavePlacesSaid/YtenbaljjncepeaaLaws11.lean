/- The walks of layer 11's WeavePlaces, WeaveDoes and WeaveBack, over the contracts of weave. -/
import Derived.Test.YtenbaljjncepeaaWeC
namespace Go.Proofs.Ytenbaljjncepeaa
open Go.RowKit

set_option maxHeartbeats 4000000 in
theorem walk_WeavePlaces (C : WeC) (n rows at_ : Int) (w : World) (hn : In11 n) (hr : In11 rows) (ha : In11 at_) :
    Calls Try.prog 3 #[.int .i64 n, .int .i64 rows, .int .i64 at_] w fun e w' => e = .returned (.bool true) ∧ Below w.heap.size w w' := by
  have H1 := Lib.hid (fun W => C.place n rows at_ W hn hr ha)
  have H2 := Lib.hid (fun W => rplace_any n rows at_ W)
  have HL := Lib.hid (fun W => live11_any C W)
  generalize placeR n rows at_ = r at *
  obtain ⟨z, t⟩ := r
  have e1 : (z == z) = true := by simp
  have e2 : (t == t) = true := by simp
  obtain ⟨t1, d1⟩ : ∃ t, decide (2000 < n) = t := ⟨_, rfl⟩
  obtain ⟨t2, d2⟩ : ∃ t, decide (n ≤ 65536) = t := ⟨_, rfl⟩
  clear hn hr ha
  cases t1 <;> cases t2
  all_goals
    go_enter Try.func3, Try.ntmps3
    go_wp2_with (fail)
    first
      | (refine (HL.out _).mono ?_
         rintro e w9 ⟨rfl, T9⟩
         go_wp2
         go_ret
         exact ⟨rfl, T9⟩)
      | (refine (H1.out _).mono ?_
         rintro e w1 ⟨rfl, T1⟩
         go_wp2_with (fail)
         refine (H2.out _).mono ?_
         rintro e w2 ⟨rfl, T2⟩
         have T2 := nxt T1 T2
         go_wp2_with (fail)
         refine (HL.out _).mono ?_
         rintro e w9 ⟨rfl, T9⟩
         have T9 := nxt T2 T9
         go_wp2
         go_ret
         exact ⟨rfl, T9⟩)
set_option maxHeartbeats 4000000 in
theorem walk_WeaveDoes (C : WeC) (A : Option Addr) (n c : Nat) (b : List UInt8) (rows : Int) (w : World) (hB : Bys w A n c b) (hn : n ≤ 140737488355328) (hr : In11 rows) :
    Calls Try.prog 4 #[.slice A n c, .int .i64 rows] w fun e w' => e = .returned (.bool true) ∧ Below w.heap.size w w' := by
  have H1 := Lib.hid (fun W (k : Below w.heap.size w W) => C.do_ A n c b rows W (hB.below k) hn hr)
  have H2 := Lib.hid (fun W (k : Below w.heap.size w W) => rweave_any A n c b rows W (hB.below k) hn)
  have H3 := Lib.hid (fun W (k : Below w.heap.size w W) => C.undo A n c b rows W (hB.below k) hn hr)
  have H4 := Lib.hid (fun W (k : Below w.heap.size w W) => runweave_any A n c b rows W (hB.below k) hn)
  have HL := Lib.hid (fun W => live11_any C W)
  obtain ⟨t1, d1⟩ : ∃ t, decide ((200 : Int) < (n : Int)) = t := ⟨_, rfl⟩
  obtain ⟨t2, d2⟩ : ∃ t, decide ((n : Int) ≤ 8192) = t := ⟨_, rfl⟩
  clear hB hn hr
  cases t1 <;> cases t2
  all_goals
    go_enter Try.func4, Try.ntmps4
    go_wp2_with (fail)
    first
      | (refine (HL.out _).mono ?_
         rintro e w9 ⟨rfl, T9⟩
         go_wp2
         go_ret
         exact ⟨rfl, T9⟩)
      | (refine (H1.out _ (Below.refl _ _)).mono ?_
         rintro e w1 ⟨A1, n1, c1, rfl, B1, T1⟩
         go_wp2_with (fail)
         refine (H2.out _ T1).mono ?_
         rintro e w2 ⟨A2, n2, c2, rfl, B2, T2⟩
         have B1 := B1.below T2
         have T2 := nxt T1 T2
         go_wp2_with (fail)
         refine (same_true _ _ _ _ _ _ _ _ B1 B2).mono ?_
         rintro e w3 ⟨rfl, T3⟩
         have T3 := nxt T2 T3
         clear B1 B2
         go_wp2_with (fail)
         refine (H3.out _ T3).mono ?_
         rintro e w4 ⟨A4, n4, c4, rfl, B4, T4⟩
         have T4 := nxt T3 T4
         go_wp2_with (fail)
         refine (H4.out _ T4).mono ?_
         rintro e w5 ⟨A5, n5, c5, rfl, B5, T5⟩
         have B4 := B4.below T5
         have T5 := nxt T4 T5
         go_wp2_with (fail)
         refine (same_true _ _ _ _ _ _ _ _ B4 B5).mono ?_
         rintro e w6 ⟨rfl, T6⟩
         have T6 := nxt T5 T6
         clear B4 B5
         go_wp2_with (fail)
         refine (HL.out _).mono ?_
         rintro e w9 ⟨rfl, T9⟩
         have T9 := nxt T6 T9
         go_wp2
         go_ret
         exact ⟨rfl, T9⟩)
theorem weaveB_len (b : List UInt8) (rows : Int) : (weaveB b rows).length ≤ b.length := by
  unfold weaveB
  split
  · rename_i h
    have hr : 1 ≤ rows.toNat := by unfold okW at h; omega
    rw [textW_len]
    unfold permL
    rw [List.length_map, order_len _ _ hr]
    omega
  · simp
theorem unweaveB_len (b : List UInt8) (rows : Int) : (unweaveB b rows).length ≤ b.length := by
  unfold unweaveB
  split
  · rw [textW_len, unpermK_len, bitsW_len]
    omega
  · simp
set_option maxHeartbeats 4000000 in
theorem walk_WeaveBack (C : WeC) (A : Option Addr) (n c : Nat) (b : List UInt8) (rows : Int) (w : World) (hB : Bys w A n c b) (hr : In11 rows) :
    Calls Try.prog 5 #[.slice A n c, .int .i64 rows] w fun e w' => e = .returned (.bool true) ∧ Below w.heap.size w w' := by
  have HL := Lib.hid (fun W => live11_any C W)
  have hl := hB.len
  by_cases hok : n ≤ 200 ∧ 1 ≤ rows ∧ rows ≤ 64
  · have d1 : decide ((200 : Int) < (n : Int)) = false := by simp; omega
    have d2 : decide (rows < 1) = false := by simp; omega
    have d3 : decide (64 < rows) = false := by simp; omega
    have hokw : okW b.length rows := by unfold okW; omega
    have HUW : Hid (unweaveB (weaveB b rows) rows = b) := unweave_weave b rows hokw
    have HWU : Hid (weaveB (unweaveB b rows) rows = b) := weave_unweave b rows hokw
    have hwl := weaveB_len b rows
    have hul := unweaveB_len b rows
    have H1 := Lib.hid (fun A' n' c' b' W (h : Bys W A' n' c' b') (hn : n' ≤ 140737488355328) => C.do_ A' n' c' b' rows W h hn hr)
    have H2 := Lib.hid (fun A' n' c' b' W (h : Bys W A' n' c' b') (hn : n' ≤ 140737488355328) => C.undo A' n' c' b' rows W h hn hr)
    have HB := Lib.hid (fun W (k : Below w.heap.size w W) => hB.below k)
    obtain ⟨x, hx⟩ : ∃ x, weaveB b rows = x := ⟨_, rfl⟩
    obtain ⟨y, hy⟩ : ∃ y, unweaveB b rows = y := ⟨_, rfl⟩
    rw [hx] at HUW hwl
    rw [hy] at HWU hul
    have HX := Lib.hid hx
    have HY := Lib.hid hy
    clear hB hokw hx hy
    go_enter Try.func5, Try.ntmps5
    go_wp2_with (fail)
    refine (H1.out A n c b _ (HB.out _ (Below.refl _ _)) (by omega)).mono ?_
    rw [HX.out]
    rintro e w1 ⟨A1, n1, c1, rfl, B1, T1⟩
    have hn1 := B1.len
    go_wp2_with (fail)
    refine (H2.out A1 n1 c1 x _ B1 (by omega)).mono ?_
    rw [HUW.out]
    rintro e w2 ⟨A2, n2, c2, rfl, B2, T2⟩
    have T2 := nxt T1 T2
    clear B1
    go_wp2_with (fail)
    refine (same_true _ _ _ _ _ _ _ _ B2 (HB.out _ T2)).mono ?_
    rintro e w3 ⟨rfl, T3⟩
    have T3 := nxt T2 T3
    clear B2
    go_wp2_with (fail)
    refine (H2.out A n c b _ (HB.out _ T3) (by omega)).mono ?_
    rw [HY.out]
    rintro e w4 ⟨A4, n4, c4, rfl, B4, T4⟩
    have hn4 := B4.len
    have T4 := nxt T3 T4
    go_wp2_with (fail)
    refine (H1.out A4 n4 c4 y _ B4 (by omega)).mono ?_
    rw [HWU.out]
    rintro e w5 ⟨A5, n5, c5, rfl, B5, T5⟩
    have T5 := nxt T4 T5
    clear B4
    go_wp2_with (fail)
    refine (same_true _ _ _ _ _ _ _ _ B5 (HB.out _ T5)).mono ?_
    rintro e w6 ⟨rfl, T6⟩
    have T6 := nxt T5 T6
    clear B5
    go_wp2_with (fail)
    refine (HL.out _).mono ?_
    rintro e w9 ⟨rfl, T9⟩
    have T9 := nxt T6 T9
    go_wp2
    go_ret
    exact ⟨rfl, T9⟩
  · obtain ⟨t1, d1⟩ : ∃ t, decide ((200 : Int) < (n : Int)) = t := ⟨_, rfl⟩
    obtain ⟨t2, d2⟩ : ∃ t, decide (rows < 1) = t := ⟨_, rfl⟩
    obtain ⟨t3, d3⟩ : ∃ t, decide (64 < rows) = t := ⟨_, rfl⟩
    have ht : t1 = true ∨ t2 = true ∨ t3 = true := by
      rw [← d1, ← d2, ← d3]
      simp only [decide_eq_true_eq]
      omega
    clear hok hB hr
    cases t1 <;> cases t2 <;> cases t3
    all_goals
      first
        | (simp at ht; done)
        | (clear ht
           go_enter Try.func5, Try.ntmps5
           go_wp2_with (fail)
           refine (HL.out _).mono ?_
           rintro e w9 ⟨rfl, T9⟩
           go_wp2
           go_ret
           exact ⟨rfl, T9⟩)
end Go.Proofs.Ytenbaljjncepeaa
