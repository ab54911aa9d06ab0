/- Package ring by its contracts; the walks of layer 22's four laws over them. -/
import Derived.Test.YthjnmibpfkemeaaRrg
import Derived.Test.YthjnmibpfkemeaaFresh
import Derived.Deep.RegionHeld3
namespace Go.Proofs.Ythjnmibpfkemeaa
open Go.RowKit
set_option maxRecDepth 20000

/-- what package ring answers, in plain words -/
structure RgC : Prop where
  check : ∀ (w m l : Int) (W : World), J64 w → J64 m → J64 l → Calls Try.prog 8 #[.int .i64 w, .int .i64 m, .int .i64 l] W fun e w' => e = .returned (.int .i64 (rgCheck w m l)) ∧ Below W.heap.size W w'
  mod : ∀ (p m : Int) (W : World), J64 p → J64 m → Calls Try.prog 14 #[.int .i64 p, .int .i64 m] W fun e w' => e = .returned (.int .i64 (rgMod p m)) ∧ Below W.heap.size W w'
  near : ∀ (base span seq m : Int) (W : World), J64 base → J64 span → J64 seq → J64 m → Calls Try.prog 11 #[.int .i64 base, .int .i64 span, .int .i64 seq, .int .i64 m] W fun e w' => e = .returned (.tuple #[.int .i64 ((rgNear base span seq m).getD 0), .bool (rgNear base span seq m).isSome]) ∧ Below W.heap.size W w'
  ahead : ∀ (f t m : Int) (W : World), J64 f → J64 t → J64 m → Calls Try.prog 13 #[.int .i64 f, .int .i64 t, .int .i64 m] W fun e w' => e = .returned (.int .i64 (rgAhead f t m)) ∧ Below W.heap.size W w'
theorem one_row22 {w w1 : World} {a : Obj} (T : Below (w.alloc a).heap.size (w.alloc a) w1) : w1.heap[w.heap.size]? = some a :=
  (T.block _ (by simp)).trans (heap_alloc_new w _)
theorem num22_any (z : Int) (w : World) : Calls Try.prog 7 #[.int .i64 z] w fun e w' => e = .returned (.int .i64 z) ∧ w = w' := by
  go_enter Try.func7, Try.ntmps7
  go_wp2
  go_ret
  exact ⟨rfl, rfl⟩
set_option maxHeartbeats 2000000 in
theorem live22_any (C : RgC) (w : World) : Calls Try.prog 10 #[] w fun e w' => e = .returned (.bool true) ∧ Below w.heap.size w w' := by
  have h1 := fun W => C.near 7 3 0 8 W (by unfold J64; omega) (by unfold J64; omega) (by unfold J64; omega) (by unfold J64; omega)
  rw [show rgNear 7 3 0 8 = some 8 by decide] at h1
  have h2 := fun W => C.check 1 5 1 W (by unfold J64; omega) (by unfold J64; omega) (by unfold J64; omega)
  rw [show rgCheck 1 5 1 = 0 by decide] at h2
  have h3 := fun W => C.check 1 4 1 W (by unfold J64; omega) (by unfold J64; omega) (by unfold J64; omega)
  rw [show rgCheck 1 4 1 = 221 by decide] at h3
  have h4 := fun W => C.ahead 7 1 8 W (by unfold J64; omega) (by unfold J64; omega) (by unfold J64; omega)
  rw [show rgAhead 7 1 8 = 2 by decide] at h4
  have H1 := Lib.hid h1
  have H2 := Lib.hid h2
  have H3 := Lib.hid h3
  have H4 := Lib.hid h4
  clear h1 h2 h3 h4
  go_enter Try.func10, Try.ntmps10
  go_wp2_with (fail)
  refine (H1.out _).mono ?_
  rintro e w1 ⟨rfl, T1⟩
  go_wp2_with (fail)
  refine (H2.out _).mono ?_
  rintro e w2 ⟨rfl, T2⟩
  have T2 := nxt T1 T2
  go_wp2_with (fail)
  refine (num22_any _ _).mono ?_
  rintro e w9 ⟨rfl, rfl⟩
  go_wp2_with (fail)
  refine (H3.out _).mono ?_
  rintro e w3 ⟨rfl, T3⟩
  have T3 := nxt T2 T3
  go_wp2_with (fail)
  refine (num22_any _ _).mono ?_
  rintro e w9 ⟨rfl, rfl⟩
  go_wp2_with (fail)
  refine (H4.out _).mono ?_
  rintro e w4 ⟨rfl, T4⟩
  have T4 := nxt T3 T4
  go_wp2
  go_ret
  exact ⟨rfl, T4⟩
set_option maxHeartbeats 2000000 in
theorem walk_RingChecks (C : RgC) (w m l : Int) (W : World) (hw : J64 w) (hm : J64 m) (hl : J64 l) :
    Calls Try.prog 3 #[.int .i64 w, .int .i64 m, .int .i64 l] W fun e w' => e = .returned (.bool true) ∧ Below W.heap.size W w' := by
  have H1 := Lib.hid (fun W => C.check w m l W hw hm hl)
  have H2 := Lib.hid (fun W => rrcheck_any w m l W hw hm hl)
  have HL := Lib.hid (fun W => live22_any C W)
  generalize rgCheck w m l = r at *
  have e1 : (r == r) = true := by simp
  clear hw hm hl
  go_enter Try.func3, Try.ntmps3
  go_wp2_with (fail)
  refine (H1.out _).mono ?_
  rintro e w1 ⟨rfl, T1⟩
  go_wp2_with (fail)
  refine (num22_any _ _).mono ?_
  rintro e w9 ⟨rfl, rfl⟩
  go_wp2_with (fail)
  refine (H2.out _).mono ?_
  rintro e w2 ⟨rfl, rfl⟩
  go_wp2_with (fail)
  refine (HL.out _).mono ?_
  rintro e w3 ⟨rfl, T3⟩
  have T3 := nxt T1 T3
  go_wp2
  go_ret
  exact ⟨rfl, T3⟩
set_option maxHeartbeats 2000000 in
theorem walk_RingMods (C : RgC) (p t m : Int) (W : World) (hp : J64 p) (ht : J64 t) (hm : J64 m) :
    Calls Try.prog 5 #[.int .i64 p, .int .i64 t, .int .i64 m] W fun e w' => e = .returned (.bool true) ∧ Below W.heap.size W w' := by
  have H1 := Lib.hid (fun W => C.ahead p t m W hp ht hm)
  have H2 := Lib.hid (fun W => C.mod p m W hp hm)
  have H3 := Lib.hid (fun W => rrmod_any p m W hp hm)
  have H4 := Lib.hid (fun W => rrahead_any p t m W hp ht hm)
  have HL := Lib.hid (fun W => live22_any C W)
  have hr := rgAhead_range p t m
  generalize rgAhead p t m = r at *
  generalize rgMod p m = q at *
  have e1 : (r == r) = true := by simp
  have e2 : (q == q) = true := by simp
  have e3 : decide (0 ≤ r) = true := by simp; omega
  by_cases h1 : m < 1
  · have d1 : decide (m < 1) = true := by simp; omega
    clear hp ht hm hr
    go_enter Try.func5, Try.ntmps5
    go_wp2_with (fail)
    refine (H1.out _).mono ?_
    rintro e w1 ⟨rfl, T1⟩
    go_wp2_with (fail)
    refine (H2.out _).mono ?_
    rintro e w2 ⟨rfl, T2⟩
    have T2 := nxt T1 T2
    go_wp2_with (fail)
    refine (H3.out _).mono ?_
    rintro e w9 ⟨rfl, rfl⟩
    go_wp2_with (fail)
    refine (H4.out _).mono ?_
    rintro e w9 ⟨rfl, rfl⟩
    go_wp2_with (fail)
    refine (HL.out _).mono ?_
    rintro e w3 ⟨rfl, T3⟩
    have T3 := nxt T2 T3
    go_wp2
    go_ret
    exact ⟨rfl, T3⟩
  · have d1 : decide (m < 1) = false := by simp; omega
    have d2 : decide (r < m) = true := by simp; omega
    clear hp ht hm hr
    go_enter Try.func5, Try.ntmps5
    go_wp2_with (fail)
    refine (H1.out _).mono ?_
    rintro e w1 ⟨rfl, T1⟩
    go_wp2_with (fail)
    refine (H2.out _).mono ?_
    rintro e w2 ⟨rfl, T2⟩
    have T2 := nxt T1 T2
    go_wp2_with (fail)
    refine (H3.out _).mono ?_
    rintro e w9 ⟨rfl, rfl⟩
    go_wp2_with (fail)
    refine (H4.out _).mono ?_
    rintro e w9 ⟨rfl, rfl⟩
    go_wp2_with (fail)
    refine (HL.out _).mono ?_
    rintro e w3 ⟨rfl, T3⟩
    have T3 := nxt T2 T3
    go_wp2
    go_ret
    exact ⟨rfl, T3⟩
theorem rgCheck_zero {w m l : Int} (h : rgCheck w m l = 0) : (1 ≤ l ∧ l ≤ 4096) ∧ (1 ≤ w ∧ w ≤ 64) ∧ 2 * (w + l) < m ∧ m ≤ 65536 := by
  unfold rgCheck at h
  split at h
  · omega
  · split at h
    · omega
    · split at h
      · omega
      · omega
set_option maxHeartbeats 2000000 in
theorem walk_RingNear (C : RgC) (base span seq m : Int) (W : World) (hb : J64 base) (hs : J64 span) (hq : J64 seq) (hm : J64 m) :
    Calls Try.prog 4 #[.int .i64 base, .int .i64 span, .agg #[.int .i64 seq, .int .i64 m]] W fun e w' => e = .returned (.bool true) ∧ Below W.heap.size W w' := by
  have HL := Lib.hid (fun W => live22_any C W)
  by_cases h0 : 3000 < span ∧ span ≤ 65536
  · have d1 : decide (3000 < span) = true := by simp; omega
    have d2 : decide (span ≤ 65536) = true := by simp; omega
    clear hb hs hq hm h0
    go_enter Try.func4, Try.ntmps4
    go_wp2_with (fail)
    refine (HL.out _).mono ?_
    rintro e w3 ⟨rfl, T3⟩
    have T3 := nxt ((Below.refl _ W).alloc (Nat.le_refl _) _) T3
    go_wp2
    go_ret
    exact ⟨rfl, T3⟩
  · have H1 := Lib.hid (fun W => C.near base span seq m W hb hs hq hm)
    have H2 := Lib.hid (fun W => rrnear_any base span seq m W)
    unfold GivesPl at H2
    generalize (rgNear base span seq m).getD 0 = r at *
    generalize (rgNear base span seq m).isSome = t at *
    have e1 : (r == r) = true := by simp
    have e2 : (t == t) = true := by simp
    clear hb hs hq hm
    by_cases h1 : 3000 < span
    · have d1 : decide (3000 < span) = true := by simp; omega
      have d2 : decide (span ≤ 65536) = false := by simp; omega
      clear h0 h1
      go_enter Try.func4, Try.ntmps4
      go_wp2_with (fail)
      refine (H1.out _).mono ?_
      rintro e w1 ⟨rfl, T1⟩
      have b0 := one_row22 T1
      have c0 := cell_of_row _ _ 0 _ _ _ b0
      have c1 := cell_of_row _ _ 1 _ _ _ b0
      simp at c0 c1
      have T1 := nxt ((Below.refl _ W).alloc (Nat.le_refl _) _) T1
      clear b0
      go_wp2_with (fail)
      refine (H2.out _).mono ?_
      rintro e w9 ⟨rfl, rfl⟩
      go_wp2_with (fail)
      refine (HL.out _).mono ?_
      rintro e w3 ⟨rfl, T3⟩
      have T3 := nxt T1 T3
      go_wp2
      go_ret
      exact ⟨rfl, T3⟩
    · have d1 : decide (3000 < span) = false := by simp; omega
      clear h0 h1
      go_enter Try.func4, Try.ntmps4
      go_wp2_with (fail)
      refine (H1.out _).mono ?_
      rintro e w1 ⟨rfl, T1⟩
      have b0 := one_row22 T1
      have c0 := cell_of_row _ _ 0 _ _ _ b0
      have c1 := cell_of_row _ _ 1 _ _ _ b0
      simp at c0 c1
      have T1 := nxt ((Below.refl _ W).alloc (Nat.le_refl _) _) T1
      clear b0
      go_wp2_with (fail)
      refine (H2.out _).mono ?_
      rintro e w9 ⟨rfl, rfl⟩
      go_wp2_with (fail)
      refine (HL.out _).mono ?_
      rintro e w3 ⟨rfl, T3⟩
      have T3 := nxt T1 T3
      go_wp2
      go_ret
      exact ⟨rfl, T3⟩
set_option maxHeartbeats 8000000 in
theorem walk_RingEnough (C : RgC) (W0 M L P q : Int) (W : World) (hW : J64 W0) (hM : J64 M) (hL : J64 L) (hP : J64 P) (hq : J64 q) :
    Calls Try.prog 6 #[.agg #[.int .i64 W0, .int .i64 M, .int .i64 L, .int .i64 P], .int .i64 q] W fun e w' => e = .returned (.bool true) ∧ Below W.heap.size W w' := by
  have H1 := Lib.hid (fun W => C.check W0 M L W hW hM hL)
  have HLV := Lib.hid (fun W => live22_any C W)
  by_cases h0 : rgCheck W0 M L = 0
  · obtain ⟨hl, hw, hm1, hm2⟩ := rgCheck_zero h0
    rw [h0] at H1
    have H2 := Lib.hid (fun W => C.mod q M W hq hM)
    have H3 := Lib.hid (fun W => C.mod P M W hP hM)
    unfold J64 at hP hq
    clear h0 hW hM hL
    by_cases g0 : P < 0
    · have d0 : decide (P < 0) = true := by simp; omega
      go_enter Try.func6, Try.ntmps6
      go_wp2_with (fail)
      refine (H1.out _).mono ?_
      rintro e w1 ⟨rfl, T1⟩
      have b0 := one_row22 T1
      have c0 := cell_of_row _ _ 0 _ _ _ b0
      have c1 := cell_of_row _ _ 1 _ _ _ b0
      have c2 := cell_of_row _ _ 2 _ _ _ b0
      have c3 := cell_of_row _ _ 3 _ _ _ b0
      simp at c0 c1 c2 c3
      have z1 : W.heap.size < w1.heap.size := by have := T1.size; simp at this; omega
      have T1 := nxt ((Below.refl _ W).alloc (Nat.le_refl _) _) T1
      clear b0
      go_wp2_with (fail)
      refine (num22_any _ _).mono ?_
      rintro e w9 ⟨rfl, rfl⟩
      go_wp2_with (fail)
      refine (HLV.out _).mono ?_
      rintro e w3 ⟨rfl, T3⟩
      have T3 := nxt T1 T3
      go_wp2
      go_ret
      exact ⟨rfl, T3⟩
    have d0 : decide (P < 0) = false := by simp; omega
    by_cases g1 : 1125899906842624 < P
    · have d1 : decide (1125899906842624 < P) = true := by simp; omega
      go_enter Try.func6, Try.ntmps6
      go_wp2_with (fail)
      refine (H1.out _).mono ?_
      rintro e w1 ⟨rfl, T1⟩
      have b0 := one_row22 T1
      have c0 := cell_of_row _ _ 0 _ _ _ b0
      have c1 := cell_of_row _ _ 1 _ _ _ b0
      have c2 := cell_of_row _ _ 2 _ _ _ b0
      have c3 := cell_of_row _ _ 3 _ _ _ b0
      simp at c0 c1 c2 c3
      have z1 : W.heap.size < w1.heap.size := by have := T1.size; simp at this; omega
      have T1 := nxt ((Below.refl _ W).alloc (Nat.le_refl _) _) T1
      clear b0
      go_wp2_with (fail)
      refine (num22_any _ _).mono ?_
      rintro e w9 ⟨rfl, rfl⟩
      go_wp2_with (fail)
      refine (HLV.out _).mono ?_
      rintro e w3 ⟨rfl, T3⟩
      have T3 := nxt T1 T3
      go_wp2
      go_ret
      exact ⟨rfl, T3⟩
    have d1 : decide (1125899906842624 < P) = false := by simp; omega
    by_cases g2 : q < 0
    · have d2 : decide (q < 0) = true := by simp; omega
      go_enter Try.func6, Try.ntmps6
      go_wp2_with (fail)
      refine (H1.out _).mono ?_
      rintro e w1 ⟨rfl, T1⟩
      have b0 := one_row22 T1
      have c0 := cell_of_row _ _ 0 _ _ _ b0
      have c1 := cell_of_row _ _ 1 _ _ _ b0
      have c2 := cell_of_row _ _ 2 _ _ _ b0
      have c3 := cell_of_row _ _ 3 _ _ _ b0
      simp at c0 c1 c2 c3
      have z1 : W.heap.size < w1.heap.size := by have := T1.size; simp at this; omega
      have T1 := nxt ((Below.refl _ W).alloc (Nat.le_refl _) _) T1
      clear b0
      go_wp2_with (fail)
      refine (num22_any _ _).mono ?_
      rintro e w9 ⟨rfl, rfl⟩
      go_wp2_with (fail)
      refine (HLV.out _).mono ?_
      rintro e w3 ⟨rfl, T3⟩
      have T3 := nxt T1 T3
      go_wp2
      go_ret
      exact ⟨rfl, T3⟩
    have d2 : decide (q < 0) = false := by simp; omega
    by_cases g3 : q = P
    · subst g3
      go_enter Try.func6, Try.ntmps6
      go_wp2_with (fail)
      refine (H1.out _).mono ?_
      rintro e w1 ⟨rfl, T1⟩
      have b0 := one_row22 T1
      have c0 := cell_of_row _ _ 0 _ _ _ b0
      have c1 := cell_of_row _ _ 1 _ _ _ b0
      have c2 := cell_of_row _ _ 2 _ _ _ b0
      have c3 := cell_of_row _ _ 3 _ _ _ b0
      simp at c0 c1 c2 c3
      have z1 : W.heap.size < w1.heap.size := by have := T1.size; simp at this; omega
      have T1 := nxt ((Below.refl _ W).alloc (Nat.le_refl _) _) T1
      clear b0
      go_wp2_with (fail)
      refine (num22_any _ _).mono ?_
      rintro e w9 ⟨rfl, rfl⟩
      go_wp2_with (fail)
      refine (HLV.out _).mono ?_
      rintro e w3 ⟨rfl, T3⟩
      have T3 := nxt T1 T3
      go_wp2
      go_ret
      exact ⟨rfl, T3⟩
    have d3 : (q == P) = false := by simp; omega
    have hw1 : wrap64 (P - W0) = P - W0 := by unfold wrap64; omega
    have hw2 : wrap64 (P - W0 - L) = P - W0 - L := by unfold wrap64; omega
    have hw3 : wrap64 (2 * W0) = 2 * W0 := by unfold wrap64; omega
    have hw4 : wrap64 (P + 2 * W0) = P + 2 * W0 := by unfold wrap64; omega
    have hw5 : wrap64 (P + 2 * W0 + L) = P + 2 * W0 + L := by unfold wrap64; omega
    by_cases g4 : q < P - W0 - L
    · have d4 : decide (q < P - W0 - L) = true := by simp; omega
      go_enter Try.func6, Try.ntmps6
      go_wp2_with (fail)
      refine (H1.out _).mono ?_
      rintro e w1 ⟨rfl, T1⟩
      have b0 := one_row22 T1
      have c0 := cell_of_row _ _ 0 _ _ _ b0
      have c1 := cell_of_row _ _ 1 _ _ _ b0
      have c2 := cell_of_row _ _ 2 _ _ _ b0
      have c3 := cell_of_row _ _ 3 _ _ _ b0
      simp at c0 c1 c2 c3
      have z1 : W.heap.size < w1.heap.size := by have := T1.size; simp at this; omega
      have T1 := nxt ((Below.refl _ W).alloc (Nat.le_refl _) _) T1
      clear b0
      go_wp2_with (fail)
      refine (num22_any _ _).mono ?_
      rintro e w9 ⟨rfl, rfl⟩
      go_wp2_with (fail)
      refine (HLV.out _).mono ?_
      rintro e w3 ⟨rfl, T3⟩
      have T3 := nxt T1 T3
      go_wp2
      go_ret
      exact ⟨rfl, T3⟩
    have d4 : decide (q < P - W0 - L) = false := by simp; omega
    by_cases g5 : P + 2 * W0 + L < q
    · have d5 : decide (P + 2 * W0 + L < q) = true := by simp; omega
      go_enter Try.func6, Try.ntmps6
      go_wp2_with (fail)
      refine (H1.out _).mono ?_
      rintro e w1 ⟨rfl, T1⟩
      have b0 := one_row22 T1
      have c0 := cell_of_row _ _ 0 _ _ _ b0
      have c1 := cell_of_row _ _ 1 _ _ _ b0
      have c2 := cell_of_row _ _ 2 _ _ _ b0
      have c3 := cell_of_row _ _ 3 _ _ _ b0
      simp at c0 c1 c2 c3
      have z1 : W.heap.size < w1.heap.size := by have := T1.size; simp at this; omega
      have T1 := nxt ((Below.refl _ W).alloc (Nat.le_refl _) _) T1
      clear b0
      go_wp2_with (fail)
      refine (num22_any _ _).mono ?_
      rintro e w9 ⟨rfl, rfl⟩
      go_wp2_with (fail)
      refine (HLV.out _).mono ?_
      rintro e w3 ⟨rfl, T3⟩
      have T3 := nxt T1 T3
      go_wp2
      go_ret
      exact ⟨rfl, T3⟩
    have d5 : decide (P + 2 * W0 + L < q) = false := by simp; omega
    have hne := rg_enough P q M (2 * W0 + L) (by omega) (by omega) (by omega) (by omega) (by omega)
    generalize rgMod q M = x at *
    generalize rgMod P M = y at *
    have e1 : (x != y) = true := by simpa using hne
    clear hne
    go_enter Try.func6, Try.ntmps6
    go_wp2_with (fail)
    refine (H1.out _).mono ?_
    rintro e w1 ⟨rfl, T1⟩
    have b0 := one_row22 T1
    have c0 := cell_of_row _ _ 0 _ _ _ b0
    have c1 := cell_of_row _ _ 1 _ _ _ b0
    have c2 := cell_of_row _ _ 2 _ _ _ b0
    have c3 := cell_of_row _ _ 3 _ _ _ b0
    simp at c0 c1 c2 c3
    have z1 : W.heap.size < w1.heap.size := by have := T1.size; simp at this; omega
    have T1 := nxt ((Below.refl _ W).alloc (Nat.le_refl _) _) T1
    clear b0
    go_wp2_with (fail)
    refine (num22_any _ _).mono ?_
    rintro e w9 ⟨rfl, rfl⟩
    go_wp2_with (fail)
    have Q1 := Lib.hid (And.intro c1 c3)
    clear c0 c1 c2 c3
    go_region_held3 (fun w' => w'.cell? ⟨W.heap.size, 1, none⟩ = some (.int .i64 M) ∧ w'.cell? ⟨W.heap.size, 3, none⟩ = some (.int .i64 P)) (first | exact Q1.out | exact Q2.out | exact Q3.out | exact Q4.out)
      (first
        | (go_at_call_of 14 (Value.int .i64 q); (with_reducible refine (H2.out _).mono ?_); rintro e w2 ⟨rfl, T2⟩; have T2 := undrew T2; have Q2 := Lib.hid (And.intro ((T2.cell (p := ⟨W.heap.size, 1, none⟩) z1).trans Q1.out.1) ((T2.cell (p := ⟨W.heap.size, 3, none⟩) z1).trans Q1.out.2)); have z2 := Nat.lt_of_lt_of_le z1 T2.size; have T2 := nxt T1 T2)
        | (go_at_call_of 14 (Value.int .i64 P); (with_reducible refine (H3.out _).mono ?_); rintro e w4 ⟨rfl, T4⟩; have Q3 := Lib.hid (And.intro ((T4.cell (p := ⟨W.heap.size, 1, none⟩) z2).trans Q2.out.1) ((T4.cell (p := ⟨W.heap.size, 3, none⟩) z2).trans Q2.out.2)); have z4 := Nat.lt_of_lt_of_le z2 T4.size; have T4 := nxt T2 T4)
        | (go_at_call 10; (with_reducible refine (HLV.out _).mono ?_); rintro e w5 ⟨rfl, T5⟩; have Q4 := Lib.hid (And.intro ((T5.cell (p := ⟨W.heap.size, 1, none⟩) z4).trans Q3.out.1) ((T5.cell (p := ⟨W.heap.size, 3, none⟩) z4).trans Q3.out.2)); have T5 := nxt T4 T5))
    go_wp2
    go_ret
    exact ⟨rfl, T5⟩
  · have d0 : (rgCheck W0 M L != 0) = true := by simpa using h0
    generalize rgCheck W0 M L = r at *
    clear hW hM hL hP hq h0
    go_enter Try.func6, Try.ntmps6
    go_wp2_with (fail)
    refine (H1.out _).mono ?_
    rintro e w1 ⟨rfl, T1⟩
    have b0 := one_row22 T1
    have c0 := cell_of_row _ _ 0 _ _ _ b0
    have c1 := cell_of_row _ _ 1 _ _ _ b0
    have c2 := cell_of_row _ _ 2 _ _ _ b0
    have c3 := cell_of_row _ _ 3 _ _ _ b0
    simp at c0 c1 c2 c3
    have z1 : W.heap.size < w1.heap.size := by have := T1.size; simp at this; omega
    have T1 := nxt ((Below.refl _ W).alloc (Nat.le_refl _) _) T1
    clear b0
    go_wp2_with (fail)
    refine (num22_any _ _).mono ?_
    rintro e w9 ⟨rfl, rfl⟩
    go_wp2_with (fail)
    refine (HLV.out _).mono ?_
    rintro e w3 ⟨rfl, T3⟩
    have T3 := nxt T1 T3
    go_wp2
    go_ret
    exact ⟨rfl, T3⟩
end Go.Proofs.Ythjnmibpfkemeaa
