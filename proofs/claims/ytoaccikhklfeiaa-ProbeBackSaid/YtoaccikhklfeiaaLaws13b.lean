/- The walk of layer 13's ProbeBack, over the contracts of probe, crc and frame. -/
import Derived.Test.YtoaccikhklfeiaaPrC
import Derived.Test.YtoaccikhklfeiaaFrameK
import Derived.Deep.RegionHeld3
namespace Go.Proofs.Ytoaccikhklfeiaa
open Go.RowKit
set_option maxRecDepth 20000

set_option maxHeartbeats 8000000 in
theorem back13_nn (C : PrC) (k l : Int) (A : Option Addr) (n c : Nat) (d : List UInt8) (A' : Option Addr) (n' c' : Nat) (b : List UInt8) (w : World) (hk : I64 k) (hl : I64 l) (hB : Bys w A n c d) (hB' : Bys w A' n' c' b) (hn' : n' ≤ 140737488355328) (hr : prRight k l n = false) (ho : prOk b = false) :
    Calls Try.prog 5 #[.agg #[.int .i64 k, .int .i64 l, .slice A n c], .slice A' n' c'] w fun e w' => e = .returned (.bool true) ∧ Below w.heap.size w w' := by
  have hlen := hB.len
  have HLEN := Lib.hid hlen
  have HL := Lib.hid (fun W => live13_any C W)
  have H1 := Lib.hid (fun W (h : Below w.heap.size w W) => C.put k l A n c d W hk hl (hB.below h))
  have H6 := Lib.hid (fun W (h : Below w.heap.size w W) => C.get A' n' c' b W (hB'.below h) hn')
  have HB' := Lib.hid (fun W (h : Below w.heap.size w W) => hB'.below h)
  rw [prErr_no hr, prPut_no (by rw [hlen]; exact hr)] at H1
  have hE : prGetE b = 130 := by unfold prGetE; rw [ho]; rfl
  rw [hE] at H6
  clear hE
  generalize prGetK b = y1 at *
  generalize prGetL b = y2 at *
  generalize prGetD b = y3 at *
  clear hB hB' hn' hk hl hr ho hlen
  go_enter Try.func5, Try.ntmps5
  go_wp2_with (fail)
  refine (H1.out _ ((Below.refl _ w).alloc (Nat.le_refl _) _)).mono ?_
  rintro e w1 ⟨A1, n1, c1, rfl, B1, T1⟩
  have q1 := rows_of (one_row T1)
  have z1 : w.heap.size < w1.heap.size := lt_row (one_row T1)
  have T1 := nxt ((Below.refl _ w).alloc (Nat.le_refl _) _) T1
  have Q1 := Lib.hid q1
  clear q1
  go_wp2_with (fail)
  refine (num13_any _ _).mono ?_
  rintro e w9 ⟨rfl, rfl⟩
  go_wp2_with (fail)
  refine (H6.out _ T1).mono ?_
  rintro e w10 ⟨A10, n10, c10, rfl, B10, T10⟩
  have T10 := nxt T1 T10
  have T10a := T10.alloc T10.size (.cells #[.int .i64 y1, .int .i64 y2, .slice A10 n10 c10] 24)
  have B10a := B10.alloc (.cells #[.int .i64 y1, .int .i64 y2, .slice A10 n10 c10] 24)
  go_wp2_with (fail)
  refine (num13_any _ _).mono ?_
  rintro e w11 ⟨rfl, rfl⟩
  go_wp2_with (fail)
  refine (HL.out _).mono ?_
  rintro e w12 ⟨rfl, T12⟩
  have T12 := nxt T10a T12
  go_wp2
  go_ret
  exact ⟨rfl, T12⟩
set_option maxHeartbeats 8000000 in
theorem back13_ny (C : PrC) (k l : Int) (A : Option Addr) (n c : Nat) (d : List UInt8) (A' : Option Addr) (n' c' : Nat) (b : List UInt8) (w : World) (hk : I64 k) (hl : I64 l) (hB : Bys w A n c d) (hB' : Bys w A' n' c' b) (hn' : n' ≤ 140737488355328) (hr : prRight k l n = false) (ho : prOk b = true) :
    Calls Try.prog 5 #[.agg #[.int .i64 k, .int .i64 l, .slice A n c], .slice A' n' c'] w fun e w' => e = .returned (.bool true) ∧ Below w.heap.size w w' := by
  have hlen := hB.len
  have HLEN := Lib.hid hlen
  have HL := Lib.hid (fun W => live13_any C W)
  have H1 := Lib.hid (fun W (h : Below w.heap.size w W) => C.put k l A n c d W hk hl (hB.below h))
  have H6 := Lib.hid (fun W (h : Below w.heap.size w W) => C.get A' n' c' b W (hB'.below h) hn')
  have HB' := Lib.hid (fun W (h : Below w.heap.size w W) => hB'.below h)
  rw [prErr_no hr, prPut_no (by rw [hlen]; exact hr)] at H1
  have hE : prGetE b = 0 := by unfold prGetE; rw [ho]; rfl
  obtain ⟨hr2, hpb⟩ := prPut_get b ho
  have H7 := Lib.hid (fun W B m e (h : Bys W B m e (prGetD b)) => C.put (prGetK b) (prGetL b) B m e (prGetD b) W (prGetK_i64 b) (prGetL_i64 b) h)
  rw [hE] at H6
  rw [hpb] at H7
  have h7 := fun W B m e (h : Bys W B m e (prGetD b)) => (show prErr (prGetK b) (prGetL b) m = 0 from prErr_yes (by rw [← h.len]; exact hr2)) ▸ H7.out W B m e h
  have H7 := Lib.hid h7
  clear h7 hE hr2 hpb
  generalize prGetK b = y1 at *
  generalize prGetL b = y2 at *
  generalize prGetD b = y3 at *
  clear hB hB' hn' hk hl hr ho hlen
  go_enter Try.func5, Try.ntmps5
  go_wp2_with (fail)
  refine (H1.out _ ((Below.refl _ w).alloc (Nat.le_refl _) _)).mono ?_
  rintro e w1 ⟨A1, n1, c1, rfl, B1, T1⟩
  have q1 := rows_of (one_row T1)
  have z1 : w.heap.size < w1.heap.size := lt_row (one_row T1)
  have T1 := nxt ((Below.refl _ w).alloc (Nat.le_refl _) _) T1
  have Q1 := Lib.hid q1
  clear q1
  go_wp2_with (fail)
  refine (num13_any _ _).mono ?_
  rintro e w9 ⟨rfl, rfl⟩
  go_wp2_with (fail)
  refine (H6.out _ T1).mono ?_
  rintro e w10 ⟨A10, n10, c10, rfl, B10, T10⟩
  have T10 := nxt T1 T10
  have T10a := T10.alloc T10.size (.cells #[.int .i64 y1, .int .i64 y2, .slice A10 n10 c10] 24)
  have B10a := B10.alloc (.cells #[.int .i64 y1, .int .i64 y2, .slice A10 n10 c10] 24)
  go_wp2_with (fail)
  refine (num13_any _ _).mono ?_
  rintro e w11 ⟨rfl, rfl⟩
  go_wp2_with (fail)
  refine (H7.out _ _ _ _ B10a).mono ?_
  rintro e w12 ⟨A12, n12, c12, rfl, B12, T12⟩
  have T12 := nxt T10a T12
  go_wp2_with (fail)
  refine (num13_any _ _).mono ?_
  rintro e w11 ⟨rfl, rfl⟩
  go_wp2_with (fail)
  refine (same_true _ _ _ _ _ _ _ _ B12 (HB'.out _ T12)).mono ?_
  rintro e w13 ⟨rfl, T13⟩
  have T13 := nxt T12 T13
  go_wp2_with (fail)
  refine (HL.out _).mono ?_
  rintro e w14 ⟨rfl, T14⟩
  have T14 := nxt T13 T14
  go_wp2
  go_ret
  exact ⟨rfl, T14⟩
set_option maxHeartbeats 8000000 in
theorem back13_yn (C : PrC) (k l : Int) (A : Option Addr) (n c : Nat) (d : List UInt8) (A' : Option Addr) (n' c' : Nat) (b : List UInt8) (w : World) (hk : I64 k) (hl : I64 l) (hB : Bys w A n c d) (hB' : Bys w A' n' c' b) (hn' : n' ≤ 140737488355328) (hr : prRight k l n = true) (ho : prOk b = false) :
    Calls Try.prog 5 #[.agg #[.int .i64 k, .int .i64 l, .slice A n c], .slice A' n' c'] w fun e w' => e = .returned (.bool true) ∧ Below w.heap.size w w' := by
  have hlen := hB.len
  have HLEN := Lib.hid hlen
  have HL := Lib.hid (fun W => live13_any C W)
  have H1 := Lib.hid (fun W (h : Below w.heap.size w W) => C.put k l A n c d W hk hl (hB.below h))
  have H6 := Lib.hid (fun W (h : Below w.heap.size w W) => C.get A' n' c' b W (hB'.below h) hn')
  have HB' := Lib.hid (fun W (h : Below w.heap.size w W) => hB'.below h)
  obtain ⟨hp, hpo, hpk, hpl, hpd⟩ := prOk_put k l d (by rw [hlen]; exact hr)
  have hb := prHead_byte hr
  have hhl := prHead_lt hr
  have hle := prRight_le hr
  have H2 := Lib.hid (fun W B m e h hm => C.get B m e (prPut k l d) W h hm)
  rw [hpk, hpl, hpd, show prGetE (prPut k l d) = 0 by unfold prGetE; rw [hpo]; rfl] at H2
  have HF := frameW_len (prPut k l d)
  have H3 := Lib.hid (fun W a B m e (ht : Tab W a) (h : Bys W B m e (prPut k l d)) => wrap_any a B m e _ W ht h (by have := h.len; rw [hp] at this; simp at this; omega))
  unfold GivesF at H3
  have H4 := Lib.hid (fun W B m e (h : Below w.heap.size w W) h' => C.same k l A n c d k l B m e d W (hB.below h) h')
  rw [prSame_self] at H4
  rw [prErr_yes hr, hp] at H1
  rw [hp] at H2 H3 HF
  generalize frameW (UInt8.ofNat (prHead k l).toNat :: d) = F at *
  generalize hm : F.length = fm at *
  have hX : ((UInt8.ofNat (prHead k l).toNat).toNat : Int) = prHead k l := by rw [hb]; omega
  clear hb hp hpo hpk hpl hpd
  generalize UInt8.ofNat (prHead k l).toNat = x at *
  have hF : decide (2 * ((n : Int) + 5) + 2 < (fm : Int)) = false := by simp at HF; simp; omega
  have hx8 : (x.toNat : Int) < 8 := by omega
  have hx3 : ((x.toNat : Int) == 3) = false := by simp; omega
  have hx9 : decide (8 ≤ (x.toNat : Int)) = false := by simp; omega
  have hcap := hB.cap
  have hnc := hB.le
  clear HF hX hhl hm
  have hE : prGetE b = 130 := by unfold prGetE; rw [ho]; rfl
  rw [hE] at H6
  clear hE
  generalize prGetK b = y1 at *
  generalize prGetL b = y2 at *
  generalize prGetD b = y3 at *
  clear hB hB' hn' hk hl hr ho hlen
  go_enter Try.func5, Try.ntmps5
  go_wp2_with (fail)
  refine (H1.out _ ((Below.refl _ w).alloc (Nat.le_refl _) _)).mono ?_
  rintro e w1 ⟨A1, n1, c1, rfl, B1, T1⟩
  have q1 := rows_of (one_row T1)
  have z1 : w.heap.size < w1.heap.size := lt_row (one_row T1)
  have T1 := nxt ((Below.refl _ w).alloc (Nat.le_refl _) _) T1
  have Q1 := Lib.hid q1
  clear q1
  go_wp2_with (fail)
  refine (num13_any _ _).mono ?_
  rintro e w9 ⟨rfl, rfl⟩
  go_wp2_with (fail)
  have hn1 : 1 ≤ n1 ∧ n1 ≤ 65 := by have h1 := B1.len; have h2 := HLEN.out; simp at h1; omega
  refine (H2.out _ _ _ _ B1 (by omega)).mono ?_
  rintro e w2 ⟨A2, n2, c2, rfl, B2, T2⟩
  have Q2 := Lib.hid (rows_below T2 z1 Q1.out)
  have z2 := Nat.lt_of_lt_of_le z1 T2.size
  have B1 := B1.below T2
  have T2 := nxt T1 T2
  go_wp2_with (fail)
  refine (new_any _).mono ?_
  rintro e w3 ⟨a, rfl, Ta, T3⟩
  have B1 := (B1.alloc _).below T3
  have B2 := (B2.alloc _).below T3
  have q3 := rows_of (one_row T3)
  have z3 : w2.heap.size < w3.heap.size := lt_row (one_row T3)
  have T3 := nxt ((Below.refl _ w2).alloc (Nat.le_refl _) _) T3
  have Q3 := Lib.hid (And.intro (rows_below T3 z2 Q2.out) q3)
  have T3 := nxt T2 T3
  clear q3
  go_wp2_with (fail)
  refine (H3.out _ _ _ _ _ Ta B1).mono ?_
  rintro e w4 ⟨g4, c4, rfl, -, T4⟩
  have Q4 := Lib.hid (And.intro (rows_below T4 (by omega) Q3.out.1) (rows_below T4 z3 Q3.out.2))
  have z4 : w2.heap.size < w4.heap.size := Nat.lt_of_lt_of_le z3 T4.size
  have B1 := B1.below T4
  have B2 := B2.below T4
  have T4 := nxt T3 T4
  obtain ⟨g1, o1, rfl, hg1, hc1⟩ := B1.at_ (by omega)
  have q5 := hc1 0 (by simp)
  have hcap1 := B1.cap
  have hle1 := B1.le
  simp only [List.getElem_cons_zero, Nat.add_zero] at q5
  have Q5 := Lib.hid (And.intro q5 Q4.out)
  have hn0 : 0 < n1 := by omega
  have hn10 : ((n1 : Int) == 0) = false := by simp; omega
  clear Ta q5 hc1
  go_wp2_with (fail)
  refine (num13_any _ _).mono ?_
  rintro e w9 ⟨rfl, rfl⟩
  obtain ⟨⟨r1, r2, r3⟩, r4, r5, r6⟩ := Q4.out
  go_wp2_with (fail)
  refine (H4.out _ _ _ _ T4 B2).mono ?_
  rintro e w5 ⟨rfl, T5⟩
  clear r1 r2 r3 r4 r5 r6
  have r3 := (rows_below T5 (by omega) Q4.out.1).2.2
  have q5 := (T5.cell (p := ⟨g1, o1, none⟩) hg1).trans Q5.out.1
  have T5 := nxt T4 T5
  go_wp2_with (fail)
  refine (num13_any _ _).mono ?_
  rintro e w9 ⟨rfl, rfl⟩
  go_wp2_with (fail)
  refine (H6.out _ T5).mono ?_
  rintro e w10 ⟨A10, n10, c10, rfl, B10, T10⟩
  have T10 := nxt T5 T10
  have T10a := T10.alloc T10.size (.cells #[.int .i64 y1, .int .i64 y2, .slice A10 n10 c10] 24)
  have B10a := B10.alloc (.cells #[.int .i64 y1, .int .i64 y2, .slice A10 n10 c10] 24)
  go_wp2_with (fail)
  refine (num13_any _ _).mono ?_
  rintro e w11 ⟨rfl, rfl⟩
  go_wp2_with (fail)
  refine (HL.out _).mono ?_
  rintro e w12 ⟨rfl, T12⟩
  have T12 := nxt T10a T12
  go_wp2
  go_ret
  exact ⟨rfl, T12⟩
set_option maxHeartbeats 8000000 in
theorem back13_yy (C : PrC) (k l : Int) (A : Option Addr) (n c : Nat) (d : List UInt8) (A' : Option Addr) (n' c' : Nat) (b : List UInt8) (w : World) (hk : I64 k) (hl : I64 l) (hB : Bys w A n c d) (hB' : Bys w A' n' c' b) (hn' : n' ≤ 140737488355328) (hr : prRight k l n = true) (ho : prOk b = true) :
    Calls Try.prog 5 #[.agg #[.int .i64 k, .int .i64 l, .slice A n c], .slice A' n' c'] w fun e w' => e = .returned (.bool true) ∧ Below w.heap.size w w' := by
  have hlen := hB.len
  have HLEN := Lib.hid hlen
  have HL := Lib.hid (fun W => live13_any C W)
  have H1 := Lib.hid (fun W (h : Below w.heap.size w W) => C.put k l A n c d W hk hl (hB.below h))
  have H6 := Lib.hid (fun W (h : Below w.heap.size w W) => C.get A' n' c' b W (hB'.below h) hn')
  have HB' := Lib.hid (fun W (h : Below w.heap.size w W) => hB'.below h)
  obtain ⟨hp, hpo, hpk, hpl, hpd⟩ := prOk_put k l d (by rw [hlen]; exact hr)
  have hb := prHead_byte hr
  have hhl := prHead_lt hr
  have hle := prRight_le hr
  have H2 := Lib.hid (fun W B m e h hm => C.get B m e (prPut k l d) W h hm)
  rw [hpk, hpl, hpd, show prGetE (prPut k l d) = 0 by unfold prGetE; rw [hpo]; rfl] at H2
  have HF := frameW_len (prPut k l d)
  have H3 := Lib.hid (fun W a B m e (ht : Tab W a) (h : Bys W B m e (prPut k l d)) => wrap_any a B m e _ W ht h (by have := h.len; rw [hp] at this; simp at this; omega))
  unfold GivesF at H3
  have H4 := Lib.hid (fun W B m e (h : Below w.heap.size w W) h' => C.same k l A n c d k l B m e d W (hB.below h) h')
  rw [prSame_self] at H4
  rw [prErr_yes hr, hp] at H1
  rw [hp] at H2 H3 HF
  generalize frameW (UInt8.ofNat (prHead k l).toNat :: d) = F at *
  generalize hm : F.length = fm at *
  have hX : ((UInt8.ofNat (prHead k l).toNat).toNat : Int) = prHead k l := by rw [hb]; omega
  clear hb hp hpo hpk hpl hpd
  generalize UInt8.ofNat (prHead k l).toNat = x at *
  have hF : decide (2 * ((n : Int) + 5) + 2 < (fm : Int)) = false := by simp at HF; simp; omega
  have hx8 : (x.toNat : Int) < 8 := by omega
  have hx3 : ((x.toNat : Int) == 3) = false := by simp; omega
  have hx9 : decide (8 ≤ (x.toNat : Int)) = false := by simp; omega
  have hcap := hB.cap
  have hnc := hB.le
  clear HF hX hhl hm
  have hE : prGetE b = 0 := by unfold prGetE; rw [ho]; rfl
  obtain ⟨hr2, hpb⟩ := prPut_get b ho
  have H7 := Lib.hid (fun W B m e (h : Bys W B m e (prGetD b)) => C.put (prGetK b) (prGetL b) B m e (prGetD b) W (prGetK_i64 b) (prGetL_i64 b) h)
  rw [hE] at H6
  rw [hpb] at H7
  have h7 := fun W B m e (h : Bys W B m e (prGetD b)) => (show prErr (prGetK b) (prGetL b) m = 0 from prErr_yes (by rw [← h.len]; exact hr2)) ▸ H7.out W B m e h
  have H7 := Lib.hid h7
  clear h7 hE hr2 hpb
  generalize prGetK b = y1 at *
  generalize prGetL b = y2 at *
  generalize prGetD b = y3 at *
  clear hB hB' hn' hk hl hr ho hlen
  go_enter Try.func5, Try.ntmps5
  go_wp2_with (fail)
  refine (H1.out _ ((Below.refl _ w).alloc (Nat.le_refl _) _)).mono ?_
  rintro e w1 ⟨A1, n1, c1, rfl, B1, T1⟩
  have q1 := rows_of (one_row T1)
  have z1 : w.heap.size < w1.heap.size := lt_row (one_row T1)
  have T1 := nxt ((Below.refl _ w).alloc (Nat.le_refl _) _) T1
  have Q1 := Lib.hid q1
  clear q1
  go_wp2_with (fail)
  refine (num13_any _ _).mono ?_
  rintro e w9 ⟨rfl, rfl⟩
  go_wp2_with (fail)
  have hn1 : 1 ≤ n1 ∧ n1 ≤ 65 := by have h1 := B1.len; have h2 := HLEN.out; simp at h1; omega
  refine (H2.out _ _ _ _ B1 (by omega)).mono ?_
  rintro e w2 ⟨A2, n2, c2, rfl, B2, T2⟩
  have Q2 := Lib.hid (rows_below T2 z1 Q1.out)
  have z2 := Nat.lt_of_lt_of_le z1 T2.size
  have B1 := B1.below T2
  have T2 := nxt T1 T2
  go_wp2_with (fail)
  refine (new_any _).mono ?_
  rintro e w3 ⟨a, rfl, Ta, T3⟩
  have B1 := (B1.alloc _).below T3
  have B2 := (B2.alloc _).below T3
  have q3 := rows_of (one_row T3)
  have z3 : w2.heap.size < w3.heap.size := lt_row (one_row T3)
  have T3 := nxt ((Below.refl _ w2).alloc (Nat.le_refl _) _) T3
  have Q3 := Lib.hid (And.intro (rows_below T3 z2 Q2.out) q3)
  have T3 := nxt T2 T3
  clear q3
  go_wp2_with (fail)
  refine (H3.out _ _ _ _ _ Ta B1).mono ?_
  rintro e w4 ⟨g4, c4, rfl, -, T4⟩
  have Q4 := Lib.hid (And.intro (rows_below T4 (by omega) Q3.out.1) (rows_below T4 z3 Q3.out.2))
  have z4 : w2.heap.size < w4.heap.size := Nat.lt_of_lt_of_le z3 T4.size
  have B1 := B1.below T4
  have B2 := B2.below T4
  have T4 := nxt T3 T4
  obtain ⟨g1, o1, rfl, hg1, hc1⟩ := B1.at_ (by omega)
  have q5 := hc1 0 (by simp)
  have hcap1 := B1.cap
  have hle1 := B1.le
  simp only [List.getElem_cons_zero, Nat.add_zero] at q5
  have Q5 := Lib.hid (And.intro q5 Q4.out)
  have hn0 : 0 < n1 := by omega
  have hn10 : ((n1 : Int) == 0) = false := by simp; omega
  clear Ta q5 hc1
  go_wp2_with (fail)
  refine (num13_any _ _).mono ?_
  rintro e w9 ⟨rfl, rfl⟩
  obtain ⟨⟨r1, r2, r3⟩, r4, r5, r6⟩ := Q4.out
  go_wp2_with (fail)
  refine (H4.out _ _ _ _ T4 B2).mono ?_
  rintro e w5 ⟨rfl, T5⟩
  clear r1 r2 r3 r4 r5 r6
  have r3 := (rows_below T5 (by omega) Q4.out.1).2.2
  have q5 := (T5.cell (p := ⟨g1, o1, none⟩) hg1).trans Q5.out.1
  have T5 := nxt T4 T5
  go_wp2_with (fail)
  refine (num13_any _ _).mono ?_
  rintro e w9 ⟨rfl, rfl⟩
  go_wp2_with (fail)
  refine (H6.out _ T5).mono ?_
  rintro e w10 ⟨A10, n10, c10, rfl, B10, T10⟩
  have T10 := nxt T5 T10
  have T10a := T10.alloc T10.size (.cells #[.int .i64 y1, .int .i64 y2, .slice A10 n10 c10] 24)
  have B10a := B10.alloc (.cells #[.int .i64 y1, .int .i64 y2, .slice A10 n10 c10] 24)
  go_wp2_with (fail)
  refine (num13_any _ _).mono ?_
  rintro e w11 ⟨rfl, rfl⟩
  go_wp2_with (fail)
  refine (H7.out _ _ _ _ B10a).mono ?_
  rintro e w12 ⟨A12, n12, c12, rfl, B12, T12⟩
  have T12 := nxt T10a T12
  go_wp2_with (fail)
  refine (num13_any _ _).mono ?_
  rintro e w11 ⟨rfl, rfl⟩
  go_wp2_with (fail)
  refine (same_true _ _ _ _ _ _ _ _ B12 (HB'.out _ T12)).mono ?_
  rintro e w13 ⟨rfl, T13⟩
  have T13 := nxt T12 T13
  go_wp2_with (fail)
  refine (HL.out _).mono ?_
  rintro e w14 ⟨rfl, T14⟩
  have T14 := nxt T13 T14
  go_wp2
  go_ret
  exact ⟨rfl, T14⟩
theorem walk_ProbeBack (C : PrC) (k l : Int) (A : Option Addr) (n c : Nat) (d : List UInt8) (A' : Option Addr) (n' c' : Nat) (b : List UInt8) (w : World) (hk : I64 k) (hl : I64 l) (hB : Bys w A n c d) (hB' : Bys w A' n' c' b) (hn' : n' ≤ 140737488355328) :
    Calls Try.prog 5 #[.agg #[.int .i64 k, .int .i64 l, .slice A n c], .slice A' n' c'] w fun e w' => e = .returned (.bool true) ∧ Below w.heap.size w w' := by
  cases hr : prRight k l n <;> cases ho : prOk b
  · exact back13_nn C k l A n c d A' n' c' b w hk hl hB hB' hn' hr ho
  · exact back13_ny C k l A n c d A' n' c' b w hk hl hB hB' hn' hr ho
  · exact back13_yn C k l A n c d A' n' c' b w hk hl hB hB' hn' hr ho
  · exact back13_yy C k l A n c d A' n' c' b w hk hl hB hB' hn' hr ho
end Go.Proofs.Ytoaccikhklfeiaa
