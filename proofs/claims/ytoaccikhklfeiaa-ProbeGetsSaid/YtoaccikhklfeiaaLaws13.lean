/- The walks of layer 13's ProbePuts and ProbeGets, over the contracts of probe. -/
import Derived.Test.YtoaccikhklfeiaaPrC
import Derived.Deep.RegionHeld3
namespace Go.Proofs.Ytoaccikhklfeiaa
open Go.RowKit
set_option maxRecDepth 20000

set_option maxHeartbeats 4000000 in
theorem walk_ProbePuts (C : PrC) (k l : Int) (A : Option Addr) (n c : Nat) (d : List UInt8) (w : World) (hk : I64 k) (hl : I64 l) (hB : Bys w A n c d) :
    Calls Try.prog 3 #[.agg #[.int .i64 k, .int .i64 l, .slice A n c]] w fun e w' => e = .returned (.bool true) ∧ Below w.heap.size w w' := by
  have H1 := Lib.hid (fun W (h : Below w.heap.size w W) => C.put k l A n c d W hk hl (hB.below h))
  have H2 := Lib.hid (fun W (h : Below w.heap.size w W) => rpput_any k l A n c d W (hB.below h))
  have HL := Lib.hid (fun W => live13_any C W)
  generalize prErr k l n = r at *
  generalize prPut k l d = p at *
  have e1 : (r == r) = true := by simp
  clear hk hl hB
  go_enter Try.func3, Try.ntmps3
  go_wp2_with (fail)
  refine (H1.out _ ((Below.refl _ w).alloc (Nat.le_refl _) _)).mono ?_
  rintro e w1 ⟨A1, n1, c1, rfl, B1, T1⟩
  obtain ⟨q1, q2, q3⟩ := rows_of (one_row T1)
  have T1 := nxt ((Below.refl _ w).alloc (Nat.le_refl _) _) T1
  go_wp2_with (fail)
  refine (H2.out _ T1).mono ?_
  rintro e w2 ⟨A2, n2, c2, rfl, B2, T2⟩
  have B1 := B1.below T2
  have T2 := nxt T1 T2
  go_wp2_with (fail)
  refine (num13_any _ _).mono ?_
  rintro e w3 ⟨rfl, rfl⟩
  go_wp2_with (fail)
  refine (same_true _ _ _ _ _ _ _ _ B1 B2).mono ?_
  rintro e w3 ⟨rfl, T3⟩
  have T3 := nxt T2 T3
  clear B1 B2
  go_wp2_with (fail)
  refine (HL.out _).mono ?_
  rintro e w4 ⟨rfl, T4⟩
  have T4 := nxt T3 T4
  go_wp2
  go_ret
  exact ⟨rfl, T4⟩
set_option maxHeartbeats 4000000 in
theorem walk_ProbeGets (C : PrC) (A : Option Addr) (n c : Nat) (b : List UInt8) (k l : Int) (A' : Option Addr) (n' c' : Nat) (d : List UInt8) (k' l' : Int) (A'' : Option Addr) (n'' c'' : Nat) (d' : List UInt8) (w : World) (hB : Bys w A n c b) (hn : n ≤ 140737488355328) (hB' : Bys w A' n' c' d) (hB'' : Bys w A'' n'' c'' d') :
    Calls Try.prog 4 #[.slice A n c, .agg #[.int .i64 k, .int .i64 l, .slice A' n' c'], .agg #[.int .i64 k', .int .i64 l', .slice A'' n'' c'']] w fun e w' => e = .returned (.bool true) ∧ Below w.heap.size w w' := by
  have H1 := Lib.hid (fun W (h : Below w.heap.size w W) => C.get A n c b W (hB.below h) hn)
  have H2 := Lib.hid (fun W (h : Below w.heap.size w W) => rpget_any A n c b W (hB.below h) hn)
  have HL := Lib.hid (fun W => live13_any C W)
  have H3 := Lib.hid (fun W (h : Below w.heap.size w W) => C.same k l A' n' c' d k' l' A'' n'' c'' d' W (hB'.below h) (hB''.below h))
  have H4 := Lib.hid (fun W (h : Below w.heap.size w W) => rpsame_any k l A' n' c' d k' l' A'' n'' c'' d' W (hB'.below h) (hB''.below h))
  have H5 := Lib.hid (fun W (h : Below w.heap.size w W) => C.same k l A' n' c' d k l A' n' c' d W (hB'.below h) (hB'.below h))
  have H6 := Lib.hid (fun W B m e B' m' e' h h' => rpsame_any (prGetK b) (prGetL b) B m e (prGetD b) (prGetK b) (prGetL b) B' m' e' (prGetD b) W h h')
  rw [prSame_self] at H5
  simp only [prSame_self] at H6
  generalize prGetE b = r at *
  generalize prGetK b = x1 at *
  generalize prGetL b = x2 at *
  generalize prGetD b = x3 at *
  generalize prSame k l d k' l' d' = t at *
  have e1 : (r == r) = true := by simp
  have e2 : (t == t) = true := by simp
  clear hB hB' hB'' hn
  go_enter Try.func4, Try.ntmps4
  go_wp2_with (fail)
  refine (H1.out _ (((Below.refl _ w).alloc (Nat.le_refl _) _).alloc (by simp) _)).mono ?_
  rintro e w1 ⟨A1, n1, c1, rfl, B1, T1⟩
  have q4 := rows_of (two_rows T1).1
  have q5 := rows_of (two_rows T1).2
  have z5 : w.heap.size + 1 < w1.heap.size := lt_row (two_rows T1).2
  have T1 := nxt (((Below.refl _ w).alloc (Nat.le_refl _) _).alloc (by simp) _) T1
  have Q := Lib.hid (And.intro q4 q5)
  clear q4 q5
  go_wp2_with (fail)
  refine (H2.out _ (T1.alloc T1.size _)).mono ?_
  rintro e w2 ⟨A2, n2, c2, rfl, B2, T2⟩
  have q7 := rows_of (one_row T2)
  have z7 : w1.heap.size < w2.heap.size := lt_row (one_row T2)
  have B1 := (B1.alloc _).below T2
  have T2 := nxt ((Below.refl _ w1).alloc (Nat.le_refl _) _) T2
  have Q2 := Lib.hid (And.intro (And.intro (rows_below T2 (by omega) Q.out.1) (rows_below T2 (by omega) Q.out.2)) q7)
  have T2 := nxt T1 T2
  clear q7
  go_wp2_with (fail)
  have Q3 : Hid (((((w2.alloc (.cells #[.int .i64 x1, .int .i64 x2, .slice A2 n2 c2] 24)).cell? ⟨w.heap.size, 0, none⟩ = some (.int .i64 k) ∧ (w2.alloc (.cells #[.int .i64 x1, .int .i64 x2, .slice A2 n2 c2] 24)).cell? ⟨w.heap.size, 1, none⟩ = some (.int .i64 l) ∧ (w2.alloc (.cells #[.int .i64 x1, .int .i64 x2, .slice A2 n2 c2] 24)).cell? ⟨w.heap.size, 2, none⟩ = some (Value.slice A' n' c')) ∧ (w2.alloc (.cells #[.int .i64 x1, .int .i64 x2, .slice A2 n2 c2] 24)).cell? ⟨w.heap.size + 1, 0, none⟩ = some (Value.int .i64 k') ∧ (w2.alloc (.cells #[.int .i64 x1, .int .i64 x2, .slice A2 n2 c2] 24)).cell? ⟨w.heap.size + 1, 1, none⟩ = some (Value.int .i64 l') ∧ (w2.alloc (.cells #[.int .i64 x1, .int .i64 x2, .slice A2 n2 c2] 24)).cell? ⟨w.heap.size + 1, 2, none⟩ = some (Value.slice A'' n'' c'')) ∧ (w2.alloc (.cells #[.int .i64 x1, .int .i64 x2, .slice A2 n2 c2] 24)).cell? ⟨w1.heap.size, 0, none⟩ = some (Value.int .i64 x1) ∧ (w2.alloc (.cells #[.int .i64 x1, .int .i64 x2, .slice A2 n2 c2] 24)).cell? ⟨w1.heap.size, 1, none⟩ = some (Value.int .i64 x2) ∧ (w2.alloc (.cells #[.int .i64 x1, .int .i64 x2, .slice A2 n2 c2] 24)).cell? ⟨w1.heap.size, 2, none⟩ = some (Value.slice A1 n1 c1)) ∧ (w2.alloc (.cells #[.int .i64 x1, .int .i64 x2, .slice A2 n2 c2] 24)).cell? ⟨w2.heap.size, 0, none⟩ = some (Value.int .i64 x1) ∧ (w2.alloc (.cells #[.int .i64 x1, .int .i64 x2, .slice A2 n2 c2] 24)).cell? ⟨w2.heap.size, 1, none⟩ = some (Value.int .i64 x2) ∧ (w2.alloc (.cells #[.int .i64 x1, .int .i64 x2, .slice A2 n2 c2] 24)).cell? ⟨w2.heap.size, 2, none⟩ = some (Value.slice A2 n2 c2)) :=
    ⟨⟨⟨rows_below ((Below.refl _ w2).alloc (Nat.le_refl _) _) (by omega) Q2.out.1.1, rows_below ((Below.refl _ w2).alloc (Nat.le_refl _) _) (by omega) Q2.out.1.2⟩, rows_below ((Below.refl _ w2).alloc (Nat.le_refl _) _) (by omega) Q2.out.2⟩, rows_of (heap_alloc_new w2 _)⟩
  have T3 := T2.alloc T2.size (.cells #[.int .i64 x1, .int .i64 x2, .slice A2 n2 c2] 24)
  have B1 := B1.alloc (.cells #[.int .i64 x1, .int .i64 x2, .slice A2 n2 c2] 24)
  have B2 := B2.alloc (.cells #[.int .i64 x1, .int .i64 x2, .slice A2 n2 c2] 24)
  have z3 : w2.heap.size < (w2.alloc (.cells #[.int .i64 x1, .int .i64 x2, .slice A2 n2 c2] 24)).heap.size := by simp
  have KEEP : Hid (∀ W W', Below W.heap.size W W' → w2.heap.size < W.heap.size → ((((W.cell? ⟨w.heap.size, 0, none⟩ = some (.int .i64 k) ∧ W.cell? ⟨w.heap.size, 1, none⟩ = some (.int .i64 l) ∧ W.cell? ⟨w.heap.size, 2, none⟩ = some (Value.slice A' n' c')) ∧ W.cell? ⟨w.heap.size + 1, 0, none⟩ = some (Value.int .i64 k') ∧ W.cell? ⟨w.heap.size + 1, 1, none⟩ = some (Value.int .i64 l') ∧ W.cell? ⟨w.heap.size + 1, 2, none⟩ = some (Value.slice A'' n'' c'')) ∧ W.cell? ⟨w1.heap.size, 0, none⟩ = some (Value.int .i64 x1) ∧ W.cell? ⟨w1.heap.size, 1, none⟩ = some (Value.int .i64 x2) ∧ W.cell? ⟨w1.heap.size, 2, none⟩ = some (Value.slice A1 n1 c1)) ∧ W.cell? ⟨w2.heap.size, 0, none⟩ = some (Value.int .i64 x1) ∧ W.cell? ⟨w2.heap.size, 1, none⟩ = some (Value.int .i64 x2) ∧ W.cell? ⟨w2.heap.size, 2, none⟩ = some (Value.slice A2 n2 c2)) → ((((W'.cell? ⟨w.heap.size, 0, none⟩ = some (.int .i64 k) ∧ W'.cell? ⟨w.heap.size, 1, none⟩ = some (.int .i64 l) ∧ W'.cell? ⟨w.heap.size, 2, none⟩ = some (Value.slice A' n' c')) ∧ W'.cell? ⟨w.heap.size + 1, 0, none⟩ = some (Value.int .i64 k') ∧ W'.cell? ⟨w.heap.size + 1, 1, none⟩ = some (Value.int .i64 l') ∧ W'.cell? ⟨w.heap.size + 1, 2, none⟩ = some (Value.slice A'' n'' c'')) ∧ W'.cell? ⟨w1.heap.size, 0, none⟩ = some (Value.int .i64 x1) ∧ W'.cell? ⟨w1.heap.size, 1, none⟩ = some (Value.int .i64 x2) ∧ W'.cell? ⟨w1.heap.size, 2, none⟩ = some (Value.slice A1 n1 c1)) ∧ W'.cell? ⟨w2.heap.size, 0, none⟩ = some (Value.int .i64 x1) ∧ W'.cell? ⟨w2.heap.size, 1, none⟩ = some (Value.int .i64 x2) ∧ W'.cell? ⟨w2.heap.size, 2, none⟩ = some (Value.slice A2 n2 c2))) := fun W W' T z q => ⟨⟨⟨rows_below T (by omega) q.1.1.1, rows_below T (by omega) q.1.1.2⟩, rows_below T (by omega) q.1.2⟩, rows_below T z q.2⟩
  generalize (w2.alloc (.cells #[.int .i64 x1, .int .i64 x2, .slice A2 n2 c2] 24)) = W3 at *
  go_region_held3 (fun w' => (((w'.cell? ⟨w.heap.size, 0, none⟩ = some (.int .i64 k) ∧ w'.cell? ⟨w.heap.size, 1, none⟩ = some (.int .i64 l) ∧ w'.cell? ⟨w.heap.size, 2, none⟩ = some (Value.slice A' n' c')) ∧ w'.cell? ⟨w.heap.size + 1, 0, none⟩ = some (Value.int .i64 k') ∧ w'.cell? ⟨w.heap.size + 1, 1, none⟩ = some (Value.int .i64 l') ∧ w'.cell? ⟨w.heap.size + 1, 2, none⟩ = some (Value.slice A'' n'' c'')) ∧ w'.cell? ⟨w1.heap.size, 0, none⟩ = some (Value.int .i64 x1) ∧ w'.cell? ⟨w1.heap.size, 1, none⟩ = some (Value.int .i64 x2) ∧ w'.cell? ⟨w1.heap.size, 2, none⟩ = some (Value.slice A1 n1 c1)) ∧ w'.cell? ⟨w2.heap.size, 0, none⟩ = some (Value.int .i64 x1) ∧ w'.cell? ⟨w2.heap.size, 1, none⟩ = some (Value.int .i64 x2) ∧ w'.cell? ⟨w2.heap.size, 2, none⟩ = some (Value.slice A2 n2 c2)) (first | exact Q3.out | exact Q4.out | exact Q5.out | exact Q6.out | exact Q7.out | exact Q8.out)
    (first
      | (go_at_call 8; (with_reducible refine (num13_any _ _).mono ?_); rintro e w3 ⟨rfl, rfl⟩)
      | (go_at_call_of 13 (Value.agg #[.int .i64 x1, .int .i64 x2, .slice A1 n1 c1]); (with_reducible refine (H6.out _ _ _ _ _ _ _ B1.drew B2.drew).mono ?_); rintro e w4 ⟨rfl, T4⟩; have T4 := undrew T4; have Q4 := Lib.hid (KEEP.out _ _ T4 z3 Q3.out); have z4 := Nat.lt_of_lt_of_le z3 T4.size; have T4 := nxt T3 T4)
      | (go_at_call_of 14 (Value.agg #[.int .i64 k', .int .i64 l', .slice A'' n'' c'']); (with_reducible refine (H3.out _ T4).mono ?_); rintro e w5 ⟨rfl, T5⟩; have Q5 := Lib.hid (KEEP.out _ _ T5 z4 Q4.out); have z5 := Nat.lt_of_lt_of_le z4 T5.size; have T5 := nxt T4 T5)
      | (go_at_call_of 13 (Value.agg #[.int .i64 k', .int .i64 l', .slice A'' n'' c'']); (with_reducible refine (H4.out _ T5).mono ?_); rintro e w6 ⟨rfl, T6⟩; have Q6 := Lib.hid (KEEP.out _ _ T6 z5 Q5.out); have z6 := Nat.lt_of_lt_of_le z5 T6.size; have T6 := nxt T5 T6)
      | (go_at_call_of 14 (Value.agg #[.int .i64 k, .int .i64 l, .slice A' n' c']); (with_reducible refine (H5.out _ T6).mono ?_); rintro e w7 ⟨rfl, T7⟩; have Q7 := Lib.hid (KEEP.out _ _ T7 z6 Q6.out); have z7 := Nat.lt_of_lt_of_le z6 T7.size; have T7 := nxt T6 T7)
      | (go_at_call 10; (with_reducible refine (HL.out _).mono ?_); rintro e w8 ⟨rfl, T8⟩; have Q8 := Lib.hid (KEEP.out _ _ T8 z7 Q7.out); have T8 := nxt T7 T8))
  go_wp2
  go_ret
  exact ⟨rfl, T8⟩
end Go.Proofs.Ytoaccikhklfeiaa
