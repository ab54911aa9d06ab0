/- The walk of layer 11's WeaveApart, over the contracts of weave. -/
import Derived.Test.YtenbaljjncepeaaLaws11
import Derived.Deep.QuietTactic
import Derived.BigQuiet
namespace Go.Proofs.Ytenbaljjncepeaa
open Go.RowKit

theorem placeN_lt (n rows a : Nat) (hr : 1 ≤ rows) (h : a < n) : placeN n rows a < n := by
  unfold placeN
  have hl := order_len n rows hr
  rw [List.getD_eq_getElem?_getD, List.getElem?_eq_getElem (by omega)]
  exact (mem_order hr).1 (List.getElem_mem _)
theorem placeR_full (c r a : Nat) (hr : 1 ≤ r) (hr2 : r ≤ 64) (hc : c ≤ 100) : placeR ((c * r : Nat) : Int) (r : Int) (a : Int) = if a < c * r then ((placeN (c * r) r a : Int), true) else (0, false) := by
  have hp : c * r ≤ 6400 := Nat.mul_le_mul hc hr2
  unfold placeR
  by_cases h : a < c * r
  · rw [if_pos h, if_pos (by omega), Int.toNat_natCast, Int.toNat_natCast, Int.toNat_natCast]
  · rw [if_neg h, if_neg (by omega)]
set_option maxHeartbeats 8000000 in
theorem walk_WeaveApart (C : WeC) (cc rr aa oo : Int) (w : World) (hcc : In11 cc) (hrr : In11 rr) (haa : In11 aa) (hoo : In11 oo) :
    Calls Try.prog 6 #[.agg #[.int .i64 cc, .int .i64 rr, .int .i64 aa, .int .i64 oo]] w fun e w' => e = .returned (.bool true) ∧ Below w.heap.size w w' := by
  obtain ⟨w0, hw0⟩ : ∃ w0, w0 = w.alloc (.cells #[.int .i64 cc, .int .i64 rr, .int .i64 aa, .int .i64 oo] 31) := ⟨_, rfl⟩
  have T0 : Below w.heap.size w w0 := by rw [hw0]; exact (Below.refl _ _).alloc (Nat.le_refl _) _
  have hY : w0.heap[w.heap.size]? = some (.cells #[.int .i64 cc, .int .i64 rr, .int .i64 aa, .int .i64 oo] 31 (0, 0)) := by rw [hw0]; exact heap_alloc_new w _
  have c0 : (w.alloc (.cells #[.int .i64 cc, .int .i64 rr, .int .i64 aa, .int .i64 oo] 31)).cell? ⟨w.heap.size, 0, none⟩ = some (.int .i64 cc) := by rw [← hw0]; exact cell_of_row _ _ _ _ _ _ hY
  have c1 : (w.alloc (.cells #[.int .i64 cc, .int .i64 rr, .int .i64 aa, .int .i64 oo] 31)).cell? ⟨w.heap.size, 1, none⟩ = some (.int .i64 rr) := by rw [← hw0]; exact cell_of_row _ _ _ _ _ _ hY
  have c2 : (w.alloc (.cells #[.int .i64 cc, .int .i64 rr, .int .i64 aa, .int .i64 oo] 31)).cell? ⟨w.heap.size, 2, none⟩ = some (.int .i64 aa) := by rw [← hw0]; exact cell_of_row _ _ _ _ _ _ hY
  have c3 : (w.alloc (.cells #[.int .i64 cc, .int .i64 rr, .int .i64 aa, .int .i64 oo] 31)).cell? ⟨w.heap.size, 3, none⟩ = some (.int .i64 oo) := by rw [← hw0]; exact cell_of_row _ _ _ _ _ _ hY
  have HL := Lib.hid (fun W => live11_any C W)
  have HPL := Lib.hid (fun n r a W hn hr ha => C.place n r a W hn hr ha)
  have HT0 := Lib.hid T0
  rw [hw0] at HT0
  clear hY hw0 T0
  by_cases h1 : cc < 1
  · have d1 : decide (cc < 1) = true := by simpa using h1
    clear hcc hrr haa hoo h1
    go_enter Try.func6, Try.ntmps6
    go_wp2_with (fail)
    go_quiet (fail)
    go_wp2_with (fail)
    refine (HL.out _).mono ?_
    rintro e w9 ⟨rfl, T9⟩
    have T9 := nxt (below_drewN' HT0.out _) T9
    go_wp2
    go_ret
    exact ⟨rfl, T9⟩
  have d1 : decide (cc < 1) = false := by simpa using h1
  by_cases h2 : 100 < cc
  · have d2 : decide (100 < cc) = true := by simpa using h2
    clear hcc hrr haa hoo h1 h2
    go_enter Try.func6, Try.ntmps6
    go_wp2_with (fail)
    go_quiet (fail)
    go_wp2_with (fail)
    refine (HL.out _).mono ?_
    rintro e w9 ⟨rfl, T9⟩
    have T9 := nxt (below_drewN' HT0.out _) T9
    go_wp2
    go_ret
    exact ⟨rfl, T9⟩
  have d2 : decide (100 < cc) = false := by simpa using h2
  by_cases h3 : rr < 1
  · have d3 : decide (rr < 1) = true := by simpa using h3
    clear hcc hrr haa hoo h1 h2 h3
    go_enter Try.func6, Try.ntmps6
    go_wp2_with (fail)
    go_quiet (fail)
    go_wp2_with (fail)
    refine (HL.out _).mono ?_
    rintro e w9 ⟨rfl, T9⟩
    have T9 := nxt (below_drewN' HT0.out _) T9
    go_wp2
    go_ret
    exact ⟨rfl, T9⟩
  have d3 : decide (rr < 1) = false := by simpa using h3
  by_cases h4 : 64 < rr
  · have d4 : decide (64 < rr) = true := by simpa using h4
    clear hcc hrr haa hoo h1 h2 h3 h4
    go_enter Try.func6, Try.ntmps6
    go_wp2_with (fail)
    go_quiet (fail)
    go_wp2_with (fail)
    refine (HL.out _).mono ?_
    rintro e w9 ⟨rfl, T9⟩
    have T9 := nxt (below_drewN' HT0.out _) T9
    go_wp2
    go_ret
    exact ⟨rfl, T9⟩
  have d4 : decide (64 < rr) = false := by simpa using h4
  by_cases h5 : aa < 0
  · have d5 : decide (aa < 0) = true := by simpa using h5
    clear hcc hrr haa hoo h1 h2 h3 h4 h5
    go_enter Try.func6, Try.ntmps6
    go_wp2_with (fail)
    go_quiet (fail)
    go_wp2_with (fail)
    refine (HL.out _).mono ?_
    rintro e w9 ⟨rfl, T9⟩
    have T9 := nxt (below_drewN' HT0.out _) T9
    go_wp2
    go_ret
    exact ⟨rfl, T9⟩
  have d5 : decide (aa < 0) = false := by simpa using h5
  by_cases h6 : oo < 1
  · have d6 : decide (oo < 1) = true := by simpa using h6
    clear hcc hrr haa hoo h1 h2 h3 h4 h5 h6
    go_enter Try.func6, Try.ntmps6
    go_wp2_with (fail)
    go_quiet (fail)
    go_wp2_with (fail)
    refine (HL.out _).mono ?_
    rintro e w9 ⟨rfl, T9⟩
    have T9 := nxt (below_drewN' HT0.out _) T9
    go_wp2
    go_ret
    exact ⟨rfl, T9⟩
  have d6 : decide (oo < 1) = false := by simpa using h6
  by_cases h7 : rr ≤ oo
  · have d7 : decide (rr ≤ oo) = true := by simpa using h7
    clear hcc hrr haa hoo h1 h2 h3 h4 h5 h6 h7
    go_enter Try.func6, Try.ntmps6
    go_wp2_with (fail)
    go_quiet (fail)
    go_wp2_with (fail)
    refine (HL.out _).mono ?_
    rintro e w9 ⟨rfl, T9⟩
    have T9 := nxt (below_drewN' HT0.out _) T9
    go_wp2
    go_ret
    exact ⟨rfl, T9⟩
  have d7 : decide (rr ≤ oo) = false := by simpa using h7
  obtain ⟨c, rfl⟩ := Int.eq_ofNat_of_zero_le (show 0 ≤ cc by omega)
  obtain ⟨r, rfl⟩ := Int.eq_ofNat_of_zero_le (show 0 ≤ rr by omega)
  obtain ⟨a, rfl⟩ := Int.eq_ofNat_of_zero_le (show 0 ≤ aa by omega)
  obtain ⟨o, rfl⟩ := Int.eq_ofNat_of_zero_le (show 0 ≤ oo by omega)
  have lc : c ≤ 100 := by omega
  have lc1 : 1 ≤ c := by omega
  have lr : r ≤ 64 := by omega
  have lr1 : 1 ≤ r := by omega
  have lo1 : 1 ≤ o := by omega
  have lo : o < r := by omega
  clear h1 h2 h3 h4 h5 h6 h7
  have HP1 := Lib.hid (fun a => placeR_full c r a lr1 lr lc)
  have HAP := Lib.hid (fun h => place_apart c r a o lr1 lo1 lo h)
  obtain ⟨P, hP⟩ : ∃ P, c * r = P := ⟨_, rfl⟩
  have hP6 : P ≤ 6400 := by rw [← hP]; exact Nat.mul_le_mul lc lr
  have ep : (c : Int) * (r : Int) = (P : Int) := by rw [← hP]; push_cast; rfl
  have wp : wrap64 ((c : Int) * (r : Int)) = (P : Int) := by rw [ep]; exact IntWalk.wrap64_in _ (by omega)
  rw [hP] at HP1 HAP
  clear hP
  by_cases h8 : P < a
  · have d8 : decide ((P : Int) < (a : Int)) = true := by simp; omega
    have d8n : decide (P < a) = true := by simp; omega
    clear hcc hrr haa hoo
    go_enter Try.func6, Try.ntmps6
    go_wp2_with (fail)
    go_quiet (fail)
    go_wp2_with (fail)
    refine (HL.out _).mono ?_
    rintro e w9 ⟨rfl, T9⟩
    have T9 := nxt (below_drewN' HT0.out _) T9
    go_wp2
    go_ret
    exact ⟨rfl, T9⟩
  have d8 : decide ((P : Int) < (a : Int)) = false := by simp; omega
  have d8n : decide (P < a) = false := by simp; omega
  have HA := Lib.hid (fun W => HPL.out (P : Int) (r : Int) (a : Int) W (by unfold In11; omega) (by unfold In11; omega) (by unfold In11; omega))
  have HB := Lib.hid (fun W => HPL.out (P : Int) (r : Int) ((a : Int) + (o : Int)) W (by unfold In11; omega) (by unfold In11; omega) (by unfold In11; omega))
  rw [HP1.out a] at HA
  rw [show (a : Int) + (o : Int) = ((a + o : Nat) : Int) by push_cast; rfl, HP1.out (a + o)] at HB
  have eao : ((a + o : Nat) : Int) = (a : Int) + (o : Int) := by push_cast; rfl
  rw [eao] at HB
  clear hcc hrr haa hoo HPL
  by_cases ha : a < P
  · rw [if_pos ha] at HA
    have i1 : decide ((a : Int) < (P : Int)) = true := by simp; omega
    have i1n : decide (a < P) = true := by simp; omega
    by_cases hb : a + o < P
    · rw [if_pos hb] at HB
      have i2 : decide ((a : Int) + (o : Int) < (P : Int)) = true := by simp; omega
      have hap := HAP.out hb
      have zla := placeN_lt P r a lr1 ha
      have zlb := placeN_lt P r (a + o) lr1 hb
      generalize placeN P r a = za at *
      generalize placeN P r (a + o) = zb at *
      obtain ⟨t1, d10⟩ : ∃ t, decide ((c : Int) - 1 ≤ (za : Int) - (zb : Int)) = t := ⟨_, rfl⟩
      obtain ⟨t2, d11⟩ : ∃ t, decide ((c : Int) - 1 ≤ (zb : Int) - (za : Int)) = t := ⟨_, rfl⟩
      have ht : t1 = true ∨ t2 = true := by
        rw [← d10, ← d11]
        simpa using hap
      clear hap HAP
      cases t1 <;> cases t2
      · simp at ht
      all_goals
        clear ht
        go_enter Try.func6, Try.ntmps6
        go_wp2_with (fail)
        go_quiet (fail)
        go_wp2_with (fail)
        refine (HA.out _).mono ?_
        rintro e w1 ⟨rfl, T1⟩
        have T1 := nxt (below_drewN' HT0.out _) T1
        go_wp2_with (fail)
        refine (HB.out _).mono ?_
        rintro e w2 ⟨rfl, T2⟩
        have T2 := nxt T1 T2
        go_wp2_with (fail)
        refine (HL.out _).mono ?_
        rintro e w9 ⟨rfl, T9⟩
        have T9 := nxt T2 T9
        go_wp2
        go_ret
        exact ⟨rfl, T9⟩
    · rw [if_neg hb] at HB
      have i2 : decide ((a : Int) + (o : Int) < (P : Int)) = false := by simp; omega
      clear HAP
      go_enter Try.func6, Try.ntmps6
      go_wp2_with (fail)
      go_quiet (fail)
      go_wp2_with (fail)
      refine (HA.out _).mono ?_
      rintro e w1 ⟨rfl, T1⟩
      have T1 := nxt (below_drewN' HT0.out _) T1
      go_wp2_with (fail)
      refine (HB.out _).mono ?_
      rintro e w2 ⟨rfl, T2⟩
      have T2 := nxt T1 T2
      go_wp2_with (fail)
      refine (HL.out _).mono ?_
      rintro e w9 ⟨rfl, T9⟩
      have T9 := nxt T2 T9
      go_wp2
      go_ret
      exact ⟨rfl, T9⟩
  · rw [if_neg ha] at HA
    rw [if_neg (show ¬ a + o < P by omega)] at HB
    have i1 : decide ((a : Int) < (P : Int)) = false := by simp; omega
    have i1n : decide (a < P) = false := by simp; omega
    have i2 : decide ((a : Int) + (o : Int) < (P : Int)) = false := by simp; omega
    clear HAP
    go_enter Try.func6, Try.ntmps6
    go_wp2_with (fail)
    go_quiet (fail)
    go_wp2_with (fail)
    refine (HA.out _).mono ?_
    rintro e w1 ⟨rfl, T1⟩
    have T1 := nxt (below_drewN' HT0.out _) T1
    go_wp2_with (fail)
    refine (HB.out _).mono ?_
    rintro e w2 ⟨rfl, T2⟩
    have T2 := nxt T1 T2
    go_wp2_with (fail)
    refine (HL.out _).mono ?_
    rintro e w9 ⟨rfl, T9⟩
    have T9 := nxt T2 T9
    go_wp2
    go_ret
    exact ⟨rfl, T9⟩
end Go.Proofs.Ytenbaljjncepeaa
