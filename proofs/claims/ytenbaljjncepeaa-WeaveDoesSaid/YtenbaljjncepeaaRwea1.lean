/- What kedgeref11's right, Order and Bits answer. -/
import Derived.Test.YtenbaljjncepeaaIntV
import Derived.Test.YtenbaljjncepeaaWeaveM
namespace Go.Proofs.Ytenbaljjncepeaa
open Go.RowKit

set_option maxHeartbeats 1000000 in
theorem right_any (n rows : Int) (w : World) :
    Calls Try.prog 17 #[.int .i64 n, .int .i64 rows] w fun e w' => e = .returned (.bool (decide (0 ≤ n ∧ n ≤ 65536 ∧ 1 ≤ rows ∧ rows ≤ 64))) ∧ w = w' := by
  obtain ⟨t1, d1⟩ : ∃ t, decide (0 ≤ n) = t := ⟨_, rfl⟩
  obtain ⟨t2, d2⟩ : ∃ t, decide (n ≤ 65536) = t := ⟨_, rfl⟩
  obtain ⟨t3, d3⟩ : ∃ t, decide (1 ≤ rows) = t := ⟨_, rfl⟩
  obtain ⟨t4, d4⟩ : ∃ t, decide (rows ≤ 64) = t := ⟨_, rfl⟩
  have HR : Hid (decide (0 ≤ n ∧ n ≤ 65536 ∧ 1 ≤ rows ∧ rows ≤ 64) = (t1 && (t2 && (t3 && t4)))) := by
    show _ = _
    rw [← d1, ← d2, ← d3, ← d4, Bool.decide_and, Bool.decide_and, Bool.decide_and]
  generalize decide (0 ≤ n ∧ n ≤ 65536 ∧ 1 ≤ rows ∧ rows ≤ 64) = R at *
  cases t1 <;> cases t2 <;> cases t3 <;> cases t4
  all_goals
    have HR := HR
    go_enter Try.func17, Try.ntmps17
    go_wp2
    go_ret
    exact ⟨by rw [HR.out]; rfl, rfl⟩
theorem colL_le (n cols c k : Nat) : (colL n cols c k).length ≤ k := by
  unfold colL
  rw [List.length_map]
  exact Nat.le_trans (List.length_filter_le _ _) (by simp)
theorem orderK_le (n rows cols k : Nat) : (orderK n rows cols k).length ≤ k * rows := by
  induction k with
  | zero => simp [orderK]
  | succ k ih =>
    have := colL_le n cols k rows
    rw [orderK_succ, List.length_append, Nat.add_mul]
    omega
theorem colsN_le (n rows : Nat) (hr : 1 ≤ rows) : colsN n rows ≤ n := by
  rcases Nat.eq_zero_or_pos (colsN n rows) with h | h
  · omega
  · have := colsN_lt n rows (colsN n rows - 1) hr (by omega)
    have h2 : colsN n rows - 1 ≤ (colsN n rows - 1) * rows := Nat.le_mul_of_pos_right _ (by omega)
    omega
theorem colL_in {n cols c k q : Nat} (hq : k * cols = q) (h : q + c < n) : colL n cols c (k + 1) = colL n cols c k ++ [q + c] := by subst hq; rw [colL_succ, if_pos h]
theorem colL_out {n cols c k q : Nat} (hq : k * cols = q) (h : ¬ q + c < n) : colL n cols c (k + 1) = colL n cols c k := by subst hq; rw [colL_succ, if_neg h]
set_option maxHeartbeats 4000000 in
theorem order_any (n rows : Nat) (w : World) (hn : n ≤ 65536) (hr : 1 ≤ rows) (hr2 : rows ≤ 64) :
    Calls Try.prog 18 #[.int .i64 (n : Int), .int .i64 (rows : Int)] w (GivesI w (orderW n rows)) := by
  obtain ⟨C, hC⟩ : ∃ C, colsN n rows = C := ⟨_, rfl⟩
  have hC1 : n ≤ C * rows := by rw [← hC]; exact colsN_ge n rows hr
  have hC2 : ∀ c, c < C → c * rows < n := fun c h => colsN_lt n rows c hr (by rw [hC]; exact h)
  have hC3 : C ≤ 65536 := by have := colsN_le n rows hr; omega
  have HO : Hid (orderW n rows = orderK n rows C C) := by show _ = _; unfold orderW; rw [hC]
  have HC1 := Lib.hid hC1
  have HC2 := Lib.hid hC2
  clear hC hC1 hC2
  go_enter Try.func18, Try.ntmps18
  go_wp2_with (fail)
  go_loopw [5] (fun i wr => ∃ c : Nat, c ≤ C ∧ i = .int .i64 (c : Int) ∧ w = wr) (fun i _ => C - (intOf i).toNat)
  case atStart => exact ⟨0, Nat.zero_le _, rfl, rfl⟩
  case round =>
    obtain ⟨c, hc, rfl, rfl⟩ := hrel
    obtain ⟨p, hp⟩ : ∃ p, c * rows = p := ⟨_, rfl⟩
    have ep : (c : Int) * (rows : Int) = (p : Int) := by rw [← hp]; push_cast; rfl
    have hpb : p ≤ 4194304 := by rw [← hp]; exact Nat.mul_le_mul (show c ≤ 65536 by omega) hr2
    have wp : wrap64 ((c : Int) * (rows : Int)) = (p : Int) := by rw [ep]; exact IntWalk.wrap64_in _ (by omega)
    by_cases hlt : c < C
    · have h2 := HC2.out c hlt
      rw [hp] at h2
      have d1 : decide ((p : Int) < (n : Int)) = true := by simp; omega
      clear hp
      go_wp2
      go_roundw
      case rel => exact ⟨c + 1, by omega, by go_num, trivial⟩
      case measure => simp [intOf]; omega
    · obtain rfl : c = C := by omega
      have h2 := HC1.out
      rw [hp] at h2
      have d1 : decide ((p : Int) < (n : Int)) = false := by simp; omega
      have d1n : decide (p < n) = false := by simp; omega
      clear hp HC1 HC2
      go_wp2_with (fail)
      clear ep wp hpb
      go_loopw [6, 7] (fun v i wr => ∃ k : Nat, k ≤ c ∧ i = .int .i64 (k : Int) ∧ OwnI wr w.heap.size v (orderK n rows c k) ∧ Below w.heap.size w wr) (fun _ i _ => c - (intOf i).toNat)
      case atStart => exact ⟨0, Nat.zero_le _, rfl, OwnI.nil _ _, Below.refl _ _⟩
      case round =>
        obtain ⟨k, hk, rfl, hown, hbel⟩ := hrel
        by_cases hkc : k < c
        · have d2 : decide ((k : Int) < (c : Int)) = true := by simp; omega
          have hkl := orderK_le n rows c k
          have hkb : k * rows ≤ 4194304 := Nat.mul_le_mul (show k ≤ 65536 by omega) hr2
          have hol : (orderK n rows c k).length ≤ 4194304 := by omega
          have HS := Lib.hid (orderK_succ n rows c k)
          have HON := Lib.hid hown
          clear hown hkl hkb
          generalize hcur : orderK n rows c k = cur at *
          have HON0 : Hid (OwnI wr w.heap.size u6 (cur ++ colL n c k 0)) := by
            have e : cur ++ colL n c k 0 = cur := List.append_nil _
            show OwnI _ _ _ _
            rw [e]
            exact HON.out
          go_wp2_with (fail)
          go_loopw [6, 8] (fun v i w2 => ∃ r : Nat, r ≤ rows ∧ i = .int .i64 (r : Int) ∧ OwnI w2 w.heap.size v (cur ++ colL n c k r) ∧ Below w.heap.size w w2) (fun _ i _ => rows - (intOf i).toNat)
          case atStart => exact ⟨0, Nat.zero_le _, rfl, HON0.out, hbel⟩
          case round =>
            obtain ⟨r, hrr, rfl, hown, hbel2⟩ := hrel
            by_cases hlr : r < rows
            · have d3 : decide ((r : Int) < (rows : Int)) = true := by simp; omega
              obtain ⟨q, hq⟩ : ∃ q, r * c = q := ⟨_, rfl⟩
              have eqq : (r : Int) * (c : Int) = (q : Int) := by rw [← hq]; push_cast; rfl
              have hqb : q ≤ 4194304 := by rw [← hq]; exact Nat.mul_le_mul (show r ≤ 64 by omega) (show c ≤ 65536 by omega)
              have wq : wrap64 ((r : Int) * (c : Int)) = (q : Int) := by rw [eqq]; exact IntWalk.wrap64_in _ (by omega)
              have hcl := colL_le n c k r
              by_cases hin : q + k < n
              · have hcs := colL_in hq hin
                obtain ⟨z, hz⟩ : ∃ z, q + k = z := ⟨_, rfl⟩
                have ez : (q : Int) + (k : Int) = (z : Int) := by rw [← hz]; push_cast; rfl
                rw [hz] at hcs
                have HCS : Hid (cur ++ colL n c k (r + 1) = (cur ++ colL n c k r) ++ [z]) := by show _ = _; rw [hcs, List.append_assoc]
                have hzn : z < n := by rw [← hz]; exact hin
                have hzb : z ≤ 9000000 := Nat.le_trans (Nat.le_of_lt hzn) (Nat.le_trans hn (by decide))
                clear hcs hz hq
                have hcurl : (cur ++ colL n c k r).length ≤ 9000000 := by rw [List.length_append]; exact Nat.le_trans (Nat.add_le_add hol (Nat.le_trans hcl (Nat.le_trans hrr hr2))) (by decide)
                generalize cur ++ colL n c k r = cc at *
                have HOO := Lib.hid hown
                have hsz := hbel2.size
                clear hown
                go_wp2_with ((with_reducible refine app_i _ rfl (.tmp 33) (.tmp 39) rfl w.heap.size u6 cc rfl ?_ wr.heap.size z rfl ?_ ?_ ?_ ?_); (exact HOO.out.below ((Below.refl _ _).alloc (Nat.le_refl _) _)); (exact heap_alloc_new wr _); (omega); (simp; omega); intro v3 w3 hown3 hgrow3 hwhere3; have HO3 := Lib.hid (And.intro hown3 hgrow3); clear hown3 hgrow3 hwhere3)
                go_roundw
                case rel =>
                  refine ⟨r + 1, by omega, by go_num, ?_, ?_⟩
                  · rw [HCS.out]
                    exact HO3.out.1
                  · exact (hbel2.alloc hsz _).grown HO3.out.2 (by simp; omega) (fun g hg => (HOO.out.lt g hg).1)
                case measure => simp [intOf]; omega
              · have hcs := colL_out hq hin
                obtain ⟨z, hz⟩ : ∃ z, q + k = z := ⟨_, rfl⟩
                have ez : (q : Int) + (k : Int) = (z : Int) := by rw [← hz]; push_cast; rfl
                have hzn : n ≤ z := by rw [← hz]; exact Nat.le_of_not_lt hin
                have hzb : z ≤ 9000000 := by rw [← hz]; exact Nat.le_trans (Nat.add_le_add hqb (Nat.le_trans hk hC3)) (by decide)
                have HCS := Lib.hid hcs
                have HOO := Lib.hid hown
                clear hcs hz hq hown hin hcl
                go_wp2
                go_roundw
                case rel => exact ⟨r + 1, by omega, by go_num, by rw [HCS.out]; exact HOO.out, hbel2⟩
                case measure => simp [intOf]; omega
            · have d3 : decide ((r : Int) < (rows : Int)) = false := by simp; omega
              obtain rfl : r = rows := by omega
              rw [← HS.out] at hown
              have HOO := Lib.hid hown
              clear hown
              go_wp2
              go_roundw
              case rel => exact ⟨k + 1, by omega, by go_num, HOO.out, hbel2⟩
              case measure => simp [intOf]; omega
        · have d2 : decide ((k : Int) < (c : Int)) = false := by simp; omega
          obtain rfl : k = c := by omega
          rw [← HO.out] at hown
          have HOO := Lib.hid hown
          clear hown
          go_wp2
          go_ret
          exact ⟨_, rfl, HOO.out, hbel⟩
end Go.Proofs.Ytenbaljjncepeaa
