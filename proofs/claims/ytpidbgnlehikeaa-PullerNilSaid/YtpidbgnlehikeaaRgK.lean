/- Contracts of the landed ring: Check, Mod, Near, Ahead. -/
import Derived.Test.YtpidbgnlehikeaaLaws22
namespace Go.Proofs.Ytpidbgnlehikeaa
open Go.RowKit
set_option maxRecDepth 20000

theorem rgScan_app (base seq m : Int) (a b i : Nat) : rgScan base seq m (a + b) i = (rgScan base seq m a i).orElse (fun _ => rgScan base seq m b (i + a)) := by
  induction a generalizing i with
  | zero => rw [Nat.zero_add]; rfl
  | succ a ih =>
    rw [show a + 1 + b = (a + b) + 1 by omega]
    by_cases h : rgMod (base + i) m = seq
    · rw [rgScan_hit _ _ _ _ _ h, rgScan_hit _ _ _ _ _ h]
      rfl
    · rw [rgScan_step _ _ _ _ _ h, rgScan_step _ _ _ _ _ h, ih, show i + 1 + a = i + (a + 1) by omega]
theorem rgScan_none (base seq m : Int) (n i : Nat) : rgScan base seq m n i = none → ∀ k, i ≤ k → k < i + n → rgMod (base + (k : Nat)) m ≠ seq := by
  induction n generalizing i with
  | zero => intro _ k h1 h2; omega
  | succ n ih =>
    intro h k h1 h2
    by_cases hq : rgMod (base + i) m = seq
    · rw [rgScan_hit _ _ _ _ _ hq] at h
      cases h
    · rw [rgScan_step _ _ _ _ _ hq] at h
      by_cases hk : k = i
      · subst hk
        exact hq
      · exact ih (i + 1) h k (by omega) (by omega)
theorem rgScan_no (base seq m : Int) (n i : Nat) (h : ∀ k, i ≤ k → k < i + n → rgMod (base + (k : Nat)) m ≠ seq) : rgScan base seq m n i = none := by
  induction n generalizing i with
  | zero => rfl
  | succ n ih =>
    rw [rgScan_step _ _ _ _ _ (h i (Nat.le_refl _) (by omega))]
    exact ih (i + 1) (fun k h1 h2 => h k (by omega) (by omega))
/-- behind m places come the same numbers again -/
theorem rgScan_min (base seq : Int) (S M : Nat) (hM : 1 ≤ M) : rgScan base seq (M : Int) S 0 = rgScan base seq (M : Int) (min S M) 0 := by
  rcases Nat.le_total S M with h | h
  · rw [Nat.min_eq_left h]
  · rw [Nat.min_eq_right h]
    obtain ⟨b, rfl⟩ := Nat.exists_eq_add_of_le h
    rw [rgScan_app]
    cases hs : rgScan base seq (M : Int) M 0 with
    | some p => rfl
    | none =>
      have hn := rgScan_none base seq M M 0 hs
      show rgScan base seq (M : Int) b (0 + M) = none
      refine rgScan_no _ _ _ _ _ fun k _ _ => ?_
      have hk := hn (k % M) (Nat.zero_le _) (by have := Nat.mod_lt k (show 0 < M by omega); omega)
      intro he
      refine hk (Eq.trans ?_ he)
      unfold rgMod
      rw [if_neg (by omega), if_neg (by omega)]
      have e : (base + (k : Int)) = base + ((k % M : Nat) : Int) + (M : Int) * ((k / M : Nat) : Int) := by
        have := Nat.mod_add_div k M
        have h2 : ((k % M + M * (k / M) : Nat) : Int) = (k : Int) := by rw [this]
        rw [Int.natCast_add, Int.natCast_mul] at h2
        omega
      rw [e, Int.add_mul_emod_self_left]

set_option maxHeartbeats 2000000 in
theorem within_any (n a b : Int) (w : World) :
    Calls Try.prog 54 #[.int .i64 n, .int .i64 a, .int .i64 b] w fun e w' => e = .returned (.bool (decide (a ≤ n ∧ n ≤ b))) ∧ w = w' := by
  by_cases h1 : a ≤ n
  · have d1 : decide (a ≤ n) = true := by simp; omega
    by_cases h2 : n ≤ b
    · have d2 : decide (n ≤ b) = true := by simp; omega
      have hr : decide (a ≤ n ∧ n ≤ b) = true := by simp; omega
      rw [hr]
      clear hr
      go_enter Try.func54, Try.ntmps54
      go_wp2
      go_ret
      exact ⟨rfl, rfl⟩
    · have d2 : decide (n ≤ b) = false := by simp; omega
      have hr : decide (a ≤ n ∧ n ≤ b) = false := by simp; omega
      rw [hr]
      clear hr
      go_enter Try.func54, Try.ntmps54
      go_wp2
      go_ret
      exact ⟨rfl, rfl⟩
  · have d1 : decide (a ≤ n) = false := by simp; omega
    have hr : decide (a ≤ n ∧ n ≤ b) = false := by simp; omega
    rw [hr]
    clear hr
    go_enter Try.func54, Try.ntmps54
    go_wp2
    go_ret
    exact ⟨rfl, rfl⟩

set_option maxHeartbeats 2000000 in
theorem rgmod_any (p m : Int) (w : World) (_hp : J64 p) (hm : J64 m) :
    Calls Try.prog 43 #[.int .i64 p, .int .i64 m] w fun e w' => e = .returned (.int .i64 (rgMod p m)) ∧ w = w' := by
  unfold J64 at hm
  by_cases h1 : m < 1
  · have d1 : decide (m < 1) = true := by simp; omega
    have hr : rgMod p m = 0 := by unfold rgMod; rw [if_pos h1]
    rw [hr]
    go_enter Try.func43, Try.ntmps43
    go_wp2
    go_ret
    exact ⟨rfl, rfl⟩
  · have d1 : decide (m < 1) = false := by simp; omega
    have hz : (m == 0) = false := by simp; omega
    have hz2 : m ≠ 0 := by omega
    have ht := rgMod_tmod p m (by omega)
    have hrr := rgMod_range p m (by omega)
    obtain ⟨q, hq⟩ : ∃ q, p.tmod m = q := ⟨_, rfl⟩
    rw [hq] at ht
    by_cases h2 : q < 0
    · rw [if_pos h2] at ht
      have d2 : decide (q < 0) = true := by simp; omega
      rw [ht] at hrr ⊢
      clear ht
      go_enter Try.func43, Try.ntmps43
      go_wp2
      go_ret
      exact ⟨rfl, rfl⟩
    · rw [if_neg h2] at ht
      have d2 : decide (q < 0) = false := by simp; omega
      rw [ht] at hrr ⊢
      clear ht
      go_enter Try.func43, Try.ntmps43
      go_wp2
      go_ret
      exact ⟨rfl, rfl⟩

set_option maxHeartbeats 4000000 in
theorem rgcheck_any (w m l : Int) (W : World) :
    Calls Try.prog 21 #[.int .i64 w, .int .i64 m, .int .i64 l] W fun e w' => e = .returned (.int .i64 (rgCheck w m l)) ∧ W = w' := by
  by_cases h0 : l < 1
  · have d0 : decide (l < 1) = true := by simp; omega
    have hr : rgCheck w m l = 222 := by unfold rgCheck; (repeat' split) <;> first | rfl | (exfalso; omega)
    rw [hr]
    clear hr
    go_enter Try.func21, Try.ntmps21
    go_wp2
    go_ret
    exact ⟨rfl, rfl⟩
  have d0 : decide (l < 1) = false := by simp; omega
  by_cases h1 : 4096 < l
  · have d1 : decide (4096 < l) = true := by simp; omega
    have hr : rgCheck w m l = 222 := by unfold rgCheck; (repeat' split) <;> first | rfl | (exfalso; omega)
    rw [hr]
    clear hr
    go_enter Try.func21, Try.ntmps21
    go_wp2
    go_ret
    exact ⟨rfl, rfl⟩
  have d1 : decide (4096 < l) = false := by simp; omega
  by_cases h2 : w < 1
  · have d2 : decide (w < 1) = true := by simp; omega
    have hr : rgCheck w m l = 220 := by unfold rgCheck; (repeat' split) <;> first | rfl | (exfalso; omega)
    rw [hr]
    clear hr
    go_enter Try.func21, Try.ntmps21
    go_wp2
    go_ret
    exact ⟨rfl, rfl⟩
  have d2 : decide (w < 1) = false := by simp; omega
  by_cases hm : l ≤ 64
  · have e0 : decide (l ≤ 64) = true := by simp; omega
    have e1 : decide (64 < l) = false := by simp; omega
    have em : min l 64 = l := by omega
    by_cases h3 : l < w
    · have d3 : decide (l < w) = true := by simp; omega
      have hr : rgCheck w m l = 220 := by unfold rgCheck; (repeat' split) <;> first | rfl | (exfalso; omega)
      rw [hr]
      clear hr
      go_enter Try.func21, Try.ntmps21
      go_wp2
      go_ret
      exact ⟨rfl, rfl⟩
    have d3 : decide (l < w) = false := by simp; omega
    by_cases h4 : m ≤ 2 * (w + l)
    · have d4 : decide (m ≤ 2 * (w + l)) = true := by simp; omega
      have hr : rgCheck w m l = 221 := by unfold rgCheck; (repeat' split) <;> first | rfl | (exfalso; omega)
      rw [hr]
      clear hr
      go_enter Try.func21, Try.ntmps21
      go_wp2
      go_ret
      exact ⟨rfl, rfl⟩
    have d4 : decide (m ≤ 2 * (w + l)) = false := by simp; omega
    by_cases h5 : 65536 < m
    · have d5 : decide (65536 < m) = true := by simp; omega
      have hr : rgCheck w m l = 221 := by unfold rgCheck; (repeat' split) <;> first | rfl | (exfalso; omega)
      rw [hr]
      clear hr
      go_enter Try.func21, Try.ntmps21
      go_wp2
      go_ret
      exact ⟨rfl, rfl⟩
    have d5 : decide (65536 < m) = false := by simp; omega
    have hr : rgCheck w m l = 0 := by unfold rgCheck; (repeat' split) <;> first | rfl | (exfalso; omega)
    rw [hr]
    clear hr
    go_enter Try.func21, Try.ntmps21
    go_wp2
    go_ret
    exact ⟨rfl, rfl⟩
  · have e0 : decide (l ≤ 64) = false := by simp; omega
    have e1 : decide (64 < l) = true := by simp; omega
    have em : min l 64 = 64 := by omega
    by_cases h3 : 64 < w
    · have d3 : decide (64 < w) = true := by simp; omega
      have hr : rgCheck w m l = 220 := by unfold rgCheck; (repeat' split) <;> first | rfl | (exfalso; omega)
      rw [hr]
      clear hr
      go_enter Try.func21, Try.ntmps21
      go_wp2
      go_ret
      exact ⟨rfl, rfl⟩
    have d3 : decide (64 < w) = false := by simp; omega
    by_cases h4 : m ≤ 2 * (w + l)
    · have d4 : decide (m ≤ 2 * (w + l)) = true := by simp; omega
      have hr : rgCheck w m l = 221 := by unfold rgCheck; (repeat' split) <;> first | rfl | (exfalso; omega)
      rw [hr]
      clear hr
      go_enter Try.func21, Try.ntmps21
      go_wp2
      go_ret
      exact ⟨rfl, rfl⟩
    have d4 : decide (m ≤ 2 * (w + l)) = false := by simp; omega
    by_cases h5 : 65536 < m
    · have d5 : decide (65536 < m) = true := by simp; omega
      have hr : rgCheck w m l = 221 := by unfold rgCheck; (repeat' split) <;> first | rfl | (exfalso; omega)
      rw [hr]
      clear hr
      go_enter Try.func21, Try.ntmps21
      go_wp2
      go_ret
      exact ⟨rfl, rfl⟩
    have d5 : decide (65536 < m) = false := by simp; omega
    have hr : rgCheck w m l = 0 := by unfold rgCheck; (repeat' split) <;> first | rfl | (exfalso; omega)
    rw [hr]
    clear hr
    go_enter Try.func21, Try.ntmps21
    go_wp2
    go_ret
    exact ⟨rfl, rfl⟩
set_option maxHeartbeats 4000000 in
theorem rgnear_any (base span seq m : Int) (w : World) :
    Calls Try.prog 40 #[.int .i64 base, .int .i64 span, .int .i64 seq, .int .i64 m] w (GivesPl w (rgNear base span seq m)) := by
  have H1 := Lib.hid (fun W => within_any base 0 1152921504606846976 W)
  have H2 := Lib.hid (fun W => within_any span 0 65536 W)
  have H3 := Lib.hid (fun W => within_any m 1 65536 W)
  by_cases h1 : 0 ≤ base ∧ base ≤ 1152921504606846976
  · have d1 : decide (0 ≤ base ∧ base ≤ 1152921504606846976) = true := by simp; omega
    rw [d1] at H1
    clear d1
    by_cases h2 : 0 ≤ span ∧ span ≤ 65536
    · have d2 : decide (0 ≤ span ∧ span ≤ 65536) = true := by simp; omega
      rw [d2] at H2
      clear d2
      by_cases h3 : 1 ≤ m ∧ m ≤ 65536
      · have d3 : decide (1 ≤ m ∧ m ≤ 65536) = true := by simp; omega
        rw [d3] at H3
        clear d3
        obtain ⟨S, rfl⟩ := Int.eq_ofNat_of_zero_le (show 0 ≤ span by omega)
        obtain ⟨M, rfl⟩ := Int.eq_ofNat_of_zero_le (show 0 ≤ m by omega)
        have HF : Hid (rgNear base S seq M = rgScan base seq M (min S M) 0) := by
          show _ = _
          unfold rgNear
          rw [if_neg (by omega)]
          exact rgScan_min base seq S M (by omega)
        generalize rgNear base S seq M = R at *
        have hmin : min (S : Int) (M : Int) = ((min S M : Nat) : Int) := by omega
        obtain ⟨T, hT⟩ : ∃ T, min S M = T := ⟨_, rfl⟩
        have hT2 : T ≤ S ∧ T ≤ M := by omega
        have hT3 : T = S ∨ T = M := by omega
        rw [hT] at HF hmin
        by_cases hsm : (S : Int) ≤ (M : Int)
        · have e0 : decide ((S : Int) ≤ (M : Int)) = true := by simp; omega
          have e0' : decide (S ≤ M) = true := by simp; omega
          have e1 : decide ((M : Int) < (S : Int)) = false := by simp; omega
          have e1' : decide (M < S) = false := by simp; omega
          obtain rfl : T = S := by omega
          clear hT hT3 hmin
          go_enter Try.func40, Try.ntmps40
          go_wp2_with (fail)
          refine (H1.out _).mono ?_
          rintro e w1 ⟨rfl, rfl⟩
          go_wp2_with (fail)
          refine (H2.out _).mono ?_
          rintro e w1 ⟨rfl, rfl⟩
          go_wp2_with (fail)
          refine (H3.out _).mono ?_
          rintro e w1 ⟨rfl, rfl⟩
          go_wp2_with (fail)
          go_loopw [28] (fun i wr => ∃ j : Nat, j ≤ T ∧ i = .int .i64 (j : Int) ∧ Hid (R = rgScan base seq M (T - j) j) ∧ w = wr) (fun i _ => T - (intOf i).toNat)
          case atStart => exact ⟨0, Nat.zero_le _, rfl, HF.out, rfl⟩
          case round =>
            obtain ⟨j, hj, rfl, HJ, rfl⟩ := hrel
            by_cases hlt : j < T
            · have e2 : decide ((j : Int) < (T : Int)) = true := by simp; omega
              have e2' : decide (j < T) = true := by simp; omega
              have hb : J64 (base + j) := by unfold J64; omega
              have hmj : J64 (M : Int) := by unfold J64; omega
              have hw : wrap64 (base + (j : Int)) = base + (j : Int) := by unfold wrap64; omega
              have hw2 : wrap64 ((j : Int) + 1) = (j : Int) + 1 := by unfold wrap64; omega
              have H4 := Lib.hid (rgmod_any (base + j) M w hb hmj)
              have hs : T - j = (T - (j + 1)) + 1 := by omega
              by_cases hq : rgMod (base + j) M = seq
              · have e3 : (rgMod (base + j) M == seq) = true := by simpa using hq
                have HR : Hid (R = some (base + j)) := HJ.out.trans (by rw [hs, rgScan_hit _ _ _ _ _ hq])
                generalize rgMod (base + j) M = md at *
                clear hs hq HJ HF
                go_wp2_with (fail)
                refine H4.out.mono ?_
                rintro e w1 ⟨rfl, rfl⟩
                go_wp2
                go_ret2
                exact ⟨by rw [HR.out]; rfl, rfl⟩
              · have e3 : (rgMod (base + j) M == seq) = false := by simpa using hq
                have HR : Hid (R = rgScan base seq M (T - (j + 1)) (j + 1)) := HJ.out.trans (by rw [hs, rgScan_step _ _ _ _ _ hq])
                generalize rgMod (base + j) M = md at *
                clear hs hq HJ HF
                go_wp2_with (fail)
                refine H4.out.mono ?_
                rintro e w1 ⟨rfl, rfl⟩
                go_wp2
                go_roundw
                case rel => exact ⟨j + 1, by omega, by go_num, HR.out, trivial⟩
                case measure => simp [intOf]; omega
            · obtain rfl : j = T := by omega
              have e2 : decide ((j : Int) < (j : Int)) = false := by simp
              have HR : Hid (R = none) := HJ.out.trans (by rw [Nat.sub_self]; rfl)
              clear HJ HF
              go_wp2
              go_ret2
              exact ⟨by rw [HR.out]; rfl, rfl⟩
        · have e0 : decide ((S : Int) ≤ (M : Int)) = false := by simp; omega
          have e0' : decide (S ≤ M) = false := by simp; omega
          have e1 : decide ((M : Int) < (S : Int)) = true := by simp; omega
          have e1' : decide (M < S) = true := by simp; omega
          obtain rfl : T = M := by omega
          clear hT hT3 hmin
          go_enter Try.func40, Try.ntmps40
          go_wp2_with (fail)
          refine (H1.out _).mono ?_
          rintro e w1 ⟨rfl, rfl⟩
          go_wp2_with (fail)
          refine (H2.out _).mono ?_
          rintro e w1 ⟨rfl, rfl⟩
          go_wp2_with (fail)
          refine (H3.out _).mono ?_
          rintro e w1 ⟨rfl, rfl⟩
          go_wp2_with (fail)
          go_loopw [28] (fun i wr => ∃ j : Nat, j ≤ T ∧ i = .int .i64 (j : Int) ∧ Hid (R = rgScan base seq T (T - j) j) ∧ w = wr) (fun i _ => T - (intOf i).toNat)
          case atStart => exact ⟨0, Nat.zero_le _, rfl, HF.out, rfl⟩
          case round =>
            obtain ⟨j, hj, rfl, HJ, rfl⟩ := hrel
            by_cases hlt : j < T
            · have e2 : decide ((j : Int) < (T : Int)) = true := by simp; omega
              have e2' : decide (j < T) = true := by simp; omega
              have hb : J64 (base + j) := by unfold J64; omega
              have hmj : J64 (T : Int) := by unfold J64; omega
              have hw : wrap64 (base + (j : Int)) = base + (j : Int) := by unfold wrap64; omega
              have hw2 : wrap64 ((j : Int) + 1) = (j : Int) + 1 := by unfold wrap64; omega
              have H4 := Lib.hid (rgmod_any (base + j) T w hb hmj)
              have hs : T - j = (T - (j + 1)) + 1 := by omega
              by_cases hq : rgMod (base + j) T = seq
              · have e3 : (rgMod (base + j) T == seq) = true := by simpa using hq
                have HR : Hid (R = some (base + j)) := HJ.out.trans (by rw [hs, rgScan_hit _ _ _ _ _ hq])
                generalize rgMod (base + j) T = md at *
                clear hs hq HJ HF
                go_wp2_with (fail)
                refine H4.out.mono ?_
                rintro e w1 ⟨rfl, rfl⟩
                go_wp2
                go_ret2
                exact ⟨by rw [HR.out]; rfl, rfl⟩
              · have e3 : (rgMod (base + j) T == seq) = false := by simpa using hq
                have HR : Hid (R = rgScan base seq T (T - (j + 1)) (j + 1)) := HJ.out.trans (by rw [hs, rgScan_step _ _ _ _ _ hq])
                generalize rgMod (base + j) T = md at *
                clear hs hq HJ HF
                go_wp2_with (fail)
                refine H4.out.mono ?_
                rintro e w1 ⟨rfl, rfl⟩
                go_wp2
                go_roundw
                case rel => exact ⟨j + 1, by omega, by go_num, HR.out, trivial⟩
                case measure => simp [intOf]; omega
            · obtain rfl : j = T := by omega
              have e2 : decide ((j : Int) < (j : Int)) = false := by simp
              have HR : Hid (R = none) := HJ.out.trans (by rw [Nat.sub_self]; rfl)
              clear HJ HF
              go_wp2
              go_ret2
              exact ⟨by rw [HR.out]; rfl, rfl⟩
      · have d3 : decide (1 ≤ m ∧ m ≤ 65536) = false := by simp; omega
        rw [d3] at H3
        have hr : rgNear base span seq m = none := by unfold rgNear; rw [if_pos (by omega)]
        rw [hr]
        clear hr d3
        go_enter Try.func40, Try.ntmps40
        go_wp2_with (fail)
        refine (H1.out _).mono ?_
        rintro e w1 ⟨rfl, rfl⟩
        go_wp2_with (fail)
        refine (H2.out _).mono ?_
        rintro e w1 ⟨rfl, rfl⟩
        go_wp2_with (fail)
        refine (H3.out _).mono ?_
        rintro e w1 ⟨rfl, rfl⟩
        go_wp2
        go_ret2
        exact ⟨rfl, rfl⟩
    · have d2 : decide (0 ≤ span ∧ span ≤ 65536) = false := by simp; omega
      rw [d2] at H2
      have hr : rgNear base span seq m = none := by unfold rgNear; rw [if_pos (by omega)]
      rw [hr]
      clear hr d2
      go_enter Try.func40, Try.ntmps40
      go_wp2_with (fail)
      refine (H1.out _).mono ?_
      rintro e w1 ⟨rfl, rfl⟩
      go_wp2_with (fail)
      refine (H2.out _).mono ?_
      rintro e w1 ⟨rfl, rfl⟩
      go_wp2
      go_ret2
      exact ⟨rfl, rfl⟩
  · have d1 : decide (0 ≤ base ∧ base ≤ 1152921504606846976) = false := by simp; omega
    rw [d1] at H1
    have hr : rgNear base span seq m = none := by unfold rgNear; rw [if_pos (by omega)]
    rw [hr]
    clear hr d1
    go_enter Try.func40, Try.ntmps40
    go_wp2_with (fail)
    refine (H1.out _).mono ?_
    rintro e w1 ⟨rfl, rfl⟩
    go_wp2
    go_ret2
    exact ⟨rfl, rfl⟩
theorem rgC : RgC where
  check := fun w m l W _ _ _ => (rgcheck_any w m l W).mono fun _ _ ⟨h1, h2⟩ => ⟨h1, h2 ▸ Below.refl _ _⟩
  mod := fun p m W hp hm => (rgmod_any p m W hp hm).mono fun _ _ ⟨h1, h2⟩ => ⟨h1, h2 ▸ Below.refl _ _⟩
  near := fun b s q m W _ _ _ _ => (rgnear_any b s q m W).mono fun _ _ ⟨h1, h2⟩ => ⟨h1, h2 ▸ Below.refl _ _⟩
end Go.Proofs.Ytpidbgnlehikeaa
