/- What kedgeref22's Check, Mod, Near, Ahead answer. -/
import Derived.Test.YtpidbgnlehikeaaRingM
namespace Go.Proofs.Ytpidbgnlehikeaa
open Go.RowKit
set_option maxRecDepth 20000

def J64 (k : Int) : Prop := -9223372036854775808 ≤ k ∧ k ≤ 9223372036854775807
set_option maxHeartbeats 2000000 in
theorem rrmod_any (p m : Int) (w : World) (_hp : J64 p) (hm : J64 m) :
    Calls Try.prog 44 #[.int .i64 p, .int .i64 m] w fun e w' => e = .returned (.int .i64 (rgMod p m)) ∧ w = w' := by
  unfold J64 at hm
  by_cases h1 : m < 1
  · have d1 : decide (m < 1) = true := by simp; omega
    have hr : rgMod p m = 0 := by unfold rgMod; rw [if_pos h1]
    rw [hr]
    go_enter Try.func44, Try.ntmps44
    go_wp2
    go_ret
    exact ⟨rfl, rfl⟩
  · have d1 : decide (m < 1) = false := by simp; omega
    have hz : (m == 0) = false := by simp; omega
    have hz2 : m ≠ 0 := by omega
    have ht := rgMod_tmod p m (by omega)
    have hrr := rgMod_range p m (by omega)
    obtain ⟨q, hq⟩ : ∃ q, p.tmod m = q := ⟨_, rfl⟩
    rw [hq] at ht
    by_cases h2 : q < 0
    · rw [if_pos h2] at ht
      have d2 : decide (q < 0) = true := by simp; omega
      rw [ht] at hrr ⊢
      clear ht
      go_enter Try.func44, Try.ntmps44
      go_wp2
      go_ret
      exact ⟨rfl, rfl⟩
    · rw [if_neg h2] at ht
      have d2 : decide (q < 0) = false := by simp; omega
      rw [ht] at hrr ⊢
      clear ht
      go_enter Try.func44, Try.ntmps44
      go_wp2
      go_ret
      exact ⟨rfl, rfl⟩
set_option maxHeartbeats 2000000 in
theorem rrcheck_any (w m l : Int) (W : World) (_hw : J64 w) (_hm : J64 m) (_hl : J64 l) :
    Calls Try.prog 23 #[.int .i64 w, .int .i64 m, .int .i64 l] W fun e w' => e = .returned (.int .i64 (rgCheck w m l)) ∧ W = w' := by
  by_cases h0 : l < 1
  · have d0 : decide (l < 1) = true := by simp; omega
    have hr : rgCheck w m l = 222 := by unfold rgCheck; (repeat' split) <;> first | rfl | (exfalso; omega)
    rw [hr]
    clear hr
    go_enter Try.func23, Try.ntmps23
    go_wp2
    go_ret
    exact ⟨rfl, rfl⟩
  have d0 : decide (l < 1) = false := by simp; omega
  by_cases h1 : 4096 < l
  · have d1 : decide (4096 < l) = true := by simp; omega
    have hr : rgCheck w m l = 222 := by unfold rgCheck; (repeat' split) <;> first | rfl | (exfalso; omega)
    rw [hr]
    clear hr
    go_enter Try.func23, Try.ntmps23
    go_wp2
    go_ret
    exact ⟨rfl, rfl⟩
  have d1 : decide (4096 < l) = false := by simp; omega
  by_cases h2 : w < 1
  · have d2 : decide (w < 1) = true := by simp; omega
    have hr : rgCheck w m l = 220 := by unfold rgCheck; (repeat' split) <;> first | rfl | (exfalso; omega)
    rw [hr]
    clear hr
    go_enter Try.func23, Try.ntmps23
    go_wp2
    go_ret
    exact ⟨rfl, rfl⟩
  have d2 : decide (w < 1) = false := by simp; omega
  by_cases h3 : l < w
  · have d3 : decide (l < w) = true := by simp; omega
    have hr : rgCheck w m l = 220 := by unfold rgCheck; (repeat' split) <;> first | rfl | (exfalso; omega)
    rw [hr]
    clear hr
    go_enter Try.func23, Try.ntmps23
    go_wp2
    go_ret
    exact ⟨rfl, rfl⟩
  have d3 : decide (l < w) = false := by simp; omega
  by_cases h4 : 64 < w
  · have d4 : decide (64 < w) = true := by simp; omega
    have hr : rgCheck w m l = 220 := by unfold rgCheck; (repeat' split) <;> first | rfl | (exfalso; omega)
    rw [hr]
    clear hr
    go_enter Try.func23, Try.ntmps23
    go_wp2
    go_ret
    exact ⟨rfl, rfl⟩
  have d4 : decide (64 < w) = false := by simp; omega
  by_cases h5 : m ≤ 2 * (w + l)
  · have d5 : decide (m ≤ 2 * (w + l)) = true := by simp; omega
    have hr : rgCheck w m l = 221 := by unfold rgCheck; (repeat' split) <;> first | rfl | (exfalso; omega)
    rw [hr]
    clear hr
    go_enter Try.func23, Try.ntmps23
    go_wp2
    go_ret
    exact ⟨rfl, rfl⟩
  have d5 : decide (m ≤ 2 * (w + l)) = false := by simp; omega
  by_cases h6 : 65536 < m
  · have d6 : decide (65536 < m) = true := by simp; omega
    have hr : rgCheck w m l = 221 := by unfold rgCheck; (repeat' split) <;> first | rfl | (exfalso; omega)
    rw [hr]
    clear hr
    go_enter Try.func23, Try.ntmps23
    go_wp2
    go_ret
    exact ⟨rfl, rfl⟩
  have d6 : decide (65536 < m) = false := by simp; omega
  have hr : rgCheck w m l = 0 := by unfold rgCheck; (repeat' split) <;> first | rfl | (exfalso; omega)
  rw [hr]
  clear hr
  go_enter Try.func23, Try.ntmps23
  go_wp2
  go_ret
  exact ⟨rfl, rfl⟩
/-- A call's end that makes a place and tells whether there is one. -/
def GivesPl (w : World) (r : Option Int) (e : Ending) (w' : World) : Prop := e = .returned (.tuple #[.int .i64 (r.getD 0), .bool r.isSome]) ∧ w = w'
set_option maxHeartbeats 4000000 in
theorem rrnear_any (base span seq m : Int) (w : World) :
    Calls Try.prog 30 #[.int .i64 base, .int .i64 span, .int .i64 seq, .int .i64 m] w (GivesPl w (rgNear base span seq m)) := by
  by_cases h0 : base < 0
  · have d0 : decide (base < 0) = true := by simp; omega
    have hr : rgNear base span seq m = none := by unfold rgNear; rw [if_pos (by omega)]
    rw [hr]
    clear hr
    go_enter Try.func30, Try.ntmps30
    go_wp2
    go_ret2
    exact ⟨rfl, rfl⟩
  have d0 : decide (base < 0) = false := by simp; omega
  by_cases h1 : 1152921504606846976 < base
  · have d1 : decide (1152921504606846976 < base) = true := by simp; omega
    have hr : rgNear base span seq m = none := by unfold rgNear; rw [if_pos (by omega)]
    rw [hr]
    clear hr
    go_enter Try.func30, Try.ntmps30
    go_wp2
    go_ret2
    exact ⟨rfl, rfl⟩
  have d1 : decide (1152921504606846976 < base) = false := by simp; omega
  by_cases h2 : span < 0
  · have d2 : decide (span < 0) = true := by simp; omega
    have hr : rgNear base span seq m = none := by unfold rgNear; rw [if_pos (by omega)]
    rw [hr]
    clear hr
    go_enter Try.func30, Try.ntmps30
    go_wp2
    go_ret2
    exact ⟨rfl, rfl⟩
  have d2 : decide (span < 0) = false := by simp; omega
  by_cases h3 : 65536 < span
  · have d3 : decide (65536 < span) = true := by simp; omega
    have hr : rgNear base span seq m = none := by unfold rgNear; rw [if_pos (by omega)]
    rw [hr]
    clear hr
    go_enter Try.func30, Try.ntmps30
    go_wp2
    go_ret2
    exact ⟨rfl, rfl⟩
  have d3 : decide (65536 < span) = false := by simp; omega
  by_cases h4 : m < 1
  · have d4 : decide (m < 1) = true := by simp; omega
    have hr : rgNear base span seq m = none := by unfold rgNear; rw [if_pos (by omega)]
    rw [hr]
    clear hr
    go_enter Try.func30, Try.ntmps30
    go_wp2
    go_ret2
    exact ⟨rfl, rfl⟩
  have d4 : decide (m < 1) = false := by simp; omega
  by_cases h5 : 65536 < m
  · have d5 : decide (65536 < m) = true := by simp; omega
    have hr : rgNear base span seq m = none := by unfold rgNear; rw [if_pos (by omega)]
    rw [hr]
    clear hr
    go_enter Try.func30, Try.ntmps30
    go_wp2
    go_ret2
    exact ⟨rfl, rfl⟩
  have d5 : decide (65536 < m) = false := by simp; omega
  have HF : Hid (rgNear base span seq m = rgScan base seq m span.toNat 0) := by show _ = _; unfold rgNear; rw [if_neg (by omega)]
  generalize rgNear base span seq m = R at *
  obtain ⟨S, rfl⟩ := Int.eq_ofNat_of_zero_le (show 0 ≤ span by omega)
  have HF : Hid (R = rgScan base seq m S 0) := HF.out
  go_enter Try.func30, Try.ntmps30
  go_wp2_with (fail)
  go_loopw [10] (fun i wr => ∃ j : Nat, j ≤ S ∧ i = .int .i64 (j : Int) ∧ Hid (R = rgScan base seq m (S - j) j) ∧ w = wr) (fun i _ => S - (intOf i).toNat)
  case atStart => exact ⟨0, Nat.zero_le _, rfl, HF.out, rfl⟩
  case round =>
    obtain ⟨j, hj, rfl, HJ, rfl⟩ := hrel
    by_cases hlt : j < S
    · have e1 : decide ((j : Int) < (S : Int)) = true := by simp; omega
      have hb : J64 (base + j) := by unfold J64; omega
      have hmj : J64 m := by unfold J64; omega
      have hw : wrap64 (base + (j : Int)) = base + (j : Int) := by unfold wrap64; omega
      have hw2 : wrap64 ((j : Int) + 1) = (j : Int) + 1 := by unfold wrap64; omega
      have H1 := Lib.hid (rrmod_any (base + j) m w hb hmj)
      have hs : S - j = (S - (j + 1)) + 1 := by omega
      by_cases hq : rgMod (base + j) m = seq
      · have e2 : (rgMod (base + j) m == seq) = true := by simpa using hq
        have HR : Hid (R = some (base + j)) := HJ.out.trans (by rw [hs, rgScan_hit _ _ _ _ _ hq])
        generalize rgMod (base + j) m = md at *
        clear hs hq HJ HF
        go_wp2_with (fail)
        refine H1.out.mono ?_
        rintro e w1 ⟨rfl, rfl⟩
        go_wp2
        go_ret2
        exact ⟨by rw [HR.out]; rfl, rfl⟩
      · have e2 : (rgMod (base + j) m == seq) = false := by simpa using hq
        have HR : Hid (R = rgScan base seq m (S - (j + 1)) (j + 1)) := HJ.out.trans (by rw [hs, rgScan_step _ _ _ _ _ hq])
        generalize rgMod (base + j) m = md at *
        clear hs hq HJ HF
        go_wp2_with (fail)
        refine H1.out.mono ?_
        rintro e w1 ⟨rfl, rfl⟩
        go_wp2
        go_roundw
        case rel => exact ⟨j + 1, by omega, by go_num, HR.out, trivial⟩
        case measure => simp [intOf]; omega
    · obtain rfl : j = S := by omega
      have e1 : decide ((j : Int) < (j : Int)) = false := by simp
      have HR : Hid (R = none) := HJ.out.trans (by rw [Nat.sub_self]; rfl)
      clear HJ HF
      go_wp2
      go_ret2
      exact ⟨by rw [HR.out]; rfl, rfl⟩
end Go.Proofs.Ytpidbgnlehikeaa
