/- The walks of layer 8's statements, over the contracts of phase and corr: each law answers true and leaves what was there as it was. -/
import Derived.Test.YtmpelpmgpklidaaCorrL
namespace Go.Proofs.Ytmpelpmgpklidaa
open Go.RowKit

theorem near_turn {l : List Pt} (k : Int) (h : ∀ p ∈ l, Near p) : ∀ p ∈ turnB l k, Near p := by
  intro p hp
  obtain ⟨q, hq, rfl⟩ := List.mem_map.1 hp
  exact rotN_small (B := 100) (rest4 k) (h q hq)
theorem turnB_len (l : List Pt) (k : Int) : (turnB l k).length = l.length := by simp [turnB]
set_option maxHeartbeats 8000000 in
theorem walk_CorrTurned (C : PhC) (D : CoC) (A : Option Addr) (n c : Nat) (l : List Pt) (B : Option Addr) (m d : Nat) (mark : List Pt) (k : Int) (w : World) (hP : Ps w A n c l) (hQ : Ps w B m d mark) (hk : -9223372036854775808 ≤ k ∧ k ≤ 9223372036854775807) :
    Calls Try.prog 5 #[.slice A n c, .slice B m d, .int .i64 k] w fun e w' => e = .returned (.bool true) ∧ Below w.heap.size w w' := by
  have HS1 := Lib.hid (small8_any A n c l w hP)
  have HS2 := Lib.hid (small8_any B m d mark w hQ)
  have HPP := Lib.hid hP
  have HQQ := Lib.hid hQ
  have HL := Lib.hid (And.intro hP.len hQ.len)
  have HK := Lib.hid hk
  clear hP hQ hk
  by_cases h1 : 100 < n
  · have d1 : decide ((100 : Int) < (n : Int)) = true := by simp; omega
    go_enter Try.func5, Try.ntmps5
    go_wp2_with (fail)
    refine HS1.out.mono ?_
    rintro e w1 ⟨r, rfl, hr, rfl⟩
    clear hr
    cases r with
    | false =>
      go_wp2_with (fail)
      refine (live08_any C D _).mono ?_
      rintro e w9 ⟨rfl, T9⟩
      go_wp2
      go_ret
      exact ⟨rfl, T9⟩
    | true =>
      go_wp2_with (fail)
      refine HS2.out.mono ?_
      rintro e w1 ⟨r, rfl, hr, rfl⟩
      clear hr
      cases r with
      | false =>
        go_wp2_with (fail)
        refine (live08_any C D _).mono ?_
        rintro e w9 ⟨rfl, T9⟩
        go_wp2
        go_ret
        exact ⟨rfl, T9⟩
      | true =>
        go_wp2_with (fail)
        refine (live08_any C D _).mono ?_
        rintro e w9 ⟨rfl, T9⟩
        go_wp2
        go_ret
        exact ⟨rfl, T9⟩
  · have d1 : decide ((100 : Int) < (n : Int)) = false := by simp; omega
    go_enter Try.func5, Try.ntmps5
    go_wp2_with (fail)
    refine HS1.out.mono ?_
    rintro e w1 ⟨r, rfl, hr, rfl⟩
    cases r with
    | false =>
      clear hr
      go_wp2_with (fail)
      refine (live08_any C D _).mono ?_
      rintro e w9 ⟨rfl, T9⟩
      go_wp2
      go_ret
      exact ⟨rfl, T9⟩
    | true =>
      have HN1 := Lib.hid (hr rfl)
      clear hr
      go_wp2_with (fail)
      refine HS2.out.mono ?_
      rintro e w1 ⟨r, rfl, hr, rfl⟩
      cases r with
      | false =>
        clear hr
        go_wp2_with (fail)
        refine (live08_any C D _).mono ?_
        rintro e w9 ⟨rfl, T9⟩
        go_wp2
        go_ret
        exact ⟨rfl, T9⟩
      | true =>
        have HN2 := Lib.hid (hr rfl)
        clear hr
        have HT := Lib.hid (near_turn k HN1.out.2)
        go_wp2_with (fail)
        refine (of_at C A n c l w HPP.out (Nat.le_trans HN1.out.1 (by decide)) HN1.out.2).mono ?_
        rintro e w1 ⟨A1, c1, rfl, hc1, T1⟩
        have HC1 := Lib.hid hc1
        have HQ1 := Lib.hid (HQQ.out.below T1)
        clear hc1
        go_wp2_with (fail)
        refine (of_at C B m d mark w1 HQ1.out (Nat.le_trans HN2.out.1 (by decide)) HN2.out.2).mono ?_
        rintro e w2 ⟨A2, c2, rfl, hc2, T2⟩
        have HC2 := Lib.hid (HC1.out.below T2)
        have HM2 := Lib.hid hc2
        have T2 := nxt T1 T2
        clear hc2
        go_wp2_with (fail)
        refine (D.find A1 n c1 l A2 m c2 mark w2 HC2.out HM2.out HN1.out.2 HN2.out.2 HN1.out.1 HN2.out.1).mono ?_
        rintro e w3 ⟨a, t, ok, rfl, hf, T3⟩
        have HF := Lib.hid hf
        have T3 := nxt T2 T3
        have HP3 := Lib.hid (HPP.out.below T3)
        clear hf
        go_wp2_with (fail)
        refine (of_at C A n c l w3 HP3.out (Nat.le_trans HN1.out.1 (by decide)) HN1.out.2).mono ?_
        rintro e w4 ⟨A4, c4, rfl, hc4, T4⟩
        have HC4 := Lib.hid hc4
        have T4 := nxt T3 T4
        clear hc4
        go_wp2_with (fail)
        refine (C.turn A4 n c4 l k w4 HC4.out (Nat.le_trans HN1.out.1 (by decide)) (fun p hp => near_mid (HN1.out.2 p hp)) HK.out).mono ?_
        rintro e w5 ⟨v5, rfl, hown5, T5⟩
        obtain ⟨A5, c5, hv, hcs5⟩ := hown5.shape
        rw [turnB_len, HL.out.1] at hv hcs5
        subst hv
        have HC5 := Lib.hid hcs5
        have T5 := nxt T4 T5
        have HQ5 := Lib.hid (HQQ.out.below T5)
        clear hcs5 hown5
        go_wp2_with (fail)
        refine (of_at C B m d mark w5 HQ5.out (Nat.le_trans HN2.out.1 (by decide)) HN2.out.2).mono ?_
        rintro e w6 ⟨A6, c6, rfl, hc6, T6⟩
        have HC6 := Lib.hid (HC5.out.below T6)
        have HM6 := Lib.hid hc6
        have T6 := nxt T5 T6
        clear hc6
        go_wp2_with (fail)
        refine (D.find A5 n c5 (turnB l k) A6 m c6 mark w6 HC6.out HM6.out HT.out HN2.out.2 HN1.out.1 HN2.out.1).mono ?_
        rintro e w7 ⟨a', t', ok', rfl, hf', T7⟩
        obtain ⟨rfl, rfl⟩ := find_turned HF.out hf'
        have T7 := nxt T6 T7
        clear hf' HF
        have e1 : (ok == ok) = true := by simp
        go_wp2_with (fail)
        refine (live08_any C D _).mono ?_
        rintro e w9 ⟨rfl, T9⟩
        have T9 := nxt T7 T9
        go_wp2
        go_ret
        exact ⟨rfl, T9⟩
set_option maxHeartbeats 8000000 in
theorem walk_CorrFinds (C : PhC) (D : CoC) (A : Option Addr) (n c : Nat) (l : List Pt) (B : Option Addr) (m d : Nat) (mark : List Pt) (w : World) (hP : Ps w A n c l) (hQ : Ps w B m d mark) :
    Calls Try.prog 4 #[.slice A n c, .slice B m d] w fun e w' => e = .returned (.bool true) ∧ Below w.heap.size w w' := by
  have HS1 := Lib.hid (small8_any A n c l w hP)
  have HS2 := Lib.hid (small8_any B m d mark w hQ)
  have HPP := Lib.hid hP
  have HQQ := Lib.hid hQ
  have HL := Lib.hid (And.intro hP.len hQ.len)
  clear hP hQ
  by_cases h1 : 100 < n
  · have d1 : decide ((100 : Int) < (n : Int)) = true := by simp; omega
    go_enter Try.func4, Try.ntmps4
    go_wp2_with (fail)
    refine HS1.out.mono ?_
    rintro e w1 ⟨r, rfl, hr, rfl⟩
    clear hr
    cases r with
    | false =>
      go_wp2_with (fail)
      refine (live08_any C D _).mono ?_
      rintro e w9 ⟨rfl, T9⟩
      go_wp2
      go_ret
      exact ⟨rfl, T9⟩
    | true =>
      go_wp2_with (fail)
      refine HS2.out.mono ?_
      rintro e w1 ⟨r, rfl, hr, rfl⟩
      clear hr
      cases r with
      | false =>
        go_wp2_with (fail)
        refine (live08_any C D _).mono ?_
        rintro e w9 ⟨rfl, T9⟩
        go_wp2
        go_ret
        exact ⟨rfl, T9⟩
      | true =>
        go_wp2_with (fail)
        refine (live08_any C D _).mono ?_
        rintro e w9 ⟨rfl, T9⟩
        go_wp2
        go_ret
        exact ⟨rfl, T9⟩
  · have d1 : decide ((100 : Int) < (n : Int)) = false := by simp; omega
    go_enter Try.func4, Try.ntmps4
    go_wp2_with (fail)
    refine HS1.out.mono ?_
    rintro e w1 ⟨r, rfl, hr, rfl⟩
    cases r with
    | false =>
      clear hr
      go_wp2_with (fail)
      refine (live08_any C D _).mono ?_
      rintro e w9 ⟨rfl, T9⟩
      go_wp2
      go_ret
      exact ⟨rfl, T9⟩
    | true =>
      have HN1 := Lib.hid (hr rfl)
      clear hr
      go_wp2_with (fail)
      refine HS2.out.mono ?_
      rintro e w1 ⟨r, rfl, hr, rfl⟩
      cases r with
      | false =>
        clear hr
        go_wp2_with (fail)
        refine (live08_any C D _).mono ?_
        rintro e w9 ⟨rfl, T9⟩
        go_wp2
        go_ret
        exact ⟨rfl, T9⟩
      | true =>
        have HN2 := Lib.hid (hr rfl)
        clear hr
        go_wp2_with (fail)
        refine (of_at C A n c l w HPP.out (Nat.le_trans HN1.out.1 (by decide)) HN1.out.2).mono ?_
        rintro e w1 ⟨A1, c1, rfl, hc1, T1⟩
        have HC1 := Lib.hid hc1
        have HQ1 := Lib.hid (HQQ.out.below T1)
        clear hc1
        go_wp2_with (fail)
        refine (of_at C B m d mark w1 HQ1.out (Nat.le_trans HN2.out.1 (by decide)) HN2.out.2).mono ?_
        rintro e w2 ⟨A2, c2, rfl, hc2, T2⟩
        have HC2 := Lib.hid (HC1.out.below T2)
        have HM2 := Lib.hid hc2
        have T2 := nxt T1 T2
        clear hc2
        go_wp2_with (fail)
        refine (D.find A1 n c1 l A2 m c2 mark w2 HC2.out HM2.out HN1.out.2 HN2.out.2 HN1.out.1 HN2.out.1).mono ?_
        rintro e w3 ⟨a, t, ok, rfl, hf, T3⟩
        have HF := Lib.hid hf
        have T3 := nxt T2 T3
        have HP3 := Lib.hid (HPP.out.below T3)
        have HQ3 := Lib.hid (HQQ.out.below T3)
        clear hf
        go_wp2_with (fail)
        refine (rfind_any A n c l B m d mark w3 HP3.out HQ3.out HN2.out.2 HN2.out.1 HN1.out.1).mono ?_
        rintro e w4 ⟨a', t', ok', rfl, hf', T4⟩
        obtain ⟨rfl, rfl, rfl⟩ := HF.out.unique hf'
        have T4 := nxt T3 T4
        have HP4 := Lib.hid (HPP.out.below T4)
        clear hf' HF
        go_wp2_with (fail)
        refine (of_at C A n c l w4 HP4.out (Nat.le_trans HN1.out.1 (by decide)) HN1.out.2).mono ?_
        rintro e w5 ⟨A5, c5, rfl, hc5, T5⟩
        have HC5 := Lib.hid hc5
        have T5 := nxt T4 T5
        have HQ5 := Lib.hid (HQQ.out.below T5)
        clear hc5
        go_wp2_with (fail)
        refine (of_at C B m d mark w5 HQ5.out (Nat.le_trans HN2.out.1 (by decide)) HN2.out.2).mono ?_
        rintro e w6 ⟨A6, c6, rfl, hc6, T6⟩
        have HC6 := Lib.hid (HC5.out.below T6)
        have HM6 := Lib.hid hc6
        have T6 := nxt T5 T6
        clear hc6
        go_wp2_with (fail)
        refine (D.peak A5 n c5 l A6 m c6 mark w6 HC6.out HM6.out HN1.out.2 HN2.out.2 HN1.out.1 HN2.out.1).mono ?_
        rintro e w7 ⟨p, has, rfl, hf, T7⟩
        have HF := Lib.hid hf
        have T7 := nxt T6 T7
        have HP7 := Lib.hid (HPP.out.below T7)
        have HQ7 := Lib.hid (HQQ.out.below T7)
        clear hf
        go_wp2_with (fail)
        refine (rpeak_any A n c l B m d mark w7 HP7.out HQ7.out HN1.out.2 HN2.out.2 HN2.out.1 HN1.out.1).mono ?_
        rintro e w8 ⟨p', has', rfl, hf', T8⟩
        obtain ⟨rfl, rfl⟩ := HF.out.unique hf'
        have T8 := nxt T7 T8
        clear hf' HF
        have e1 : (ok == ok) = true := by simp
        have e2 : (has == has) = true := by simp
        go_wp2_with (fail)
        refine (live08_any C D _).mono ?_
        rintro e w9 ⟨rfl, T9⟩
        have T9 := nxt T8 T9
        go_wp2
        go_ret
        exact ⟨rfl, T9⟩
end Go.Proofs.Ytmpelpmgpklidaa
