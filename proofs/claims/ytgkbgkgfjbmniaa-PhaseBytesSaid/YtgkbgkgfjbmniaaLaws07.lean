/- The walks of layer 7's statements, over phase's contracts: each law answers true and leaves what was there as it was. -/
import Derived.Test.YtgkbgkgfjbmniaaPhL
import Derived.Test.YtgkbgkgfjbmniaaSame
namespace Go.Proofs.Ytgkbgkgfjbmniaa
open Go.RowKit

theorem same_true' (A A' : Option Addr) (n c n' c' : Nat) (l : List UInt8) (w : World) (h : Bys w A n c l) (h' : Bys w A' n' c' l) :
    Calls Try.prog 24 #[.slice A n c, .slice A' n' c'] w fun e w' => e = .returned (.bool true) ∧ Below w.heap.size w w' := same_true A A' n c n' c' l w h h'
theorem mid_slice (p : Pt) : Mid (sliceP p) := by unfold Mid sliceP; simp only; refine ⟨?_, ?_, ?_, ?_⟩ <;> split <;> decide
set_option maxHeartbeats 8000000 in
theorem walk_PhaseParts (C : PhC) (re im : Int) (w : World) :
    Calls Try.prog 3 #[.int .i64 re, .int .i64 im] w fun e w' => e = .returned (.bool true) ∧ Below w.heap.size w w' := by
  by_cases h1 : re < -1099511627776
  · have d1 : decide (re < -1099511627776) = true := by simpa using h1
    clear h1
    go_enter Try.func3, Try.ntmps3
    go_wp2_with (fail)
    refine (live07_any C _).mono ?_
    rintro e w9 ⟨rfl, T9⟩
    go_wp2
    go_ret
    exact ⟨rfl, T9⟩
  · have d1 : decide (re < -1099511627776) = false := by simpa using h1
    by_cases h2 : 1099511627776 < re
    · have d2 : decide (1099511627776 < re) = true := by simpa using h2
      clear h1 h2
      go_enter Try.func3, Try.ntmps3
      go_wp2_with (fail)
      refine (live07_any C _).mono ?_
      rintro e w9 ⟨rfl, T9⟩
      go_wp2
      go_ret
      exact ⟨rfl, T9⟩
    · have d2 : decide (1099511627776 < re) = false := by simpa using h2
      by_cases h3 : im < -1099511627776
      · have d3 : decide (im < -1099511627776) = true := by simpa using h3
        clear h1 h2 h3
        go_enter Try.func3, Try.ntmps3
        go_wp2_with (fail)
        refine (live07_any C _).mono ?_
        rintro e w9 ⟨rfl, T9⟩
        go_wp2
        go_ret
        exact ⟨rfl, T9⟩
      · have d3 : decide (im < -1099511627776) = false := by simpa using h3
        by_cases h4 : 1099511627776 < im
        · have d4 : decide (1099511627776 < im) = true := by simpa using h4
          clear h1 h2 h3 h4
          go_enter Try.func3, Try.ntmps3
          go_wp2_with (fail)
          refine (live07_any C _).mono ?_
          rintro e w9 ⟨rfl, T9⟩
          go_wp2
          go_ret
          exact ⟨rfl, T9⟩
        · have d4 : decide (1099511627776 < im) = false := by simpa using h4
          have hM : Mid (re, im) := ⟨by show -1099511627776 ≤ re; omega, by show re ≤ 1099511627776; omega, by show -1099511627776 ≤ im; omega, by show im ≤ 1099511627776; omega⟩
          have HM := Lib.hid hM
          have HOF := Lib.hid (fun W => C.of_ (re, im) W hM)
          have HRK := Lib.hid (fun W => kind_any (re, im) W)
          have HRS := Lib.hid (fun W => rslice_any (re, im) W)
          have HK := Lib.hid (fun a b W h h' => C.kind a b (re, im) W h h')
          have HS := Lib.hid (fun a b W h h' => C.slice a b (re, im) W h h')
          have HP := Lib.hid (fun a b W h h' => C.parts a b (re, im) W h h' hM)
          have HPS := Lib.hid (fun a b W h h' => C.parts a b (sliceP (re, im)) W h h' (mid_slice _))
          have hkr := kindI_range (re, im)
          generalize sliceP (re, im) = s at *
          generalize kindI (re, im) = k at *
          obtain ⟨sa, sb⟩ := s
          clear hM h1 h2 h3 h4
          have e0 : (re != re) = false := by simp
          have e1 : (im != im) = false := by simp
          have e2 : (sa == sa) = true := by simp
          have e3 : (sb == sb) = true := by simp
          obtain ⟨kk, is, hkk, his, hcase⟩ : ∃ (kk : Int) (is : Bool), (if k < 0 then 0 else k) = kk ∧ decide (0 ≤ k) = is ∧ ((is = true ∧ kk = k) ∨ (is = false ∧ kk = 0)) := by
            refine ⟨_, _, rfl, rfl, ?_⟩
            by_cases h : 0 ≤ k
            · exact .inl ⟨by simpa using h, by rw [if_neg (by omega)]⟩
            · exact .inr ⟨by simpa using h, by rw [if_pos (by omega)]⟩
          rw [hkk, his] at HK
          clear hkk hkr
          rcases hcase with ⟨rfl, rfl⟩ | ⟨rfl, rfl⟩
          · have f0 : decide (0 ≤ kk) = true := by simpa using his
            have f1 : (kk != kk) = false := by simp
            clear his
            go_enter Try.func3, Try.ntmps3
            go_wp2_with (fail)
            refine (HOF.out _).mono ?_
            rintro e w1 ⟨a, b, rfl, ha, hb, T1⟩
            have H1 := Lib.hid (And.intro ha hb)
            clear ha hb
            go_wp2_with (fail)
            refine (HP.out a b _ H1.out.1 H1.out.2).mono ?_
            rintro e w2 ⟨rfl, T2⟩
            have T2 := nxt T1 T2
            go_wp2_with (fail)
            refine (HK.out a b _ H1.out.1 H1.out.2).mono ?_
            rintro e w3 ⟨rfl, T3⟩
            have T3 := nxt T2 T3
            go_wp2_with (fail)
            refine (HRK.out _).mono ?_
            rintro e w4 ⟨rfl, T4⟩
            have T4 := nxt T3 T4
            go_wp2_with (fail)
            refine (HRS.out _).mono ?_
            rintro e w5 ⟨rfl, T5⟩
            have T5 := nxt T4 T5
            have HB : Hid (∀ j, (w5.alloc (.cells #[.int .i64 sa, .int .i64 sb] 31)).cell? ⟨w5.heap.size, j, none⟩ = (#[.int .i64 sa, .int .i64 sb] : Array Value)[j]?) := fun j => cell_of_row _ _ _ _ _ _ (heap_alloc_new w5 _)
            go_wp2_with (fail)
            refine (HS.out a b _ H1.out.1 H1.out.2).mono ?_
            rintro e w6 ⟨c, d, rfl, hc, hd, T6⟩
            have H6 := Lib.hid (And.intro hc hd)
            clear hc hd
            go_wp2_with (fail)
            refine (HPS.out c d _ H6.out.1 H6.out.2).mono ?_
            rintro e w7 ⟨rfl, T7⟩
            have K7 := nxt T6 T7
            have c0 : w7.cell? ⟨w5.heap.size, 0, none⟩ = some (.int .i64 sa) := (K7.cell (p := ⟨w5.heap.size, 0, none⟩) (by simp)).trans (HB.out 0)
            have c1 : w7.cell? ⟨w5.heap.size, 1, none⟩ = some (.int .i64 sb) := (K7.cell (p := ⟨w5.heap.size, 1, none⟩) (by simp)).trans (HB.out 1)
            have T7 := nxt (T5.alloc T5.size _) K7
            go_wp2_with (fail)
            refine (live07_any C _).mono ?_
            rintro e w8 ⟨rfl, T8⟩
            have T := nxt T7 T8
            go_wp2
            go_ret
            exact ⟨rfl, T⟩
          · have f0 : decide (0 ≤ k) = false := his
            have f1 : ((0 : Int) != 0) = false := by simp
            clear his
            go_enter Try.func3, Try.ntmps3
            go_wp2_with (fail)
            refine (HOF.out _).mono ?_
            rintro e w1 ⟨a, b, rfl, ha, hb, T1⟩
            have H1 := Lib.hid (And.intro ha hb)
            clear ha hb
            go_wp2_with (fail)
            refine (HP.out a b _ H1.out.1 H1.out.2).mono ?_
            rintro e w2 ⟨rfl, T2⟩
            have T2 := nxt T1 T2
            go_wp2_with (fail)
            refine (HK.out a b _ H1.out.1 H1.out.2).mono ?_
            rintro e w3 ⟨rfl, T3⟩
            have T3 := nxt T2 T3
            go_wp2_with (fail)
            refine (HRK.out _).mono ?_
            rintro e w4 ⟨rfl, T4⟩
            have T4 := nxt T3 T4
            go_wp2_with (fail)
            refine (HRS.out _).mono ?_
            rintro e w5 ⟨rfl, T5⟩
            have T5 := nxt T4 T5
            have HB : Hid (∀ j, (w5.alloc (.cells #[.int .i64 sa, .int .i64 sb] 31)).cell? ⟨w5.heap.size, j, none⟩ = (#[.int .i64 sa, .int .i64 sb] : Array Value)[j]?) := fun j => cell_of_row _ _ _ _ _ _ (heap_alloc_new w5 _)
            go_wp2_with (fail)
            refine (HS.out a b _ H1.out.1 H1.out.2).mono ?_
            rintro e w6 ⟨c, d, rfl, hc, hd, T6⟩
            have H6 := Lib.hid (And.intro hc hd)
            clear hc hd
            go_wp2_with (fail)
            refine (HPS.out c d _ H6.out.1 H6.out.2).mono ?_
            rintro e w7 ⟨rfl, T7⟩
            have K7 := nxt T6 T7
            have c0 : w7.cell? ⟨w5.heap.size, 0, none⟩ = some (.int .i64 sa) := (K7.cell (p := ⟨w5.heap.size, 0, none⟩) (by simp)).trans (HB.out 0)
            have c1 : w7.cell? ⟨w5.heap.size, 1, none⟩ = some (.int .i64 sb) := (K7.cell (p := ⟨w5.heap.size, 1, none⟩) (by simp)).trans (HB.out 1)
            have T7 := nxt (T5.alloc T5.size _) K7
            go_wp2_with (fail)
            refine (live07_any C _).mono ?_
            rintro e w8 ⟨rfl, T8⟩
            have T := nxt T7 T8
            go_wp2
            go_ret
            exact ⟨rfl, T⟩

theorem low_mid {p : Pt} (h : Low p) : Mid p := by unfold Low at h; unfold Mid; omega
theorem low_tame {l : List Pt} (h : ∀ p ∈ l, Low p) : Tame l := fun p hp => by have := h p hp; unfold Low at this; omega
theorem low_turn {l : List Pt} (k : Int) (h : ∀ p ∈ l, Low p) : ∀ p ∈ turnB l k, Low p := by
  intro p hp
  obtain ⟨x, hx, rfl⟩ := List.mem_map.1 hp
  exact rotN_small _ (h x hx)
theorem turn_turn (l : List Pt) (k n : Int) : turnB (turnB l k) n = turnB l (k + n) := by
  unfold turnB
  rw [List.map_map]
  exact List.map_congr_left fun p _ => rotK_add k n p
theorem turn_len (l : List Pt) (k : Int) : (turnB l k).length = l.length := by unfold turnB; simp
theorem wP_unit (s : List Nat) : ∀ p ∈ wP s, ∃ q, q < 4 ∧ p = unit q := by
  have key : ∀ (s : List Nat) (q : Nat), ∀ p ∈ walkP (unit q) s, ∃ q, q < 4 ∧ p = unit q := by
    intro s
    induction s with
    | nil => intro q p hp; simp [walkP] at hp
    | cons k r ih =>
      intro q p hp
      simp only [walkP, List.mem_cons] at hp
      rw [unit_rot] at hp
      rcases hp with hp | hp
      · exact ⟨_, Nat.mod_lt _ (by decide), hp⟩
      · exact ih _ p hp
  intro p hp
  unfold wP at hp
  rcases List.mem_cons.1 hp with rfl | hp
  · exact ⟨0, by decide, rfl⟩
  · exact key s 0 p hp
theorem points_mid (b : List UInt8) : ∀ p ∈ pointsB b, Mid p := by
  intro p hp
  unfold pointsB at hp
  split at hp
  · cases hp
  · obtain ⟨q, h1, rfl⟩ := wP_unit (stepsB b) p hp
    have := unit_parts q h1
    unfold Mid
    omega
theorem points_len (b : List UInt8) : (pointsB b).length ≤ 16385 := by
  unfold pointsB
  split
  · simp
  · rw [List.length_cons, walkP_len, stepsB_len]; omega
set_option maxHeartbeats 8000000 in
theorem walk_PhaseTurns (C : PhC) (A : Option Addr) (n c : Nat) (l : List Pt) (k m : Int) (w : World) (hP : Ps w A n c l) :
    Calls Try.prog 4 #[.slice A n c, .int .i64 k, .int .i64 m] w fun e w' => e = .returned (.bool true) ∧ Below w.heap.size w w' := by
  have HSM := Lib.hid (small_any A n c l w hP)
  have HPP := Lib.hid hP
  have hnl := hP.len
  clear hP
  by_cases h1 : k < -1099511627776
  · have d1 : decide (k < -1099511627776) = true := by simpa using h1
    clear h1
    go_enter Try.func4, Try.ntmps4
    go_wp2_with (fail)
    refine HSM.out.mono ?_
    rintro e w1 ⟨r, rfl, hr, rfl⟩
    clear hr
    cases r with
    | false =>
      go_wp2_with (fail)
      refine (live07_any C _).mono ?_
      rintro e w9 ⟨rfl, T9⟩
      go_wp2
      go_ret
      exact ⟨rfl, T9⟩
    | true =>
      go_wp2_with (fail)
      refine (live07_any C _).mono ?_
      rintro e w9 ⟨rfl, T9⟩
      go_wp2
      go_ret
      exact ⟨rfl, T9⟩
  · have d1 : decide (k < -1099511627776) = false := by simpa using h1
    by_cases h2 : 1099511627776 < k
    · have d2 : decide (1099511627776 < k) = true := by simpa using h2
      clear h1 h2
      go_enter Try.func4, Try.ntmps4
      go_wp2_with (fail)
      refine HSM.out.mono ?_
      rintro e w1 ⟨r, rfl, hr, rfl⟩
      clear hr
      cases r with
      | false =>
        go_wp2_with (fail)
        refine (live07_any C _).mono ?_
        rintro e w9 ⟨rfl, T9⟩
        go_wp2
        go_ret
        exact ⟨rfl, T9⟩
      | true =>
        go_wp2_with (fail)
        refine (live07_any C _).mono ?_
        rintro e w9 ⟨rfl, T9⟩
        go_wp2
        go_ret
        exact ⟨rfl, T9⟩
    · have d2 : decide (1099511627776 < k) = false := by simpa using h2
      by_cases h3 : m < -1099511627776
      · have d3 : decide (m < -1099511627776) = true := by simpa using h3
        clear h1 h2 h3
        go_enter Try.func4, Try.ntmps4
        go_wp2_with (fail)
        refine HSM.out.mono ?_
        rintro e w1 ⟨r, rfl, hr, rfl⟩
        clear hr
        cases r with
        | false =>
          go_wp2_with (fail)
          refine (live07_any C _).mono ?_
          rintro e w9 ⟨rfl, T9⟩
          go_wp2
          go_ret
          exact ⟨rfl, T9⟩
        | true =>
          go_wp2_with (fail)
          refine (live07_any C _).mono ?_
          rintro e w9 ⟨rfl, T9⟩
          go_wp2
          go_ret
          exact ⟨rfl, T9⟩
      · have d3 : decide (m < -1099511627776) = false := by simpa using h3
        by_cases h4 : 1099511627776 < m
        · have d4 : decide (1099511627776 < m) = true := by simpa using h4
          clear h1 h2 h3 h4
          go_enter Try.func4, Try.ntmps4
          go_wp2_with (fail)
          refine HSM.out.mono ?_
          rintro e w1 ⟨r, rfl, hr, rfl⟩
          clear hr
          cases r with
          | false =>
            go_wp2_with (fail)
            refine (live07_any C _).mono ?_
            rintro e w9 ⟨rfl, T9⟩
            go_wp2
            go_ret
            exact ⟨rfl, T9⟩
          | true =>
            go_wp2_with (fail)
            refine (live07_any C _).mono ?_
            rintro e w9 ⟨rfl, T9⟩
            go_wp2
            go_ret
            exact ⟨rfl, T9⟩
        · have d4 : decide (1099511627776 < m) = false := by simpa using h4
          go_enter Try.func4, Try.ntmps4
          go_wp2_with (fail)
          refine HSM.out.mono ?_
          rintro e w1 ⟨r, rfl, hr, rfl⟩
          cases r with
          | false =>
            clear hr
            go_wp2_with (fail)
            refine (live07_any C _).mono ?_
            rintro e w9 ⟨rfl, T9⟩
            go_wp2
            go_ret
            exact ⟨rfl, T9⟩
          | true =>
            obtain ⟨hn4, hlow⟩ := hr rfl
            have HLOW := Lib.hid hlow
            have HOF := Lib.hid (lof_any C A n c l w HPP.out (by omega) (fun p hp => low_mid (hlow p hp)))
            have HRT : Hid (∀ (q : Int) W, Below w.heap.size w W → Calls Try.prog 19 #[.slice A n c, .int .i64 q] W (GivesP W (turnB l q))) := fun q W kk => rturn_any A n c l q W (HPP.out.below kk) (by omega) (low_tame hlow)
            have htl := turn_len l k
            have htl2 := turn_len l (k + m)
            have htt := turn_turn l k m
            have hm1 : ∀ p ∈ turnB l k, Mid p := fun p hp => low_mid (low_turn k hlow p hp)
            have hm2 : ∀ p ∈ turnB l (k + m), Mid p := fun p hp => low_mid (low_turn (k + m) hlow p hp)
            have hm0 : ∀ p ∈ l, Mid p := fun p hp => low_mid (hlow p hp)
            have HT1 := Lib.hid (HRT.out k)
            have HT2 := Lib.hid (HRT.out (k + m))
            have HX := Lib.hid (And.intro hm0 (And.intro hm1 (And.intro hm2 htt)))
            clear hr hlow hm0 hm1 hm2 htt HRT HSM
            generalize hL1 : turnB l k = l1 at *
            generalize hL2 : turnB l (k + m) = l2 at *
            have HL1 := Lib.hid hL1
            have hw : wrap64 (k + m) = k + m := IntWalk.wrap64_in _ (by omega)
            have HKR : Hid ((-9223372036854775808 ≤ k ∧ k ≤ 9223372036854775807) ∧ (-9223372036854775808 ≤ m ∧ m ≤ 9223372036854775807)) := ⟨by omega, by omega⟩
            clear hL1 hL2 h1 h2 h3 h4
            go_wp2_with (fail)
            refine HOF.out.mono ?_
            rintro e w2 ⟨v2, rfl, hown2, T2⟩
            obtain ⟨A2, d2', hv, hcs2⟩ := hown2.shape
            rw [hnl] at hv hcs2
            subst hv
            have HC2 := Lib.hid hcs2
            clear hown2 hcs2 HOF
            have hturn := C.turn A2 n d2' l k w2 HC2.out (by omega) HX.out.1 HKR.out.1
            rw [HL1.out] at hturn
            have HTU := Lib.hid hturn
            clear hturn
            go_wp2_with (fail)
            refine HTU.out.mono ?_
            rintro e w3 ⟨v3, rfl, hown3, T3⟩
            have T3 := nxt T2 T3
            obtain ⟨A3, d3', hv, hcs3⟩ := hown3.shape
            rw [htl, hnl] at hv hcs3
            subst hv
            have HC3 := Lib.hid hcs3
            clear hown3 hcs3 HTU
            go_wp2_with (fail)
            refine (HT1.out _ T3).mono ?_
            rintro e w4 ⟨v4, rfl, hown4, T4⟩
            have K4 := T4
            have T4 := nxt T3 T4
            obtain ⟨A4, d4', hv, hps4⟩ := hown4.shape
            rw [htl, hnl] at hv hps4
            subst hv
            have HTD := Lib.hid (told_true C A3 n d3' A4 n d4' l1 w4 (HC3.out.below K4) hps4 HX.out.2.1)
            have HC4 := Lib.hid (HC3.out.below K4)
            clear hown4 hps4
            go_wp2_with (fail)
            refine HTD.out.mono ?_
            rintro e w5 ⟨rfl, T5⟩
            have HC5 := Lib.hid (HC4.out.below T5)
            have T5 := nxt T4 T5
            have hturn := C.turn A3 n d3' l1 m w5 HC5.out (by omega) HX.out.2.1 HKR.out.2
            rw [HX.out.2.2.2] at hturn
            have HTU := Lib.hid hturn
            clear hturn HTD
            go_wp2_with (fail)
            refine HTU.out.mono ?_
            rintro e w6 ⟨v6, rfl, hown6, T6⟩
            have T6 := nxt T5 T6
            obtain ⟨A6, d6', hv, hcs6⟩ := hown6.shape
            rw [htl2, hnl] at hv hcs6
            subst hv
            have HC6 := Lib.hid hcs6
            clear hown6 hcs6 HTU
            go_wp2_with (fail)
            refine (HT2.out _ T6).mono ?_
            rintro e w7 ⟨v7, rfl, hown7, T7⟩
            have K7 := T7
            have T7 := nxt T6 T7
            obtain ⟨A7, d7', hv, hps7⟩ := hown7.shape
            rw [htl2, hnl] at hv hps7
            subst hv
            have HTD := Lib.hid (told_true C A6 n d6' A7 n d7' l2 w7 (HC6.out.below K7) hps7 HX.out.2.2.1)
            clear hown7 hps7
            go_wp2_with (fail)
            refine HTD.out.mono ?_
            rintro e w8 ⟨rfl, T8⟩
            have T8 := nxt T7 T8
            go_wp2_with (fail)
            refine (live07_any C _).mono ?_
            rintro e w9 ⟨rfl, T9⟩
            have T := nxt T8 T9
            go_wp2
            go_ret
            exact ⟨rfl, T⟩

set_option maxHeartbeats 8000000 in
theorem walk_PhasePoints (C : PhC) (A : Option Addr) (n c : Nat) (b : List UInt8) (w : World) (hB : Bys w A n c b) :
    Calls Try.prog 5 #[.slice A n c] w fun e w' => e = .returned (.bool true) ∧ Below w.heap.size w w' := by
  have HP := Lib.hid (C.points A n c b w hB)
  have HR : Hid (∀ W, Below w.heap.size w W → Calls Try.prog 21 #[.slice A n c] W (GivesP W (pointsB b))) := fun W k => rpoints_any A n c b W (hB.below k)
  have HM := Lib.hid (points_mid b)
  clear hB
  generalize pointsB b = l at *
  obtain ⟨q, hq⟩ : ∃ q, l.length = q := ⟨_, rfl⟩
  have HQ := Lib.hid hq
  clear hq
  have key : ∀ (W : World), Below w.heap.size w W → True := fun _ _ => trivial
  clear key
  by_cases h1 : 200 < n
  · have d1 : decide ((200 : Int) < (n : Int)) = true := by simp; omega
    by_cases h2 : n ≤ 4096
    · have d2 : decide ((n : Int) ≤ 4096) = true := by simp; omega
      clear h1 h2
      go_enter Try.func5, Try.ntmps5
      go_wp2_with (fail)
      refine (live07_any C _).mono ?_
      rintro e w9 ⟨rfl, T9⟩
      go_wp2
      go_ret
      exact ⟨rfl, T9⟩
    · have d2 : decide ((n : Int) ≤ 4096) = false := by simp; omega
      clear h1 h2
      go_enter Try.func5, Try.ntmps5
      go_wp2_with (fail)
      refine HP.out.mono ?_
      rintro e w2 ⟨v2, rfl, hown2, T2⟩
      obtain ⟨A2, d2', hv, hcs2⟩ := hown2.shape
      rw [HQ.out] at hv hcs2
      subst hv
      have HC2 := Lib.hid hcs2
      clear hown2 hcs2
      go_wp2_with (fail)
      refine (HR.out _ T2).mono ?_
      rintro e w4 ⟨v4, rfl, hown4, T4⟩
      obtain ⟨A4, d4', hv, hps4⟩ := hown4.shape
      rw [HQ.out] at hv hps4
      subst hv
      have HTD := Lib.hid (told_true C A2 q d2' A4 q d4' l w4 (HC2.out.below T4) hps4 HM.out)
      have T4 := nxt T2 T4
      clear hown4 hps4
      go_wp2_with (fail)
      refine HTD.out.mono ?_
      rintro e w5 ⟨rfl, T5⟩
      have T5 := nxt T4 T5
      go_wp2_with (fail)
      refine (live07_any C _).mono ?_
      rintro e w9 ⟨rfl, T9⟩
      have T := nxt T5 T9
      go_wp2
      go_ret
      exact ⟨rfl, T⟩
  · have d1 : decide ((200 : Int) < (n : Int)) = false := by simp; omega
    clear h1
    go_enter Try.func5, Try.ntmps5
    go_wp2_with (fail)
    refine HP.out.mono ?_
    rintro e w2 ⟨v2, rfl, hown2, T2⟩
    obtain ⟨A2, d2', hv, hcs2⟩ := hown2.shape
    rw [HQ.out] at hv hcs2
    subst hv
    have HC2 := Lib.hid hcs2
    clear hown2 hcs2
    go_wp2_with (fail)
    refine (HR.out _ T2).mono ?_
    rintro e w4 ⟨v4, rfl, hown4, T4⟩
    obtain ⟨A4, d4', hv, hps4⟩ := hown4.shape
    rw [HQ.out] at hv hps4
    subst hv
    have HTD := Lib.hid (told_true C A2 q d2' A4 q d4' l w4 (HC2.out.below T4) hps4 HM.out)
    have T4 := nxt T2 T4
    clear hown4 hps4
    go_wp2_with (fail)
    refine HTD.out.mono ?_
    rintro e w5 ⟨rfl, T5⟩
    have T5 := nxt T4 T5
    go_wp2_with (fail)
    refine (live07_any C _).mono ?_
    rintro e w9 ⟨rfl, T9⟩
    have T := nxt T5 T9
    go_wp2
    go_ret
    exact ⟨rfl, T⟩

set_option maxHeartbeats 8000000 in
theorem walk_PhaseBytes (C : PhC) (A : Option Addr) (n c : Nat) (l : List Pt) (w : World) (hP : Ps w A n c l) :
    Calls Try.prog 6 #[.slice A n c] w fun e w' => e = .returned (.bool true) ∧ Below w.heap.size w w' := by
  have HSM := Lib.hid (small_any A n c l w hP)
  have HPP := Lib.hid hP
  have hnl := hP.len
  clear hP
  go_enter Try.func6, Try.ntmps6
  go_wp2_with (fail)
  refine HSM.out.mono ?_
  rintro e w1 ⟨r, rfl, hr, rfl⟩
  cases r with
  | false =>
    clear hr
    go_wp2_with (fail)
    refine (live07_any C _).mono ?_
    rintro e w9 ⟨rfl, T9⟩
    go_wp2
    go_ret
    exact ⟨rfl, T9⟩
  | true =>
    obtain ⟨hn4, hlow⟩ := hr rfl
    have HOF := Lib.hid (lof_any C A n c l w HPP.out (by omega) (fun p hp => low_mid (hlow p hp)))
    have HRB : Hid (∀ W, Below w.heap.size w W → Calls Try.prog 23 #[.slice A n c] W (GivesT W (bytesB l))) := fun W k => rbytes_any A n c l W (HPP.out.below k)
    have HPB : Hid (∀ A2 n2 c2 W, Cs W A2 n2 c2 l → Calls Try.prog 22 #[.slice A2 n2 c2] W (GivesT W (bytesB l))) := fun A2 n2 c2 W h => C.bytes A2 n2 c2 l W h
    clear hr hlow HSM
    generalize bytesB l = rr at *
    obtain ⟨ro, rz⟩ := rr
    have hzz : (rz == rz) = true := by simp
    go_wp2_with (fail)
    refine HOF.out.mono ?_
    rintro e w2 ⟨v2, rfl, hown2, T2⟩
    obtain ⟨A2, d2', hv, hcs2⟩ := hown2.shape
    rw [hnl] at hv hcs2
    subst hv
    have HBB := Lib.hid (HPB.out A2 n d2' w2 hcs2)
    clear hown2 hcs2 HOF
    go_wp2_with (fail)
    refine HBB.out.mono ?_
    rintro e w3 ⟨A3, n3, d3', rfl, hb3, T3⟩
    have T3 := nxt T2 T3
    have HB3 := Lib.hid hb3
    clear hb3
    go_wp2_with (fail)
    refine (HRB.out _ T3).mono ?_
    rintro e w4 ⟨A4, n4, d4', rfl, hb4, T4⟩
    have HS := Lib.hid (same_true' A3 A4 n3 d3' n4 d4' ro w4 (HB3.out.below T4) hb4)
    have T4 := nxt T3 T4
    clear hb4
    go_wp2_with (fail)
    refine HS.out.mono ?_
    rintro e w5 ⟨rfl, T5⟩
    have T5 := nxt T4 T5
    go_wp2_with (fail)
    refine (num_any rz _).mono ?_
    rintro e w6 ⟨rfl, rfl⟩
    go_wp2_with (fail)
    refine (live07_any C _).mono ?_
    rintro e w9 ⟨rfl, T9⟩
    have T := nxt T5 T9
    go_wp2
    go_ret
    exact ⟨rfl, T⟩

set_option maxHeartbeats 8000000 in
theorem walk_PhaseBack (C : PhC) (A : Option Addr) (n c : Nat) (b : List UInt8) (k : Int) (w : World) (hB : Bys w A n c b) (hk : -9223372036854775808 ≤ k ∧ k ≤ 9223372036854775807) :
    Calls Try.prog 7 #[.slice A n c, .int .i64 k] w fun e w' => e = .returned (.bool true) ∧ Below w.heap.size w w' := by
  by_cases h1 : 200 < n
  · have d1 : decide ((200 : Int) < (n : Int)) = true := by simp; omega
    clear h1 hB
    go_enter Try.func7, Try.ntmps7
    go_wp2_with (fail)
    refine (live07_any C _).mono ?_
    rintro e w9 ⟨rfl, T9⟩
    go_wp2
    go_ret
    exact ⟨rfl, T9⟩
  · have d1 : decide ((200 : Int) < (n : Int)) = false := by simp; omega
    have HP := Lib.hid (C.points A n c b w hB)
    have hpm := points_mid b
    have hpl := points_len b
    have hbk := phase_back b k (by have := hB.len; omega)
    have HBB := Lib.hid hB
    have HT : Hid (∀ A2 n2 c2 W, Cs W A2 n2 c2 (pointsB b) → n2 ≤ 1000000 → Calls Try.prog 16 #[.slice A2 n2 c2, .int .i64 k] W (GivesC W (turnB (pointsB b) k))) := fun A2 n2 c2 W h hn2 => C.turn A2 n2 c2 (pointsB b) k W h hn2 hpm hk
    have HY : Hid (∀ A2 n2 c2 W, Cs W A2 n2 c2 (turnB (pointsB b) k) → Calls Try.prog 22 #[.slice A2 n2 c2] W (GivesT W (bytesB (turnB (pointsB b) k)))) := fun A2 n2 c2 W h => C.bytes A2 n2 c2 _ W h
    rw [hbk] at HY
    have htl := turn_len (pointsB b) k
    clear hB hbk hpm h1
    generalize turnB (pointsB b) k = l2 at *
    generalize pointsB b = l at *
    generalize l2.length = q2 at *
    subst htl
    have HPL := Lib.hid hpl
    clear hpl hk
    go_enter Try.func7, Try.ntmps7
    go_wp2_with (fail)
    refine HP.out.mono ?_
    rintro e w2 ⟨v2, rfl, hown2, T2⟩
    obtain ⟨A2, d2', hv, hcs2⟩ := hown2.shape
    subst hv
    have HTT := Lib.hid (HT.out A2 l.length d2' w2 hcs2 (by have := HPL.out; omega))
    clear hown2 hcs2 HP HT
    obtain ⟨q, hq⟩ : ∃ q, l.length = q := ⟨_, rfl⟩
    rw [hq] at HTT
    rw [hq]
    clear hq HPL
    go_wp2_with (fail)
    refine HTT.out.mono ?_
    rintro e w3 ⟨v3, rfl, hown3, T3⟩
    obtain ⟨A3, d3', hv, hcs3⟩ := hown3.shape
    subst hv
    have T3 := nxt T2 T3
    have HYY := Lib.hid (HY.out A3 l2.length d3' w3 hcs3)
    clear hown3 hcs3 HY
    obtain ⟨q3, hq3⟩ : ∃ q, l2.length = q := ⟨_, rfl⟩
    rw [hq3] at HYY
    rw [hq3]
    clear hq3
    go_wp2_with (fail)
    refine HYY.out.mono ?_
    rintro e w4 ⟨A4, n4, d4', rfl, hb4, T4⟩
    have T4 := nxt T3 T4
    have HB4 := Lib.hid hb4
    clear hb4
    go_wp2_with (fail)
    refine (num_any 0 _).mono ?_
    rintro e w5 ⟨rfl, rfl⟩
    go_wp2_with (fail)
    refine (same_true' A4 A n4 d4' n c b w4 HB4.out (HBB.out.below T4)).mono ?_
    rintro e w5 ⟨rfl, T5⟩
    have T5 := nxt T4 T5
    go_wp2_with (fail)
    refine (live07_any C _).mono ?_
    rintro e w9 ⟨rfl, T9⟩
    have T := nxt T5 T9
    go_wp2
    go_ret
    exact ⟨rfl, T⟩
end Go.Proofs.Ytgkbgkgfjbmniaa
