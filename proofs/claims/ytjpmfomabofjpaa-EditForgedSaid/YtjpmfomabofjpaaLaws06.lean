/- The walks of layer 6's statements: each law answers true and leaves what was there as it was. -/
import Derived.Test.YtjpmfomabofjpaaEdLive
import Derived.Test.YtjpmfomabofjpaaEdR2
import Derived.Test.YtjpmfomabofjpaaEdRMild
import Derived.Test.YtjpmfomabofjpaaRframe
namespace Go.Proofs.Ytjpmfomabofjpaa
open Go.RowKit

set_option maxHeartbeats 4000000 in
theorem walk_EditDoes (A : Option Addr) (n c : Nat) (b : List UInt8) (A2 : Option Addr) (n2 c2 : Nat) (l : List Ed) (w : World) (hB : Bys w A n c b) (hE : Eds w A2 n2 c2 l) :
    Calls Try.prog 3 #[.slice A n c, .slice A2 n2 c2] w fun e w' => e = .returned (.bool true) ∧ Below w.heap.size w w' := by
  have HL := Lib.hid (large_any A n c A2 n2 c2 w)
  by_cases hl : 600 < n ∨ 100 < n2
  · rw [decide_eq_true hl] at HL
    clear hB hE hl
    go_enter Try.func3, Try.ntmps3
    go_wp2_with (fail)
    refine HL.out.mono ?_
    rintro e w1 ⟨rfl, rfl⟩
    go_wp2_with (fail)
    refine (live06_any _).mono ?_
    rintro e w2 ⟨rfl, T⟩
    go_wp2
    go_ret
    exact ⟨rfl, T⟩
  · rw [decide_eq_false hl] at HL
    have hn : n ≤ 600 := by omega
    have hn2 : n2 ≤ 100 := by omega
    clear hl
    have HC := Lib.hid (rcopy_any A n c b w hB (by omega))
    have hbl := hB.len
    go_enter Try.func3, Try.ntmps3
    go_wp2_with (fail)
    refine HL.out.mono ?_
    rintro e w1 ⟨rfl, rfl⟩
    go_wp2_with (fail)
    refine HC.out.mono ?_
    rintro e w1 ⟨v1, rfl, hown1, T1⟩
    rw [hbl] at hown1
    obtain ⟨A1, d1, rfl⟩ := own_shape hown1
    have hb1 := Bys.of_own hown1
    have HD := Lib.hid (do_any A1 n d1 b A2 n2 c2 l w1 hb1 (hE.below T1) (by omega) (by omega))
    have HB1 := Lib.hid hb1
    have HB := Lib.hid hB
    have HE := Lib.hid hE
    clear hown1 hb1 hB hE HC HL
    go_wp2_with (fail)
    refine HD.out.mono ?_
    rintro e w2 ⟨v2, rfl, hown2, T2⟩
    have T12 := nxt T1 T2
    have HR := Lib.hid (rdo_any A n c b A2 n2 c2 l w2 (HB.out.below T12) (HE.out.below T12) (by omega) (by omega))
    generalize edDo b l = r at *
    obtain ⟨m, hm⟩ : ∃ m, r.length = m := ⟨_, rfl⟩
    rw [hm] at hown2
    obtain ⟨A3, d3, rfl⟩ := own_shape hown2
    have HO := Lib.hid (Bys.of_own hown2)
    clear hown2 hm HD
    go_wp2_with (fail)
    refine HR.out.mono ?_
    rintro e w3 ⟨A4, n4, d4, rfl, hb4, T3⟩
    have T13 := nxt T12 T3
    have HB4 := Lib.hid hb4
    clear hb4 HR
    go_wp2_with (fail)
    refine (same_true A3 A4 m d3 n4 d4 r w3 (HO.out.below T3) HB4.out).mono ?_
    rintro e w4 ⟨rfl, T4⟩
    have T14 := nxt T13 T4
    have HB1 := Lib.hid (HB1.out.below (nxt (nxt T2 T3) T4))
    go_wp2_with (fail)
    refine (same_true A1 A n d1 n c b w4 HB1.out (HB.out.below T14)).mono ?_
    rintro e w5 ⟨rfl, T5⟩
    have T15 := nxt T14 T5
    clear HB HB1 HE HO HB4
    go_wp2_with (fail)
    refine (live06_any _).mono ?_
    rintro e w6 ⟨rfl, T6⟩
    have T := nxt T15 T6
    go_wp2
    go_ret
    exact ⟨rfl, T⟩

theorem mild_nil (b : List UInt8) : decide (edMild b []) = true := by
  rw [decide_eq_true_iff]
  exact ⟨fun e h => by simp at h, fun e h => by simp at h⟩
set_option maxHeartbeats 4000000 in
theorem walk_EditMilds (A : Option Addr) (n c : Nat) (b : List UInt8) (A2 : Option Addr) (n2 c2 : Nat) (l : List Ed) (w : World) (hB : Bys w A n c b) (hE : Eds w A2 n2 c2 l) :
    Calls Try.prog 4 #[.slice A n c, .slice A2 n2 c2] w fun e w' => e = .returned (.bool true) ∧ Below w.heap.size w w' := by
  have HL := Lib.hid (large_any A n c A2 n2 c2 w)
  by_cases hl : 600 < n ∨ 100 < n2
  · rw [decide_eq_true hl] at HL
    clear hB hE hl
    go_enter Try.func4, Try.ntmps4
    go_wp2_with (fail)
    refine HL.out.mono ?_
    rintro e w1 ⟨rfl, rfl⟩
    go_wp2_with (fail)
    refine (live06_any _).mono ?_
    rintro e w2 ⟨rfl, T⟩
    go_wp2
    go_ret
    exact ⟨rfl, T⟩
  · rw [decide_eq_false hl] at HL
    have hn : n ≤ 600 := by omega
    clear hl
    have H1 := Lib.hid (mild_any A n c b A2 n2 c2 l w hB hE (by omega))
    have H2 : Hid (∀ W, Below w.heap.size w W → _) := fun W k => rmild_any A n c b A2 n2 c2 l W (hB.below k) (hE.below k) (by omega)
    have H3 : Hid (∀ W, Below w.heap.size w W → _) := fun W k => mild_any A n c b none 0 0 [] W (hB.below k) (Eds.nil W) (by omega)
    rw [mild_nil] at H3
    clear hB hE
    generalize decide (edMild b l) = r at *
    go_enter Try.func4, Try.ntmps4
    go_wp2_with (fail)
    refine HL.out.mono ?_
    rintro e w1 ⟨rfl, rfl⟩
    go_wp2_with (fail)
    refine H1.out.mono ?_
    rintro e w1 ⟨rfl, T1⟩
    go_wp2_with (fail)
    refine (H2.out _ T1).mono ?_
    rintro e w2 ⟨rfl, T2⟩
    have T2 := nxt T1 T2
    go_wp2_with (fail)
    refine (H3.out _ T2).mono ?_
    rintro e w3 ⟨rfl, T3⟩
    have T3 := nxt T2 T3
    go_wp2_with (fail)
    refine (live06_any _).mono ?_
    rintro e w4 ⟨rfl, T4⟩
    have T := nxt T3 T4
    go_wp2
    go_ret
    exact ⟨rfl, T⟩

theorem forged_self (f : List UInt8) : forgedB f f = false := by simp [forgedB]
theorem forged_none (f : List UInt8) : forgedB f [] = false := forgedB_nil rfl
set_option maxHeartbeats 4000000 in
theorem walk_EditForged (A : Option Addr) (n c : Nat) (f : List UInt8) (A2 : Option Addr) (n2 c2 : Nat) (b : List UInt8) (w : World) (hF : Bys w A n c f) (hB : Bys w A2 n2 c2 b) :
    Calls Try.prog 5 #[.slice A n c, .slice A2 n2 c2] w fun e w' => e = .returned (.bool true) ∧ Below w.heap.size w w' := by
  by_cases h1 : 600 < n
  · have d1 : decide ((600 : Int) < (n : Int)) = true := by simp; omega
    clear hF hB h1
    go_enter Try.func5, Try.ntmps5
    go_wp2_with (fail)
    refine (live06_any _).mono ?_
    rintro e w2 ⟨rfl, T⟩
    go_wp2
    go_ret
    exact ⟨rfl, T⟩
  · have d1 : decide ((600 : Int) < (n : Int)) = false := by simp; omega
    by_cases h2 : 600 < n2
    · have d2 : decide ((600 : Int) < (n2 : Int)) = true := by simp; omega
      clear hF hB h1 h2
      go_enter Try.func5, Try.ntmps5
      go_wp2_with (fail)
      refine (live06_any _).mono ?_
      rintro e w2 ⟨rfl, T⟩
      go_wp2
      go_ret
      exact ⟨rfl, T⟩
    · have d2 : decide ((600 : Int) < (n2 : Int)) = false := by simp; omega
      have H1 : Hid (∀ t W, Below w.heap.size w W → Tab W t → _) := fun t W k ht => forged_any t A n c f A2 n2 c2 b W ht (hF.below k) (hB.below k) (by omega) (by omega)
      have H2 : Hid (∀ W, Below w.heap.size w W → _) := fun W k => rforged_any A n c f A2 n2 c2 b W (hF.below k) (hB.below k) (by omega) (by omega)
      have H3 : Hid (∀ t W, Below w.heap.size w W → Tab W t → _) := fun t W k ht => forged_any t A n c f A n c f W ht (hF.below k) (hF.below k) (by omega) (by omega)
      have H4 : Hid (∀ t W, Below w.heap.size w W → Tab W t → _) := fun t W k ht => forged_any t A n c f none 0 0 [] W ht (hF.below k) (Bys.nil W) (by omega) (by omega)
      rw [forged_self] at H3
      rw [forged_none] at H4
      clear hF hB h1 h2
      generalize forgedB f b = r at *
      go_enter Try.func5, Try.ntmps5
      go_wp2_with (fail)
      refine (new_any w).mono ?_
      rintro e w1 ⟨t, rfl, ht, T1⟩
      go_wp2_with (fail)
      refine (H1.out t _ T1 ht).mono ?_
      rintro e w2 ⟨rfl, T2⟩
      have ht := ht.below T2
      have T2 := nxt T1 T2
      go_wp2_with (fail)
      refine (H2.out _ T2).mono ?_
      rintro e w3 ⟨rfl, T3⟩
      have ht := ht.below T3
      have T3 := nxt T2 T3
      go_wp2_with (fail)
      refine (H3.out t _ T3 ht).mono ?_
      rintro e w4 ⟨rfl, T4⟩
      have ht := ht.below T4
      have T4 := nxt T3 T4
      go_wp2_with (fail)
      refine (H4.out t _ T4 ht).mono ?_
      rintro e w5 ⟨rfl, T5⟩
      have T5 := nxt T4 T5
      go_wp2_with (fail)
      refine (live06_any _).mono ?_
      rintro e w6 ⟨rfl, T6⟩
      have T := nxt T5 T6
      go_wp2
      go_ret
      exact ⟨rfl, T⟩

set_option maxHeartbeats 4000000 in
theorem walk_EditSafe (A : Option Addr) (n c : Nat) (b : List UInt8) (A2 : Option Addr) (n2 c2 : Nat) (l : List Ed) (w : World) (hB : Bys w A n c b) (hE : Eds w A2 n2 c2 l) :
    Calls Try.prog 6 #[.slice A n c, .slice A2 n2 c2] w fun e w' => e = .returned (.bool true) ∧ Below w.heap.size w w' := by
  by_cases h1 : 96 < n
  · have HW := Lib.hid (rwrap_long A n c w h1)
    clear hB hE h1
    go_enter Try.func6, Try.ntmps6
    go_wp2_with (fail)
    refine HW.out.mono ?_
    rintro e w1 ⟨rfl, rfl⟩
    go_wp2_with (fail)
    refine (live06_any _).mono ?_
    rintro e w2 ⟨rfl, T⟩
    go_wp2
    go_ret
    exact ⟨rfl, T⟩
  · have HW := Lib.hid (rwrap_any A n c b w hB (by omega))
    have hbl : b.length ≤ 96 := by have := hB.len; omega
    have hwl := frameW_len b
    have HS := Lib.hid (fun h => edit_safe b l hbl h)
    have HE := Lib.hid hE
    clear hB hE
    generalize frameW b = f at *
    have hfl : f.length ≤ 1000 := by omega
    have HFL := Lib.hid hfl
    clear hwl hfl hbl h1
    by_cases h2 : 20 < n2
    · have d2 : decide ((20 : Int) < (n2 : Int)) = true := by simp; omega
      clear h2
      go_enter Try.func6, Try.ntmps6
      go_wp2_with (fail)
      refine HW.out.mono ?_
      rintro e w1 ⟨A1, n1, c1, rfl, hb1, T1⟩
      clear hb1
      go_wp2_with (fail)
      refine (live06_any _).mono ?_
      rintro e w2 ⟨rfl, T⟩
      have T := nxt T1 T
      go_wp2
      go_ret
      exact ⟨rfl, T⟩
    · have d2 : decide ((20 : Int) < (n2 : Int)) = false := by simp; omega
      by_cases h3 : edMild f l
      · have HM := decide_eq_true h3
        have HN := Lib.hid (HS.out h3)
        have HM := Lib.hid HM
        clear h3 HS
        go_enter Try.func6, Try.ntmps6
        go_wp2_with (fail)
        refine HW.out.mono ?_
        rintro e w1 ⟨A1, n1, c1, rfl, hb1, T1⟩
        have hl1 := hb1.len
        have H1 := mild_any A1 n1 c1 f A2 n2 c2 l w1 hb1 (HE.out.below T1) (by have := HFL.out; omega)
        rw [HM.out] at H1
        have H1 := Lib.hid H1
        have HB1 := Lib.hid hb1
        have HL1 := Lib.hid hl1
        clear hb1 hl1
        go_wp2_with (fail)
        refine H1.out.mono ?_
        rintro e w2 ⟨rfl, T2⟩
        have T12 := nxt T1 T2
        have HB2 := Lib.hid (HB1.out.below T2)
        clear H1 HB1
        go_wp2_with (fail)
        refine (new_any w2).mono ?_
        rintro e w3 ⟨t, rfl, ht, T3⟩
        have T13 := nxt T12 T3
        have HB3 := Lib.hid (HB2.out.below T3)
        have hdo := do_any A1 n1 c1 f A2 n2 c2 l w3 HB3.out (HE.out.below T13) (by have := HFL.out; have := HL1.out; omega) (by omega)
        have HDO := Lib.hid hdo
        clear hdo HB2
        go_wp2_with (fail)
        refine HDO.out.mono ?_
        rintro e w4 ⟨v4, rfl, hown4, T4⟩
        have hlen4 : (edDo f l).length ≤ 1000000 := by have := edDo_len f l l.length; rw [List.take_length] at this; have := HFL.out; have := HE.out.len; omega
        have HB4 := Lib.hid (HB3.out.below T4)
        have ht4 := ht.below T4
        generalize edDo f l = r at *
        obtain ⟨m, hm⟩ : ∃ m, r.length = m := ⟨_, rfl⟩
        rw [hm] at hown4 hlen4
        obtain ⟨A5, d5, rfl⟩ := own_shape hown4
        have HF := forged_any t A1 n1 c1 f A5 m d5 r w4 ht4 HB4.out (Bys.of_own hown4) (by have := HFL.out; have := HL1.out; omega) hlen4
        rw [HN.out] at HF
        have HF := Lib.hid HF
        have T14 := nxt T13 T4
        clear hown4 hm ht ht4 HDO HB3 HB4
        go_wp2_with (fail)
        refine HF.out.mono ?_
        rintro e w5 ⟨rfl, T5⟩
        have T15 := nxt T14 T5
        go_wp2_with (fail)
        refine (live06_any _).mono ?_
        rintro e w6 ⟨rfl, T6⟩
        have T := nxt T15 T6
        go_wp2
        go_ret
        exact ⟨rfl, T⟩
      · have HM := Lib.hid (decide_eq_false h3)
        clear h3 HS
        go_enter Try.func6, Try.ntmps6
        go_wp2_with (fail)
        refine HW.out.mono ?_
        rintro e w1 ⟨A1, n1, c1, rfl, hb1, T1⟩
        have hl1 := hb1.len
        have H1 := mild_any A1 n1 c1 f A2 n2 c2 l w1 hb1 (HE.out.below T1) (by have := HFL.out; omega)
        rw [HM.out] at H1
        have H1 := Lib.hid H1
        clear hb1 hl1
        go_wp2_with (fail)
        refine H1.out.mono ?_
        rintro e w2 ⟨rfl, T2⟩
        have T12 := nxt T1 T2
        go_wp2_with (fail)
        refine (live06_any _).mono ?_
        rintro e w3 ⟨rfl, T3⟩
        have T := nxt T12 T3
        go_wp2
        go_ret
        exact ⟨rfl, T⟩
end Go.Proofs.Ytjpmfomabofjpaa
