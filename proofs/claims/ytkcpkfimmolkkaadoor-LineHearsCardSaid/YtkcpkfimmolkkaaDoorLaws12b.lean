/- The walks of layer 12's statements, over the contracts of phase and line: Hears. -/
import Derived.Test.YtkcpkfimmolkkaaDoorLaws12
namespace Go.Proofs.YtkcpkfimmolkkaaDoor
open Go.RowKit
set_option maxRecDepth 20000

theorem low_mid12 {p : Pt} (h : Low p) : Mid p := by unfold Low at h; unfold Mid; omega
set_option maxHeartbeats 8000000 in
theorem walk_LineHears {Tab : World → Prop} (D : PhC) (C : LiC Tab) (A : Option Addr) (n c : Nat) (l : List Pt) (w : World) (hT : Tab w) (hP : Ps w A n c l) :
    Calls Tryd.prog 4 #[.slice A n c] w fun e w' => e = .returned (.bool true) ∧ Below w.heap.size w w' := by
  have HLV := Lib.hid (fun W (T : Below w.heap.size w W) => live12_any C W (C.keep _ _ hT T))
  have hlen := hP.len
  subst hlen
  by_cases h1 : 600 < l.length
  · have d1 : decide ((600 : Int) < (l.length : Int)) = true := by simp; omega
    go_enter Tryd.func4, Tryd.ntmps4
    go_wp2_with (fail)
    refine (HLV.out _ (Below.refl _ _)).mono ?_
    rintro e w9 ⟨rfl, T9⟩
    go_wp2
    go_ret
    exact ⟨rfl, T9⟩
  · have d1 : decide ((600 : Int) < (l.length : Int)) = false := by simp; omega
    have HSM := Lib.hid (small_any A l.length c l w hP)
    have HOF := Lib.hid (fun W (T : Below w.heap.size w W) (hM : ∀ p ∈ l, Low p) => lof_any D A l.length c l W (hP.below T) (by omega) (fun p hp => low_mid12 (hM p hp)))
    have HHE := Lib.hid (fun A n c l W (T : Below w.heap.size w W) h k => C.hear A n c l W h k (C.keep _ _ hT T))
    have HRH := Lib.hid (fun W (T : Below w.heap.size w W) => rhear_any A l.length c l W (hP.below T) (by omega))
    have HNM := Lib.hid num12_any
    have hcm := hP.cap
    have hnc := hP.le
    have HC := Lib.hid (fun h => hP.at_ h)
    clear hP
    by_cases h2 : l.length ≤ 400
    · have d2 : decide ((l.length : Int) ≤ 400) = true := by simp; omega
      go_enter Tryd.func4, Tryd.ntmps4
      go_wp2_with (fail)
      refine HSM.out.mono ?_
      rintro e w1 ⟨r, rfl, -, rfl⟩
      cases r with
      | false =>
        go_wp2_with (fail)
        refine (HLV.out _ (Below.refl _ _)).mono ?_
        rintro e w9 ⟨rfl, T9⟩
        go_wp2
        go_ret
        exact ⟨rfl, T9⟩
      | true =>
        go_wp2_with (fail)
        go_loopw [3] (fun i wr => ∃ j : Nat, j ≤ l.length ∧ i = .int .i64 (j : Int) ∧ Hid (∀ p ∈ l.take j, Low p) ∧ Below w.heap.size w wr) (fun i _ => l.length - (intOf i).toNat)
        case atStart => exact ⟨0, Nat.zero_le _, rfl, fun p hp => by simp at hp, Below.refl _ _⟩
        case round =>
          obtain ⟨j, hj, rfl, HL, hbel⟩ := hrel
          by_cases hlt : j < l.length
          · obtain ⟨g, o, rfl, hg, hc⟩ := HC.out (by omega)
            obtain ⟨c1, c2⟩ := hc j hlt
            have c1 := (hbel.cell (p := ⟨g, o + j * 2, none⟩) hg).trans c1
            have c2 := (hbel.cell (p := ⟨g, o + j * 2 + 1, none⟩) hg).trans c2
            have hst : ∀ p ∈ l.take (j + 1), p ∈ l.take j ∨ p = l[j] := by
              intro p hp
              rw [List.take_succ_eq_append_getElem hlt] at hp
              rcases List.mem_append.1 hp with h | h
              · exact .inl h
              · exact .inr (List.mem_singleton.1 h)
            generalize l[j] = x at *
            obtain ⟨xa, xb⟩ := x
            simp only at c1 c2
            have HST := Lib.hid hst
            clear hst hc
            by_cases y1 : xa < -1000
            · have z1 : decide (xa < -1000) = true := by simpa using y1
              go_wp2_with (fail)
              refine (HLV.out _ hbel).mono ?_
              rintro e w9 ⟨rfl, T9⟩
              have T9 := nxt hbel T9
              go_wp2
              go_ret
              exact ⟨rfl, T9⟩
            · have z1 : decide (xa < -1000) = false := by simpa using y1
              by_cases y2 : 1000 < xa
              · have z2 : decide (1000 < xa) = true := by simpa using y2
                go_wp2_with (fail)
                refine (HLV.out _ hbel).mono ?_
                rintro e w9 ⟨rfl, T9⟩
                have T9 := nxt hbel T9
                go_wp2
                go_ret
                exact ⟨rfl, T9⟩
              · have z2 : decide (1000 < xa) = false := by simpa using y2
                by_cases y3 : xb < -1000
                · have z3 : decide (xb < -1000) = true := by simpa using y3
                  go_wp2_with (fail)
                  refine (HLV.out _ hbel).mono ?_
                  rintro e w9 ⟨rfl, T9⟩
                  have T9 := nxt hbel T9
                  go_wp2
                  go_ret
                  exact ⟨rfl, T9⟩
                · have z3 : decide (xb < -1000) = false := by simpa using y3
                  by_cases y4 : 1000 < xb
                  · have z4 : decide (1000 < xb) = true := by simpa using y4
                    go_wp2_with (fail)
                    refine (HLV.out _ hbel).mono ?_
                    rintro e w9 ⟨rfl, T9⟩
                    have T9 := nxt hbel T9
                    go_wp2
                    go_ret
                    exact ⟨rfl, T9⟩
                  · have z4 : decide (1000 < xb) = false := by simpa using y4
                    have HLX : Hid (Low (xa, xb)) := ⟨by show -1000 ≤ xa; omega, by show xa ≤ 1000; omega, by show -1000 ≤ xb; omega, by show xb ≤ 1000; omega⟩
                    go_wp2
                    go_roundw
                    case rel =>
                      refine ⟨j + 1, by omega, by go_num, fun p hp => ?_, hbel⟩
                      rcases HST.out p hp with h | h
                      · exact HL.out p h
                      · rw [h]; exact HLX.out
                    case measure => simp [intOf]; omega
          · obtain rfl : j = l.length := by omega
            have HLL : Hid (∀ p ∈ l, Low p) := by have := HL.out; rw [List.take_length] at this; exact this
            go_wp2_with (fail)
            refine (HOF.out _ hbel HLL.out).mono ?_
            rintro e w1 ⟨v1, rfl, hown1, T1⟩
            obtain ⟨A1, c1, rfl, hcs1⟩ := hown1.shape
            have HC1 := Lib.hid hcs1
            have T1 := nxt hbel T1
            clear hown1 hcs1
            go_wp2_with (fail)
            refine (HHE.out A1 _ c1 l _ T1 HC1.out (by omega)).mono ?_
            rintro e w2 ⟨r, A2, n2, c2, hr, rfl, hB2, T2⟩
            have HR := Lib.hid hr
            have HB2 := Lib.hid hB2
            have T2 := nxt T1 T2
            clear hr hB2
            go_wp2_with (fail)
            refine (HRH.out _ T2).mono ?_
            rintro e w3 ⟨s, A3, n3, c3, hs, rfl, hB3, T3⟩
            obtain rfl := HR.out.unique hs
            have HB2 := Lib.hid (HB2.out.below T3)
            have HB3 := Lib.hid hB3
            have T3 := nxt T2 T3
            clear hs hB3 HR
            obtain ⟨rb, rm, re⟩ := r
            have f1 : ((rm : Int) == (rm : Int)) = true := by simp
            have f2 : ((re : Int) == (re : Int)) = true := by simp
            go_wp2_with (fail)
            refine (same_true A2 A3 n2 c2 n3 c3 rb w3 HB2.out HB3.out).mono ?_
            rintro e w4 ⟨rfl, T4⟩
            have T4 := nxt T3 T4
            go_wp2_with (fail)
            refine (HNM.out _ _).mono ?_
            rintro e w5 ⟨rfl, rfl⟩
            go_wp2_with (fail)
            refine (HLV.out _ T4).mono ?_
            rintro e w9 ⟨rfl, T9⟩
            have T9 := nxt T4 T9
            go_wp2
            go_ret
            exact ⟨rfl, T9⟩
    · have d2 : decide ((l.length : Int) ≤ 400) = false := by simp; omega
      go_enter Tryd.func4, Tryd.ntmps4
      go_wp2_with (fail)
      go_loopw [3] (fun i wr => ∃ j : Nat, j ≤ l.length ∧ i = .int .i64 (j : Int) ∧ Hid (∀ p ∈ l.take j, Low p) ∧ Below w.heap.size w wr) (fun i _ => l.length - (intOf i).toNat)
      case atStart => exact ⟨0, Nat.zero_le _, rfl, fun p hp => by simp at hp, Below.refl _ _⟩
      case round =>
        obtain ⟨j, hj, rfl, HL, hbel⟩ := hrel
        by_cases hlt : j < l.length
        · obtain ⟨g, o, rfl, hg, hc⟩ := HC.out (by omega)
          obtain ⟨c1, c2⟩ := hc j hlt
          have c1 := (hbel.cell (p := ⟨g, o + j * 2, none⟩) hg).trans c1
          have c2 := (hbel.cell (p := ⟨g, o + j * 2 + 1, none⟩) hg).trans c2
          have hst : ∀ p ∈ l.take (j + 1), p ∈ l.take j ∨ p = l[j] := by
            intro p hp
            rw [List.take_succ_eq_append_getElem hlt] at hp
            rcases List.mem_append.1 hp with h | h
            · exact .inl h
            · exact .inr (List.mem_singleton.1 h)
          generalize l[j] = x at *
          obtain ⟨xa, xb⟩ := x
          simp only at c1 c2
          have HST := Lib.hid hst
          clear hst hc
          by_cases y1 : xa < -1000
          · have z1 : decide (xa < -1000) = true := by simpa using y1
            go_wp2_with (fail)
            refine (HLV.out _ hbel).mono ?_
            rintro e w9 ⟨rfl, T9⟩
            have T9 := nxt hbel T9
            go_wp2
            go_ret
            exact ⟨rfl, T9⟩
          · have z1 : decide (xa < -1000) = false := by simpa using y1
            by_cases y2 : 1000 < xa
            · have z2 : decide (1000 < xa) = true := by simpa using y2
              go_wp2_with (fail)
              refine (HLV.out _ hbel).mono ?_
              rintro e w9 ⟨rfl, T9⟩
              have T9 := nxt hbel T9
              go_wp2
              go_ret
              exact ⟨rfl, T9⟩
            · have z2 : decide (1000 < xa) = false := by simpa using y2
              by_cases y3 : xb < -1000
              · have z3 : decide (xb < -1000) = true := by simpa using y3
                go_wp2_with (fail)
                refine (HLV.out _ hbel).mono ?_
                rintro e w9 ⟨rfl, T9⟩
                have T9 := nxt hbel T9
                go_wp2
                go_ret
                exact ⟨rfl, T9⟩
              · have z3 : decide (xb < -1000) = false := by simpa using y3
                by_cases y4 : 1000 < xb
                · have z4 : decide (1000 < xb) = true := by simpa using y4
                  go_wp2_with (fail)
                  refine (HLV.out _ hbel).mono ?_
                  rintro e w9 ⟨rfl, T9⟩
                  have T9 := nxt hbel T9
                  go_wp2
                  go_ret
                  exact ⟨rfl, T9⟩
                · have z4 : decide (1000 < xb) = false := by simpa using y4
                  have HLX : Hid (Low (xa, xb)) := ⟨by show -1000 ≤ xa; omega, by show xa ≤ 1000; omega, by show -1000 ≤ xb; omega, by show xb ≤ 1000; omega⟩
                  go_wp2
                  go_roundw
                  case rel =>
                    refine ⟨j + 1, by omega, by go_num, fun p hp => ?_, hbel⟩
                    rcases HST.out p hp with h | h
                    · exact HL.out p h
                    · rw [h]; exact HLX.out
                  case measure => simp [intOf]; omega
        · obtain rfl : j = l.length := by omega
          have HLL : Hid (∀ p ∈ l, Low p) := by have := HL.out; rw [List.take_length] at this; exact this
          go_wp2_with (fail)
          refine (HOF.out _ hbel HLL.out).mono ?_
          rintro e w1 ⟨v1, rfl, hown1, T1⟩
          obtain ⟨A1, c1, rfl, hcs1⟩ := hown1.shape
          have HC1 := Lib.hid hcs1
          have T1 := nxt hbel T1
          clear hown1 hcs1
          go_wp2_with (fail)
          refine (HHE.out A1 _ c1 l _ T1 HC1.out (by omega)).mono ?_
          rintro e w2 ⟨r, A2, n2, c2, hr, rfl, hB2, T2⟩
          have HR := Lib.hid hr
          have HB2 := Lib.hid hB2
          have T2 := nxt T1 T2
          clear hr hB2
          go_wp2_with (fail)
          refine (HRH.out _ T2).mono ?_
          rintro e w3 ⟨s, A3, n3, c3, hs, rfl, hB3, T3⟩
          obtain rfl := HR.out.unique hs
          have HB2 := Lib.hid (HB2.out.below T3)
          have HB3 := Lib.hid hB3
          have T3 := nxt T2 T3
          clear hs hB3 HR
          obtain ⟨rb, rm, re⟩ := r
          have f1 : ((rm : Int) == (rm : Int)) = true := by simp
          have f2 : ((re : Int) == (re : Int)) = true := by simp
          go_wp2_with (fail)
          refine (same_true A2 A3 n2 c2 n3 c3 rb w3 HB2.out HB3.out).mono ?_
          rintro e w4 ⟨rfl, T4⟩
          have T4 := nxt T3 T4
          go_wp2_with (fail)
          refine (HNM.out _ _).mono ?_
          rintro e w5 ⟨rfl, rfl⟩
          go_wp2_with (fail)
          refine (HLV.out _ T4).mono ?_
          rintro e w9 ⟨rfl, T9⟩
          have T9 := nxt T4 T9
          go_wp2
          go_ret
          exact ⟨rfl, T9⟩
end Go.Proofs.YtkcpkfimmolkkaaDoor
