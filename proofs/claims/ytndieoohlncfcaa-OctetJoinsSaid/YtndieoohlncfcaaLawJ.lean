/- The walk of OctetJoins. -/
import Derived.Test.YtndieoohlncfcaaLaws
namespace Go.Proofs.Ytndieoohlncfcaa
open Go.RowKit

theorem lens_take (ls : List (List UInt8)) (k : Nat) (h : k < ls.length) : Lib.lens (ls.take (k + 1)) = Lib.lens (ls.take k) + ls[k].length := by
  rw [← flat_len, ← flat_len, flat_take ls k h, List.length_append]

theorem litrow2 (W : World) (A B : Option Addr) (a b d e : Nat) (x y : List UInt8) (hx : x.length = a) (hy : y.length = b) (h1 : Bys W A a d x) (h2 : Bys W B b e y) :
    Rws (W.alloc (.cells #[.slice A a d, .slice B b e] 24)) (some ⟨W.heap.size, 0, none⟩) 2 2 [x, y] := by
  subst hx; subst hy
  refine ⟨rfl, Nat.le_refl _, by unfold maxLen; omega, fun _ => ⟨W.heap.size, 0, [.slice A x.length d, .slice B y.length e], rfl, by simp, rfl, ?_, ?_⟩⟩
  · intro j hj
    match j, hj with
    | 0, _ => simp
    | 1, _ => simp
  · intro j hj hj'
    match j, hj, hj' with
    | 0, _, _ => exact ⟨A, d, rfl, h1.alloc _⟩
    | 1, _, _ => exact ⟨B, e, rfl, h2.alloc _⟩

set_option maxRecDepth 20000 in
set_option maxHeartbeats 4000000 in
theorem walk_OctetJoins (P : Option Addr) (pn pc : Nat) (ls : List (List UInt8)) (A : Option Addr) (n c : Nat) (l : List UInt8) (x : Int) (w : World) (hR : Rws w P pn pc ls) (hin : ∀ k (h : k < ls.length), ls[k].length ≤ 140737488351232) (hB : Bys w A n c l) (hn : n ≤ 140737488351232) :
    Calls Try.prog 6 #[.slice P pn pc, .slice A n c, .int .i64 x] w fun e w' => e = .returned (.bool true) ∧ Below w.heap.size w w' := by
  have hpn := hR.1
  by_cases h50 : 50 < pn
  · go_enter Try.func6, Try.ntmps6
    go_wp2_with (fail)
    refine (live_any _).mono ?_
    rintro e w8 ⟨rfl, T⟩
    go_wp2_with (fail)
    go_ret
    exact ⟨rfl, T⟩
  · have hat := hR.at_
    have HA := Lib.hid hat; clear hat
    have HR := Lib.hid hR; clear hR
    have HI := Lib.hid hin; clear hin
    subst hpn
    go_enter Try.func6, Try.ntmps6
    go_wp2_with (fail)
    go_loop [7, 8] (fun t i => ∃ k : Nat, k ≤ ls.length ∧ i = .int .i64 k ∧ Lib.lens (ls.take k) ≤ 4000 ∧ t = .int .i64 (Lib.lens (ls.take k) : Int)) (fun _ i => ls.length - (intOf i).toNat)
    case atStart => exact ⟨0, Nat.zero_le _, rfl, by simp [Lib.lens], rfl⟩
    case round =>
      obtain ⟨k, hk, rfl, h4, rfl⟩ := hrel
      by_cases hlt : k < ls.length
      · obtain ⟨b, o, A1, d, rfl, hb, hk', hc, hB1⟩ := HA.out k hlt
        have hcap := hB1.le
        have hcm := hB1.cap
        have HL := Lib.hid (lens_take ls k hlt)
        have hy := HI.out k hlt
        clear hB1 hcap hcm
        generalize ls[k] = y at *
        go_wp2_with (fail)
        · refine (live_any _).mono ?_
          rintro e w8 ⟨rfl, T⟩
          go_wp2_with (fail)
          go_ret
          exact ⟨rfl, T⟩
        · have h5 : (Lib.lens (ls.take k) : Int) + (y.length : Int) ≤ 4000 := by first | assumption | omega
          go_round
          case rel => exact ⟨k + 1, by omega, by go_num, by rw [HL.out]; omega, by rw [HL.out]; go_num⟩
          case measure => simp [intOf]; omega
      · obtain rfl : k = ls.length := by omega
        have h4' : Lib.lens ls ≤ 4000 := by rw [List.take_length] at h4; exact h4
        clear h4 hlt hk HI HA
        by_cases hx : x < 0 ∨ (n : Int) < x
        · have H1 := Lib.hid (cut_no A n c x w hx)
          have J := Lib.hid (ojoin_any P ls.length pc ls w HR.out (by omega) (by omega))
          rcases hx with hx | hx
          · have d1 : decide (0 ≤ x) = false := by simp; omega
            go_wp2_with (fail)
            refine H1.out.mono ?_
            rintro e w0 ⟨rfl, rfl⟩
            go_wp2_with (fail)
            refine J.out.mono ?_
            rintro e w1 ⟨Aj, nj, cj, rfl, Bj, T⟩
            have R1 := HR.out.below T
            go_wp2_with (fail)
            refine (rjoin_any P ls.length pc ls w1 R1 (by omega)).mono ?_
            rintro e w2 ⟨Ar, nr, cr, rfl, Br, G⟩
            have T := nxt T G
            have Bj := Bj.below G
            clear G R1
            go_wp2_with (fail)
            refine (same_true _ _ _ _ _ _ _ _ Bj Br).mono ?_
            rintro e w7 ⟨rfl, G⟩
            have T := nxt T G
            clear G
            go_wp2_with (fail)
            refine (live_any _).mono ?_
            rintro e w8 ⟨rfl, G⟩
            have T := nxt T G
            clear G
            go_wp2_with (fail)
            go_ret
            exact ⟨rfl, T⟩
          · have d1 : decide (0 ≤ x) = true := by simp; omega
            have d2 : decide (x ≤ (n : Int)) = false := by simp; omega
            go_wp2_with (fail)
            refine H1.out.mono ?_
            rintro e w0 ⟨rfl, rfl⟩
            go_wp2_with (fail)
            refine J.out.mono ?_
            rintro e w1 ⟨Aj, nj, cj, rfl, Bj, T⟩
            have R1 := HR.out.below T
            go_wp2_with (fail)
            refine (rjoin_any P ls.length pc ls w1 R1 (by omega)).mono ?_
            rintro e w2 ⟨Ar, nr, cr, rfl, Br, G⟩
            have T := nxt T G
            have Bj := Bj.below G
            clear G R1
            go_wp2_with (fail)
            refine (same_true _ _ _ _ _ _ _ _ Bj Br).mono ?_
            rintro e w7 ⟨rfl, G⟩
            have T := nxt T G
            clear G
            go_wp2_with (fail)
            refine (live_any _).mono ?_
            rintro e w8 ⟨rfl, G⟩
            have T := nxt T G
            clear G
            go_wp2_with (fail)
            go_ret
            exact ⟨rfl, T⟩
        · obtain ⟨k, rfl⟩ := Int.eq_ofNat_of_zero_le (show 0 ≤ x by omega)
          have hk : k ≤ n := by omega
          have d1 : decide (0 ≤ (k : Int)) = true := by simp
          have d2 : decide ((k : Int) ≤ (n : Int)) = true := by simp; omega
          have d3 : decide (k ≤ n) = true := by simp; omega
          have hlen := hB.len
          have hle := hB.le
          have hcap := hB.cap
          have hlt : (l.take k).length = k := by simp; omega
          have hld : (l.drop k).length = n - k := by simp; omega
          have hcat : [l.take k, l.drop k].flatten = l := by simp
          have hlens : Lib.lens [l.take k, l.drop k] ≤ 140737488355328 := by simp [Lib.lens]; omega
          have HLT := Lib.hid hlt; clear hlt
          have HLD := Lib.hid hld; clear hld
          have HCAT := Lib.hid hcat; clear hcat
          have HLENS := Lib.hid hlens; clear hlens
          clear hlen
          obtain ⟨s1, -⟩ := cut_hi hB k hk
          obtain ⟨A2', s2, b2⟩ := cut_lo hB k hk
          have b1 := hB.take k hk
          go_wp2_with (fail)
          refine (cut_yes A n c k l w hB (by omega) hk).mono ?_
          rintro e w1 ⟨A1, c1, A2, c2, rfl, B1, B2, T⟩
          have hB := hB.below T
          have b1 := b1.below T
          have b2 := b2.below T
          have R1 := HR.out.below T
          go_wp2_with (fail)
          refine (ojoin_any P ls.length pc ls w1 R1 (by omega) (by omega)).mono ?_
          rintro e w2 ⟨Aj, nj, cj, rfl, Bj, G⟩
          have T := nxt T G
          have hB := hB.below G
          have b1 := b1.below G
          have b2 := b2.below G
          have B1 := B1.below G
          have B2 := B2.below G
          have R1 := R1.below G
          clear G
          go_wp2_with (fail)
          refine (same_true _ _ _ _ _ _ _ _ B1 b1).mono ?_
          rintro e w3 ⟨rfl, G⟩
          have T := nxt T G
          have hB := hB.below G
          have b2 := b2.below G
          have B1 := B1.below G
          have B2 := B2.below G
          have R1 := R1.below G
          have Bj := Bj.below G
          clear G b1
          go_wp2_with (fail)
          refine (same_true _ _ _ _ _ _ _ _ B2 b2).mono ?_
          rintro e w4 ⟨rfl, G⟩
          have T := nxt T G
          have hB := hB.below G
          have B1 := B1.below G
          have B2 := B2.below G
          have R1 := R1.below G
          have Bj := Bj.below G
          clear G b2
          go_wp2_with (fail)
          refine (ojoin_any _ 2 2 _ _ (litrow2 w4 A1 A2 k (n - k) c1 c2 _ _ HLT.out HLD.out B1 B2) (by decide) HLENS.out).mono ?_
          rintro e w5 ⟨Ac, nc, cc, rfl, Bc, G⟩
          rw [HCAT.out] at Bc
          have T := nxt (T.alloc T.size _) G
          have hB := (hB.alloc _).below G
          have R1 := (R1.below ((Below.refl _ _).alloc (Nat.le_refl _) _)).below G
          have Bj := (Bj.alloc _).below G
          clear G B1 B2
          go_wp2_with (fail)
          refine (same_true _ _ _ _ _ _ _ _ Bc hB).mono ?_
          rintro e w6 ⟨rfl, G⟩
          have T := nxt T G
          have hB := hB.below G
          have R1 := R1.below G
          have Bj := Bj.below G
          clear G Bc
          go_wp2_with (fail)
          refine (rjoin_any P ls.length pc ls w6 R1 (by omega)).mono ?_
          rintro e w7 ⟨Ar, nr, cr, rfl, Br, G⟩
          have T := nxt T G
          have hB := hB.below G
          have Bj := Bj.below G
          clear G R1
          go_wp2_with (fail)
          refine (same_true _ _ _ _ _ _ _ _ Bj Br).mono ?_
          rintro e w8 ⟨rfl, G⟩
          have T := nxt T G
          have hB := hB.below G
          have Bj := Bj.below G
          clear G Br
          have S1 := osame_any Aj A nj cj n c ls.flatten l w8 Bj hB
          have S2 := same_any Aj A nj cj n c ls.flatten l w8 Bj hB
          generalize sameB ls.flatten l = O at *
          have S1 := Lib.hid S1
          have S2 := Lib.hid S2
          go_wp2_with (fail)
          refine S1.out.mono ?_
          rintro e w9 ⟨rfl, rfl⟩
          go_wp2_with (fail)
          refine S2.out.mono ?_
          rintro e w10 ⟨rfl, j, rfl⟩
          go_wp2_with (fail)
          refine (live_any _).mono ?_
          rintro e w11 ⟨rfl, G⟩
          have T := nxt (below_drewN' T j) G
          go_wp2_with (fail)
          go_ret
          exact ⟨rfl, T⟩
end Go.Proofs.Ytndieoohlncfcaa
