/- The walk of layer 18's TallyAdds, over the contracts of tally. -/
import Derived.Test.YteeimfooaoaahaaTlH
import Derived.Deep.RegionHeld3
import Derived.IntWalk
namespace Go.Proofs.Yteeimfooaoaahaa
open Go.RowKit

set_option maxRecDepth 20000 in
set_option maxHeartbeats 16000000 in
theorem walk_TallyAdds {T : Nat → List Tal → World → (Nat → Prop) → Prop} (C : TlC T) (A : Option Addr) (n c : Nat) (l : List Tld) (lab : Int) (A2 : Option Addr) (n2 c2 : Nat) (data : List UInt8) (w : World) (hR : Recs rdTold18 3 w A n c l) (hlab : I64 lab) (hBD : Bys w A2 n2 c2 data) (hn2 : n2 ≤ 140737488355328) :
    Calls Try.prog 3 #[.slice A n c, .int .i64 lab, .slice A2 n2 c2] w fun e w' => e = .returned (.bool true) ∧ Below w.heap.size w w' := by
  have HL := Lib.hid (fun W => live18_any C W)
  have HU := Lib.hid (huge18_any A n c l w hR)
  have HBD := Lib.hid (fun W (U : Below w.heap.size w W) => hBD.below U)
  have hlen := hR.1
  have hnc := hR.2.1
  have hcm := hR.2.2.1
  unfold maxLen at hcm
  have HC := Lib.hid hR.2.2.2
  have HLN := Lib.hid hlen
  have hsm : huge18 l = false → n ≤ 100 := fun h => by
    unfold huge18 at h
    rw [hlen] at h
    simp at h
    omega
  clear hR hlen hBD
  generalize huge18 l = hu at *
  cases hu with
  | true =>
    clear hsm
    go_enter Try.func3, Try.ntmps3
    go_wp2_with (fail)
    refine HU.out.mono ?_
    rintro e w1 ⟨rfl, T1⟩
    go_wp2_with (fail)
    refine (HL.out _).mono ?_
    rintro e w2 ⟨rfl, T2⟩
    have T2 := nxt T1 T2
    go_wp2
    go_ret
    exact ⟨rfl, T2⟩
  | false =>
    have hn100 := hsm rfl
    clear hsm
    have G1 := Lib.hid (fun W => C.new W)
    go_enter Try.func3, Try.ntmps3
    go_wp2_with (fail)
    refine HU.out.mono ?_
    rintro e w1 ⟨rfl, T1⟩
    go_wp2_with (fail)
    refine (G1.out _).mono ?_
    rintro e w2 ⟨ga, X0, rfl, q2, x2, T2⟩
    have T2w := nxt T1 T2
    have hx2 : ∀ k, X0 k → w.heap.size ≤ k := fun k hk => Nat.le_trans T1.size (x2 k hk)
    have HTW := Lib.hid (TwoAt.mk (C.holds _ _) (RA.holds _ _) q2 hx2 T2w.size ((Below.refl _ w2).alloc (Nat.le_refl _) (.cells #[.slice none 0 0] 31)) (ra_zero w2) (fun k hk => by omega))
    have T3w := T2w.alloc T2w.size (.cells #[.slice none 0 0] 31)
    clear q2 x2 hx2 T2w T1 T2
    go_wp2_with (fail)
    go_loopw [8, 9] (fun p i wr => ∃ (j gr : Nat) (al : List Tal) (X Y : Nat → Prop), j ≤ n ∧ p = .pointer (some ⟨gr, 0, none⟩) ∧ i = .int .i64 (j : Int) ∧ Hid (TOk j al) ∧ Hid (TwoAt w.heap.size (T ga al) (RA gr al) X Y wr) ∧ Below w.heap.size w wr) (fun _ i _ => n - (intOf i).toNat)
    case atStart => exact ⟨0, _, [], X0, _, Nat.zero_le _, rfl, rfl, TOk.nil 0, HTW, T3w⟩
    case round =>
      clear HTW T3w
      obtain ⟨j, gr, al, X, Y, hj, rfl, rfl, HOK, HT, hbel⟩ := hrel
      by_cases hlt : j < n
      · have d0 : decide ((j : Int) < (n : Int)) = true := by simp; omega
        have hjl : j < l.length := by rw [HLN.out]; exact hlt
        obtain ⟨b, o, rfl, hb, hc⟩ := HC.out (by omega)
        obtain ⟨⟨hxa, hxm⟩, A', c', q0, q1, q2, q3⟩ := hc j hjl
        have c0 := (hbel.cell (p := ⟨b, o + j * 3 + 2, none⟩) hb).trans q2
        have hjn : (j : Int) < (n : Int) := by omega
        clear hc
        generalize l[j] = x at *
        obtain ⟨xa, xd, xc⟩ := x
        simp only at hxa hxm c0 q0 q1 q3
        obtain ⟨L, hxl⟩ : ∃ L, xd.length = L := ⟨_, rfl⟩
        rw [hxl] at q1 q3 hxm
        have cM := Lib.hid (fun W (U : Below w.heap.size w W) => And.intro ((U.cell (p := ⟨b, o + j * 3, none⟩) hb).trans q0) ((U.cell (p := ⟨b, o + j * 3 + 1, none⟩) hb).trans q1))
        have BM := Lib.hid (fun W (U : Below w.heap.size w W) => q3.below U)
        clear q0 q1 q2 q3
        cases xc with
        | false =>
          have hxl := hxl
          have hok := HOK.out.ok (show j ≤ 1000 by omega)
          have hcj := HOK.out.count xa xd
          have F1 := Lib.hid (fun W h hB => C.add ga al xa A' L c' xd W X h hok (by have := HOK.out.1; omega) (by omega) hxa hB (by omega))
          have F2 := Lib.hid (fun W h hB => raadd_any gr al xa A' L c' xd W Y h hB (by have := HOK.out.1; omega) (by omega) (by omega))
          have HOK2 := Lib.hid (HOK.out.add xa xd (by rw [hxl]; omega) hxa)
          obtain ⟨cnt, hcnt⟩ : ∃ cnt, alCount al xa xd = cnt := ⟨_, rfl⟩
          rw [hcnt] at F1 F2 hcj
          have ne1 : (((cnt : Int) + 1) != ((cnt : Int) + 1)) = false := by simp
          have HD := Lib.hid (fun W (U : Below wr.heap.size wr W) => HT.out.below (C.holds _ _) (RA.holds _ _) U)
          have Y0 := (Below.refl wr.heap.size wr).drew
          have hbd := hbel.drew
          have hbdd := hbel.drew.drew
          clear hcnt hok
          generalize alAdd al xa xd = al2 at *
          go_wp2_with (fail)
          go_region_held3 (fun w' => w'.cell? ⟨b, o + j * 3, none⟩ = some (.int .i64 xa) ∧ w'.cell? ⟨b, o + j * 3 + 1, none⟩ = some (.slice A' L c')) (first | exact cM.out _ hb2 | exact cM.out _ hb1 | exact cM.out _ hbel | exact cM.out _ hbd | exact cM.out _ hbdd)
            (first
              | (go_at_call 10; (with_reducible refine (F1.out _ (by first | exact (HD.out _ Y0).p1 | exact (HD.out _ Y0.drew).p1) (by first | exact BM.out _ hbd | exact BM.out _ hbdd)).mono ?_); rintro e w1 ⟨rfl, X2, q1, t1⟩; have hh1 := (HD.out _ (by first | exact Y0 | exact Y0.drew)).left (C.holds _ _) (RA.holds _ _) q1 t1; have HT1 := Lib.hid hh1.1; have hb1 := Below.trans (by first | exact hbd | exact hbdd) hh1.2; clear q1 t1 hh1)
              | (go_at_call 11; (with_reducible refine (F2.out _ HT1.out.p2 (BM.out _ hb1)).mono ?_); rintro e w2 ⟨rfl, Y2, q2, t2⟩; have hh2 := HT1.out.right (C.holds _ _) (RA.holds _ _) q2 t2; have HT2 := Lib.hid hh2.1; have hb2 := hb1.trans hh2.2; clear q2 t2 hh2))
          all_goals
            have HT := Lib.hid HT2.out
            have hbel := hb2
            clear HT1 HT2 hb1 hb2 HD hbd hbdd Y0 F1 F2
            generalize w2 = w3 at *
            have hok2 := HOK2.out.ok (show j + 1 ≤ 1000 by omega)
            have E1 := fun W h => (show Calls Try.prog _ _ W (GivesBst W (alBest al2 xa).1 (alBest al2 xa).2) from C.best ga al2 xa W X2 h hok2 hxa)
            have E2 := fun W h => (show Calls Try.prog _ _ W (GivesBst W (alBest al2 xa).1 (alBest al2 xa).2) from rabest_any gr al2 xa W Y2 h)
            have E3 := Lib.hid (fun W h1 h2 => alike_any C ga gr al2 W X2 Y2 h1 h2)
            have E4 := fun W h hB => C.count ga al2 lab A2 n2 c2 data W X2 h hok2 hlab hB hn2
            have E5 := fun W h hB => racount_any gr al2 lab A2 n2 c2 data W Y2 h hB
            generalize alBest al2 xa = bb at *
            obtain ⟨bd, bn⟩ := bb
            simp only at E1 E2
            generalize alCount al2 lab data = c0 at *
            have E1 := Lib.hid E1
            have E2 := Lib.hid E2
            have E4 := Lib.hid E4
            have E5 := Lib.hid E5
            have KC := Lib.hid (fun W (U : Below w3.heap.size w3 W) => And.intro (cM.out W (hbel.trans (U.mono hbel.size))).1 (And.intro (HT.out.below (C.holds _ _) (RA.holds _ _) U) (HBD.out W (hbel.trans (U.mono hbel.size)))))
            have n1 : ((bn : Int) != (bn : Int)) = false := by simp
            have n2' : ((c0 : Int) != (c0 : Int)) = false := by simp
            have P3 := Below.refl w3.heap.size w3
            have k3 := (KC.out _ P3).1
            go_wp2_with (fail)
            refine (E1.out _ (KC.out _ P3).2.1.p1).mono ?_
            rintro e u1 ⟨B1, m1, d1', rfl, G1, U1⟩
            have P4 := nxt P3 U1
            have b1 := Lib.hid G1.1
            have k4 := (KC.out _ P4).1
            clear G1
            go_wp2_with (fail)
            refine (E2.out _ (KC.out _ P4).2.1.p2).mono ?_
            rintro e u2 ⟨B2, m2, d2', rfl, G2, U2⟩
            have P5 := nxt P4 U2
            have b1 := Lib.hid (b1.out.below U2)
            have b2 := Lib.hid G2.1
            clear G2 P4 k3 k4
            go_wp2_with (fail)
            refine (E3.out _ (KC.out _ P5).2.1.p1 (KC.out _ P5).2.1.p2).mono ?_
            rintro e u3 ⟨rfl, U3⟩
            have P6 := nxt P5 U3
            have b1 := Lib.hid (b1.out.below U3)
            have b2 := Lib.hid (b2.out.below U3)
            go_wp2_with (fail)
            refine (same_true B1 B2 m1 d1' m2 d2' bd _ b1.out b2.out).mono ?_
            rintro e u4 ⟨rfl, U4⟩
            have P7 := nxt P6 U4
            clear b1 b2 P5 P6
            go_wp2_with (fail)
            refine (E4.out _ (KC.out _ P7).2.1.p1 (KC.out _ P7).2.2).mono ?_
            rintro e u5 ⟨rfl, U5⟩
            have P8 := nxt P7 U5
            go_wp2_with (fail)
            refine (E5.out _ (KC.out _ P8).2.1.p2 (KC.out _ P8).2.2).mono ?_
            rintro e u6 ⟨rfl, U6⟩
            have P9 := nxt P8 U6
            have HTn := Lib.hid (KC.out _ P9).2.1
            have hbn := hbel.trans (P9.mono hbel.size)
            clear P7 P8 P9
            go_wp2
            go_roundw
            case rel => exact ⟨j + 1, gr, al2, X2, Y2, by omega, rfl, by go_num, HOK2, HTn, hbn⟩
            case measure => simp [intOf]; omega
        | true =>
          have F0 := Lib.hid (C.clear ga al wr X HT.out.1 (HOK.out.ok (show j ≤ 1000 by omega)))
          go_wp2_with (fail)
          refine F0.out.mono ?_
          rintro e w1 ⟨rfl, X, q1, t1⟩
          obtain ⟨HT1, hb1⟩ := HT.out.left (C.holds _ _) (RA.holds _ _) q1 t1
          have hb1 := hbel.trans hb1
          have HT := Lib.hid (TwoAt.mk (C.holds _ _) (RA.holds _ _) HT1.1 HT1.2.2.1 HT1.2.2.2.2.2.2.2 ((Below.refl _ w1).alloc (Nat.le_refl _) (.cells #[.slice none 0 0] 31)) (ra_zero w1) (fun k hk => by omega))
          have hbel := hb1.alloc hb1.size (.cells #[.slice none 0 0] 31)
          have HOK : Hid (TOk j []) := TOk.nil j
          clear q1 t1 HT1 F0 hb1
          go_wp2_with (fail)
          generalize w1.heap.size = gr at *
          generalize w1.alloc (.cells #[.slice none 0 0] 31) = wr at *
          generalize (fun x : Nat => x = gr) = Y at *
          generalize ([] : List Tal) = al at *
          have hok := HOK.out.ok (show j ≤ 1000 by omega)
          have hcj := HOK.out.count xa xd
          have F1 := Lib.hid (fun W h hB => C.add ga al xa A' L c' xd W X h hok (by have := HOK.out.1; omega) (by omega) hxa hB (by omega))
          have F2 := Lib.hid (fun W h hB => raadd_any gr al xa A' L c' xd W Y h hB (by have := HOK.out.1; omega) (by omega) (by omega))
          have HOK2 := Lib.hid (HOK.out.add xa xd (by rw [hxl]; omega) hxa)
          obtain ⟨cnt, hcnt⟩ : ∃ cnt, alCount al xa xd = cnt := ⟨_, rfl⟩
          rw [hcnt] at F1 F2 hcj
          have ne1 : (((cnt : Int) + 1) != ((cnt : Int) + 1)) = false := by simp
          have HD := Lib.hid (fun W (U : Below wr.heap.size wr W) => HT.out.below (C.holds _ _) (RA.holds _ _) U)
          have Y0 := (Below.refl wr.heap.size wr).drew
          have hbd := hbel.drew
          have hbdd := hbel.drew.drew
          clear hcnt hok
          generalize alAdd al xa xd = al2 at *
          go_wp2_with (fail)
          go_region_held3 (fun w' => w'.cell? ⟨b, o + j * 3, none⟩ = some (.int .i64 xa) ∧ w'.cell? ⟨b, o + j * 3 + 1, none⟩ = some (.slice A' L c')) (first | exact cM.out _ hb2 | exact cM.out _ hb1 | exact cM.out _ hbel | exact cM.out _ hbd | exact cM.out _ hbdd)
            (first
              | (go_at_call 10; (with_reducible refine (F1.out _ (by first | exact (HD.out _ Y0).p1 | exact (HD.out _ Y0.drew).p1) (by first | exact BM.out _ hbd | exact BM.out _ hbdd)).mono ?_); rintro e w1 ⟨rfl, X2, q1, t1⟩; have hh1 := (HD.out _ (by first | exact Y0 | exact Y0.drew)).left (C.holds _ _) (RA.holds _ _) q1 t1; have HT1 := Lib.hid hh1.1; have hb1 := Below.trans (by first | exact hbd | exact hbdd) hh1.2; clear q1 t1 hh1)
              | (go_at_call 11; (with_reducible refine (F2.out _ HT1.out.p2 (BM.out _ hb1)).mono ?_); rintro e w2 ⟨rfl, Y2, q2, t2⟩; have hh2 := HT1.out.right (C.holds _ _) (RA.holds _ _) q2 t2; have HT2 := Lib.hid hh2.1; have hb2 := hb1.trans hh2.2; clear q2 t2 hh2))
          all_goals
            have HT := Lib.hid HT2.out
            have hbel := hb2
            clear HT1 HT2 hb1 hb2 HD hbd hbdd Y0 F1 F2
            generalize w2 = w3 at *
            have hok2 := HOK2.out.ok (show j + 1 ≤ 1000 by omega)
            have E1 := fun W h => (show Calls Try.prog _ _ W (GivesBst W (alBest al2 xa).1 (alBest al2 xa).2) from C.best ga al2 xa W X2 h hok2 hxa)
            have E2 := fun W h => (show Calls Try.prog _ _ W (GivesBst W (alBest al2 xa).1 (alBest al2 xa).2) from rabest_any gr al2 xa W Y2 h)
            have E3 := Lib.hid (fun W h1 h2 => alike_any C ga gr al2 W X2 Y2 h1 h2)
            have E4 := fun W h hB => C.count ga al2 lab A2 n2 c2 data W X2 h hok2 hlab hB hn2
            have E5 := fun W h hB => racount_any gr al2 lab A2 n2 c2 data W Y2 h hB
            generalize alBest al2 xa = bb at *
            obtain ⟨bd, bn⟩ := bb
            simp only at E1 E2
            generalize alCount al2 lab data = c0 at *
            have E1 := Lib.hid E1
            have E2 := Lib.hid E2
            have E4 := Lib.hid E4
            have E5 := Lib.hid E5
            have KC := Lib.hid (fun W (U : Below w3.heap.size w3 W) => And.intro (cM.out W (hbel.trans (U.mono hbel.size))).1 (And.intro (HT.out.below (C.holds _ _) (RA.holds _ _) U) (HBD.out W (hbel.trans (U.mono hbel.size)))))
            have n1 : ((bn : Int) != (bn : Int)) = false := by simp
            have n2' : ((c0 : Int) != (c0 : Int)) = false := by simp
            have P3 := Below.refl w3.heap.size w3
            have k3 := (KC.out _ P3).1
            go_wp2_with (fail)
            refine (E1.out _ (KC.out _ P3).2.1.p1).mono ?_
            rintro e u1 ⟨B1, m1, d1', rfl, G1, U1⟩
            have P4 := nxt P3 U1
            have b1 := Lib.hid G1.1
            have k4 := (KC.out _ P4).1
            clear G1
            go_wp2_with (fail)
            refine (E2.out _ (KC.out _ P4).2.1.p2).mono ?_
            rintro e u2 ⟨B2, m2, d2', rfl, G2, U2⟩
            have P5 := nxt P4 U2
            have b1 := Lib.hid (b1.out.below U2)
            have b2 := Lib.hid G2.1
            clear G2 P4 k3 k4
            go_wp2_with (fail)
            refine (E3.out _ (KC.out _ P5).2.1.p1 (KC.out _ P5).2.1.p2).mono ?_
            rintro e u3 ⟨rfl, U3⟩
            have P6 := nxt P5 U3
            have b1 := Lib.hid (b1.out.below U3)
            have b2 := Lib.hid (b2.out.below U3)
            go_wp2_with (fail)
            refine (same_true B1 B2 m1 d1' m2 d2' bd _ b1.out b2.out).mono ?_
            rintro e u4 ⟨rfl, U4⟩
            have P7 := nxt P6 U4
            clear b1 b2 P5 P6
            go_wp2_with (fail)
            refine (E4.out _ (KC.out _ P7).2.1.p1 (KC.out _ P7).2.2).mono ?_
            rintro e u5 ⟨rfl, U5⟩
            have P8 := nxt P7 U5
            go_wp2_with (fail)
            refine (E5.out _ (KC.out _ P8).2.1.p2 (KC.out _ P8).2.2).mono ?_
            rintro e u6 ⟨rfl, U6⟩
            have P9 := nxt P8 U6
            have HTn := Lib.hid (KC.out _ P9).2.1
            have hbn := hbel.trans (P9.mono hbel.size)
            clear P7 P8 P9
            go_wp2
            go_roundw
            case rel => exact ⟨j + 1, gr, al2, X2, Y2, by omega, rfl, by go_num, HOK2, HTn, hbn⟩
            case measure => simp [intOf]; omega
      · have d0 : decide ((j : Int) < (n : Int)) = false := by simp; omega
        obtain rfl : j = n := by omega
        have hok := HOK.out.ok (show j ≤ 1000 by omega)
        have E1 := fun W h => (show Calls Try.prog _ _ W (GivesBst W (alBest al lab).1 (alBest al lab).2) from C.best ga al lab W X h hok hlab)
        have E2 := fun W h => (show Calls Try.prog _ _ W (GivesBst W (alBest al lab).1 (alBest al lab).2) from rabest_any gr al lab W Y h)
        generalize alBest al lab = bb at *
        obtain ⟨bd, bn⟩ := bb
        simp only at E1 E2
        have E1 := Lib.hid E1
        have E2 := Lib.hid E2
        have n1 : ((bn : Int) == (bn : Int)) = true := by simp
        go_wp2_with (fail)
        refine (E1.out _ HT.out.p1).mono ?_
        rintro e u1 ⟨B1, m1, d1', rfl, G1, U1⟩
        have b1 := Lib.hid G1.1
        clear G1
        go_wp2_with (fail)
        refine (E2.out _ (HT.out.below (C.holds _ _) (RA.holds _ _) U1).p2).mono ?_
        rintro e u2 ⟨B2, m2, d2', rfl, G2, U2⟩
        have b1 := Lib.hid (b1.out.below U2)
        have b2 := Lib.hid G2.1
        have hb2 := nxt (nxt hbel U1) U2
        clear G2
        go_wp2_with (fail)
        refine (same_true B1 B2 m1 d1' m2 d2' bd _ b1.out b2.out).mono ?_
        rintro e u3 ⟨rfl, U3⟩
        have hb3 := nxt hb2 U3
        clear b1 b2
        go_wp2_with (fail)
        refine (HL.out _).mono ?_
        rintro e u4 ⟨rfl, U4⟩
        have hb4 := nxt hb3 U4
        go_wp2
        go_ret
        exact ⟨rfl, hb4⟩
end Go.Proofs.Yteeimfooaoaahaa
