/- The walk of layer 16's FlightDoes, over the contracts of flight. -/
import Derived.Test.YtgppoapdpgblmaaFliD
import Derived.Deep.RegionHeld3
import Derived.IntWalk
namespace Go.Proofs.Ytgppoapdpgblmaa
open Go.RowKit

set_option maxRecDepth 20000 in
set_option maxHeartbeats 16000000 in
theorem walk_FlightDoes {F : Nat → Fs → World → (Nat → Prop) → Prop} (C : FliC F) (life : Int) (A : Option Addr) (n c : Nat) (l : List Act16) (w : World) (hlife : I64 life) (hR : Recs rdAct16 5 w A n c l) :
    Calls Try.prog 3 #[.int .i64 life, .slice A n c] w fun e w' => e = .returned (.bool true) ∧ Below w.heap.size w w' := by
  have HL := Lib.hid (fun W => live16_any C W)
  have HN := Lib.hid num16_any
  have HU := Lib.hid (few16_any A n c l w hR)
  have hlen := hR.1
  have hnc := hR.2.1
  have hcm := hR.2.2.1
  unfold maxLen at hcm
  have HC := Lib.hid hR.2.2.2
  have HLN := Lib.hid hlen
  have HFW := Lib.hid (fun h => few16_of (l := l) h)
  clear hR hlen
  generalize few16 l = fw at *
  cases fw with
  | false =>
    go_enter Try.func3, Try.ntmps3
    go_wp2_with (fail)
    refine HU.out.mono ?_
    rintro e w1 ⟨rfl, T1⟩
    go_wp2_with (fail)
    refine (HL.out _).mono ?_
    rintro e w2 ⟨rfl, T2⟩
    have T2 := nxt T1 T2
    go_wp2
    go_ret
    exact ⟨rfl, T2⟩
  | true =>
    have hn60 : n ≤ 60 := by have := (HFW.out rfl).1; rw [HLN.out] at this; exact this
    have HFW2 := Lib.hid (HFW.out rfl).2
    clear HFW
    by_cases hrr : life < 0 ∨ 4096 < life
    · have G1 := Lib.hid (fun W => C.new_no life W hlife hrr)
      have G2 := Lib.hid (fun W => rfnew_no life W hrr)
      clear hrr
      go_enter Try.func3, Try.ntmps3
      go_wp2_with (fail)
      refine HU.out.mono ?_
      rintro e w1 ⟨rfl, T1⟩
      go_wp2_with (fail)
      refine (G1.out _).mono ?_
      rintro e w2 ⟨rfl, T2⟩
      have T2 := nxt T1 T2
      go_wp2_with (fail)
      refine (G2.out _).mono ?_
      rintro e w3 ⟨rfl, rfl⟩
      go_wp2_with (fail)
      refine (HN.out _ _).mono ?_
      rintro e w3 ⟨rfl, rfl⟩
      go_wp2_with (fail)
      go_loopw [9] (fun i wr => i = .int .i64 0 ∧ Below w.heap.size w wr) (fun _ _ => 0)
      case atStart => exact ⟨rfl, T2⟩
      case round =>
        obtain ⟨rfl, hbel⟩ := hrel
        obtain ⟨t0, d0⟩ : ∃ t, decide ((0 : Int) < (n : Int)) = t := ⟨_, rfl⟩
        have d1 : decide (0 < n) = t0 := by rw [← d0]; rw [decide_eq_decide]; omega
        cases t0
        all_goals
          go_wp2_with (fail)
          refine (HL.out _).mono ?_
          rintro e w4 ⟨rfl, T4⟩
          have T4 := nxt hbel T4
          go_wp2
          go_ret
          exact ⟨rfl, T4⟩
    · obtain ⟨lf, rfl⟩ := Int.eq_ofNat_of_zero_le (show 0 ≤ life by omega)
      have hlf : lf ≤ 4096 := by omega
      have G1 := Lib.hid (fun W => C.new_yes lf W hlf)
      have G2 := Lib.hid (fun W => rfnew_yes lf W hlf)
      clear hrr
      go_enter Try.func3, Try.ntmps3
      go_wp2_with (fail)
      refine HU.out.mono ?_
      rintro e w1 ⟨rfl, T1⟩
      go_wp2_with (fail)
      refine (G1.out _).mono ?_
      rintro e w2 ⟨ga, X0, rfl, q2, x2, T2⟩
      have T2w := nxt T1 T2
      have hx2 : ∀ k, X0 k → w.heap.size ≤ k := fun k hk => Nat.le_trans T1.size (x2 k hk)
      have Q2 := Lib.hid q2
      clear q2 x2
      go_wp2_with (fail)
      refine (G2.out _).mono ?_
      rintro e w3 ⟨rfl, r3, T3⟩
      have HTW := Lib.hid (TwoAt.mk (C.holds _ _) (RF.holds _ _) Q2.out hx2 T2w.size T3 r3 (fun k hk => by omega))
      have T3w := nxt T2w T3
      clear r3 hx2 T2w T2 T1 T3
      generalize w2.heap.size = gr at *
      go_wp2_with (fail)
      refine (HN.out _ _).mono ?_
      rintro e w4 ⟨rfl, rfl⟩
      go_wp2_with (fail)
      go_loopw [9] (fun i wr => ∃ (j : Nat) (s : Fs) (X Y : Nat → Prop), j ≤ n ∧ i = .int .i64 (j : Int) ∧ Hid (SOk j s) ∧ Hid (TwoAt w.heap.size (F ga s) (RF gr s) X Y wr) ∧ Below w.heap.size w wr) (fun i _ => n - (intOf i).toNat)
      case atStart => exact ⟨0, _, X0, _, Nat.zero_le _, rfl, SOk.new lf, HTW, T3w⟩
      case round =>
        clear HTW T3w
        obtain ⟨j, s, X, Y, hj, rfl, HOK, HT, hbel⟩ := hrel
        by_cases hlt : j < n
        · have d0 : decide ((j : Int) < (n : Int)) = true := by simp; omega
          have hjl : j < l.length := by rw [HLN.out]; exact hlt
          obtain ⟨b, o, rfl, hb, hc⟩ := HC.out (by omega)
          obtain ⟨⟨hxk, hxd, hxa⟩, A', c', E', ce', q0, q1, q2, q3, q4, qB, qE⟩ := hc j hjl
          have hxe := HFW2.out j hjl
          have c0 := (hbel.cell (p := ⟨b, o + j * 5, none⟩) hb).trans q0
          have c1 := (hbel.cell (p := ⟨b, o + j * 5 + 1, none⟩) hb).trans q1
          have c2 := (hbel.cell (p := ⟨b, o + j * 5 + 2, none⟩) hb).trans q2
          have c3 := (hbel.cell (p := ⟨b, o + j * 5 + 3, none⟩) hb).trans q3
          have c4 := (hbel.cell (p := ⟨b, o + j * 5 + 4, none⟩) hb).trans q4
          have hjn : (j : Int) < (n : Int) := by omega
          clear hc q0 q1 q2 q3 q4
          generalize l[j] = x at *
          obtain ⟨xk, xd, xa, xw, xe⟩ := x
          simp only at hxk hxd hxa hxe c0 c1 c2 c3 c4 qB qE
          obtain ⟨L, hL⟩ : ∃ L, xw.length = L := ⟨_, rfl⟩
          obtain ⟨M, hM⟩ : ∃ M, xe.length = M := ⟨_, rfl⟩
          rw [hL] at c3 qB
          rw [hM] at c4 qE hxe
          clear hL hM
          have BM := Lib.hid (fun W (U : Below w.heap.size w W) => qB.below U)
          have EM := Lib.hid (fun W (U : Below w.heap.size w W) => qE.below U)
          obtain ⟨xb, hxb⟩ : ∃ xb, wr.heap.size = xb := ⟨_, rfl⟩
          have T0 := (Below.refl _ wr).alloc (Nat.le_refl _) (.cells #[.int .i64 xk, .int .i64 xd, .int .i64 xa, .slice A' L c', .slice E' M ce'] 36)
          have HTa := Lib.hid (HT.out.below (C.holds _ _) (RF.holds _ _) T0)
          have hba := hbel.alloc hbel.size (.cells #[.int .i64 xk, .int .i64 xd, .int .i64 xa, .slice A' L c', .slice E' M ce'] 36)
          have KA0 := heap_alloc_new wr (.cells #[.int .i64 xk, .int .i64 xd, .int .i64 xa, .slice A' L c', .slice E' M ce'] 36)
          have hxy : ¬ X wr.heap.size ∧ ¬ Y wr.heap.size ∧ wr.heap.size < (wr.alloc (.cells #[.int .i64 xk, .int .i64 xd, .int .i64 xa, .slice A' L c', .slice E' M ce'] 36)).heap.size := ⟨fun h => by have := HT.out.2.2.2.2.2.1 _ h; omega, fun h => by have := HT.out.2.2.2.2.2.2.1 _ h; omega, by simp⟩
          rw [hxb] at KA0 hxy
          have KA := Lib.hid KA0
          have HXY := Lib.hid hxy
          have HAV := Lib.hid (And.intro (av_in qB HT.out.2.2.1) (av_in qB HT.out.2.2.2.1))
          clear KA0 hxy T0
          clear qB qE
          by_cases hk0 : xk = 0
          · have dk0 : (xk == 0) = true := by simpa using hk0
            clear hk0
            go_wp2_with (fail)
            generalize hwa : wr.alloc (.cells #[.int .i64 xk, .int .i64 xd, .int .i64 xa, .slice A' L c', .slice E' M ce'] 36) = wa at *
            clear hwa hxb
            clear c0 c1 c2 c3 c4
            have F1 := Lib.hid (fun W h (U : Below w.heap.size w W) => C.put ga s xd A' L c' xw W X h hxd (BM.out W U) HAV.out.1 (by have := HOK.out.1; omega) (by have := HOK.out.2.1; omega) (by have := HOK.out.2.2; have := HOK.out.1; have := HOK.out.2.1; omega))
            have F2 := Lib.hid (fun W h (U : Below w.heap.size w W) => rfput_any gr s xd A' L c' xw W Y h (BM.out W U) HAV.out.2 (by have := HOK.out.1; omega) (by have := HOK.out.2.1; omega) (by have := HOK.out.2.2; have := HOK.out.1; have := HOK.out.2.1; omega))
            have HOK2 := Lib.hid (HOK.out.put xd xw)
            obtain ⟨pe, hpe⟩ : ∃ pe, fsPutE s xd L = pe := ⟨_, rfl⟩
            rw [hpe] at F1 F2
            clear hpe
            have ne1 : ((pe : Int) != (pe : Int)) = false := by simp
            have HD := Lib.hid (fun W (U : Below wa.heap.size wa W) => HTa.out.below (C.holds _ _) (RF.holds _ _) U)
            have Y0 := (Below.refl wa.heap.size wa).drew
            have hbd := hba.drew
            have hbdd := hba.drew.drew
            generalize fsPut s xd xw = s2 at *
            go_wp2_with (fail)
            go_region_held3 (fun w' => w'.cell? ⟨xb, 1, none⟩ = some (.int .i64 xd) ∧ w'.cell? ⟨xb, 2, none⟩ = some (.int .i64 xa) ∧ w'.cell? ⟨xb, 3, none⟩ = some (.slice A' L c') ∧ w'.cell? ⟨xb, 4, none⟩ = some (.slice E' M ce')) (first | exact row5c K2.out | exact row5c K1.out | exact row5c KA.out)
              (first
                | (go_at_call 11; (with_reducible refine (F1.out _ (by first | exact (HD.out _ Y0).p1 | exact (HD.out _ Y0.drew).p1) (by first | exact hbd | exact hbdd)).mono ?_); rintro e w1 ⟨rfl, X2, q1, t1⟩; have hh1 := (HD.out _ (by first | exact Y0 | exact Y0.drew)).left (C.holds _ _) (RF.holds _ _) q1 t1; have HT1 := Lib.hid hh1.1; have hb1 := Below.trans (by first | exact hbd | exact hbdd) hh1.2; have K1 := Lib.hid ((t1.off.block _ HXY.out.2.2 HXY.out.1).trans KA.out); have h1s := t1.off.size; clear q1 t1 hh1)
                | (go_at_call 10; (with_reducible refine (HN.out _ _).mono ?_); rintro e w1' ⟨rfl, rfl⟩)
                | (go_at_call 12; (with_reducible refine (F2.out _ HT1.out.p2 hb1).mono ?_); rintro e w2 ⟨rfl, Y2, q2, t2⟩; have hh2 := HT1.out.right (C.holds _ _) (RF.holds _ _) q2 t2; have HTz := Lib.hid hh2.1; have hbz := hb1.trans hh2.2; have K2 := Lib.hid ((t2.off.block _ (Nat.lt_of_lt_of_le HXY.out.2.2 h1s) HXY.out.2.1).trans K1.out); clear q2 t2 hh2))
            all_goals
              clear HT1 hb1 HD hbd hbdd Y0 F1 F2 K1 K2 h1s
              generalize w2 = wz at *
              obtain ⟨v0, v1, hrv⟩ := HTz.out.p2
              have E3 := Lib.hid (alike16_any C ga gr s2 v0 v1 wz X2 Y2 HTz.out.p1 hrv)
              clear hrv
              go_wp2_with (fail)
              refine E3.out.mono ?_
              rintro e wy ⟨rfl, Ty⟩
              have HTy := Lib.hid (HTz.out.below (C.holds _ _) (RF.holds _ _) Ty)
              have hby := nxt hbz Ty
              go_wp2
              go_roundw
              case rel => exact ⟨j + 1, s2, X2, Y2, by omega, by go_num, HOK2, HTy, hby⟩
              case measure => simp [intOf]; omega
          · have dk0 : (xk == 0) = false := by simpa using hk0
            clear hk0
            by_cases hk1 : xk = 1
            · have dk1 : (xk == 1) = true := by simpa using hk1
              have F1 := Lib.hid (fun W h => C.take ga s xd xa W X h hxd hxa)
              have F2 := Lib.hid (fun W h => rftake_any gr s xd xa W Y h)
              have HOK2 := Lib.hid (HOK.out.take xd xa)
              clear hk1
              generalize fsTake s xd xa = s2 at *
              generalize fsAt s xd xa = r at *
              obtain ⟨⟨rn, ta, tb⟩, re⟩ := r
              have n3 : ((re : Int) != (re : Int)) = false := by simp
              have HSA := Lib.hid (fun (Y1 Y2 Y3 Y4 : Nat → Prop) u1 u2 u3 u4 W x1 x2 x3 x4 => rfsame_true rn ta tb Y1 Y2 Y3 Y4 u1 u2 u3 u4 W x1 x2 x3 x4)
              go_wp2_with (fail)
              generalize hwa : wr.alloc (.cells #[.int .i64 xk, .int .i64 xd, .int .i64 xa, .slice A' L c', .slice E' M ce'] 36) = wa at *
              clear hwa hxb
              clear c0 c1 c2 c3 c4
              refine (F1.out _ HTa.out.p1).mono ?_
              rintro e w1 ⟨Aa, ca, Ab, cb, X2, rfl, f1, f2, in1, in2, q1, t1⟩
              simp only at f1 f2 in1 in2 ⊢
              have av1 := HTa.out.told in1
              have av2 := HTa.out.told in2
              obtain ⟨HT1, hb1'⟩ := HTa.out.left (C.holds _ _) (RF.holds _ _) q1 t1
              have HT1 := Lib.hid HT1
              have hb1 := hba.trans hb1'
              have K1 := (t1.off.block _ HXY.out.2.2 HXY.out.1).trans KA.out
              have h1s := t1.off.size
              have fb1 := f1.1
              have fb2 := f2.1
              obtain ⟨m1, hm1⟩ : ∃ m, ta.length = m := ⟨_, rfl⟩
              obtain ⟨m2, hm2⟩ : ∃ m, tb.length = m := ⟨_, rfl⟩
              rw [hm1] at fb1 av1 ⊢
              rw [hm2] at fb2 av2 ⊢
              have HM12 := Lib.hid (And.intro hm1 hm2)
              have ba := (Below.refl _ w1).alloc (Nat.le_refl _) (.cells #[.int .i64 (rn : Int), .slice Aa m1 ca, .slice Ab m2 cb] 40)
              have HTb := Lib.hid (HT1.out.below (C.holds _ _) (RF.holds _ _) ba)
              have hbb := hb1.alloc hb1.size (.cells #[.int .i64 (rn : Int), .slice Aa m1 ca, .slice Ab m2 cb] 40)
              obtain ⟨p1, p2, -, -⟩ := row5c (hp_old K1 (.cells #[.int .i64 (rn : Int), .slice Aa m1 ca, .slice Ab m2 cb] 40))
              have G6 := Lib.hid (heap_alloc_new w1 (.cells #[.int .i64 (rn : Int), .slice Aa m1 ca, .slice Ab m2 cb] 40))
              have hfy : ¬ Y w1.heap.size := fun h => by have := HT1.out.2.2.2.2.2.2.1 _ h; omega
              have HFY := Lib.hid hfy
              have HBY := Lib.hid (And.intro (And.intro (fb1.below ba) av1) (And.intro (fb2.below ba) av2))
              clear f1 f2 in1 in2 q1 t1 fb1 fb2 av1 av2 hm1 hm2 hfy hb1' ba K1
              go_wp2_with (fail)
              refine (F2.out _ HTb.out.p2).mono ?_
              rintro e w2 ⟨u1, u2, rfl, y1, y2, Y2, q2, t2⟩
              simp only at y1 y2 ⊢
              obtain ⟨Ac, cc, rfl, _, _⟩ := id y1
              obtain ⟨Ad, cd, rfl, _, _⟩ := id y2
              obtain ⟨HT2, hb2'⟩ := HTb.out.right (C.holds _ _) (RF.holds _ _) q2 t2
              have HT2 := Lib.hid HT2
              have hb2 := hbb.trans hb2'
              have g6 := (t2.off.block _ (lt_row G6.out) HFY.out).trans G6.out
              have ba := (Below.refl _ w2).alloc (Nat.le_refl _) (.cells #[.int .i64 (rn : Int), .slice Ac ta.length cc, .slice Ad tb.length cd] 40)
              have x1 := (HBY.out.1.1.off HBY.out.1.2 t2.off).below ba
              have x2 := (HBY.out.2.1.off HBY.out.2.2 t2.off).below ba
              have z1 : Tx (w2.alloc (.cells #[.int .i64 (rn : Int), .slice Ac ta.length cc, .slice Ad tb.length cd] 40)) (fun _ => False) ta (.slice Aa m1 ca) := by
                rw [← HM12.out.1] at x1 ⊢
                exact ⟨_, _, rfl, x1, fun _ _ _ h => h⟩
              have z2 : Tx (w2.alloc (.cells #[.int .i64 (rn : Int), .slice Ac ta.length cc, .slice Ad tb.length cd] 40)) (fun _ => False) tb (.slice Ab m2 cb) := by
                rw [← HM12.out.2] at x2 ⊢
                exact ⟨_, _, rfl, x2, fun _ _ _ h => h⟩
              have HY := Lib.hid (And.intro (And.intro z1 z2) (And.intro (y1.below ba) (y2.below ba)))
              have HTc := Lib.hid (HT2.out.below (C.holds _ _) (RF.holds _ _) ba)
              have hbc := hb2.alloc hb2.size (.cells #[.int .i64 (rn : Int), .slice Ac ta.length cc, .slice Ad tb.length cd] 40)
              obtain ⟨p0, p1, p2⟩ := eq3 (hp_old g6 (.cells #[.int .i64 (rn : Int), .slice Ac ta.length cc, .slice Ad tb.length cd] 40))
              obtain ⟨r0, r1, r2⟩ := eq3 (heap_alloc_new w2 (.cells #[.int .i64 (rn : Int), .slice Ac ta.length cc, .slice Ad tb.length cd] 40))
              clear x1 x2 z1 z2 y1 y2 ba g6 q2 t2 hb2'
              generalize ta.length = m3 at *
              generalize tb.length = m4 at *
              go_wp2_with (fail)
              refine (HN.out _ _).mono ?_
              rintro e w8 ⟨rfl, rfl⟩
              go_wp2_with (fail)
              refine (HSA.out _ _ _ _ _ _ _ _ _ HY.out.1.1 HY.out.1.2 HY.out.2.1 HY.out.2.2).mono ?_
              rintro e wz ⟨rfl, T9⟩
              have HTz := Lib.hid (HTc.out.below (C.holds _ _) (RF.holds _ _) T9)
              have hbz := nxt hbc T9
              clear HY HTc HT2 HTb HT1 HBY
              obtain ⟨v0, v1, hrv⟩ := HTz.out.p2
              have E3 := Lib.hid (alike16_any C ga gr s2 v0 v1 wz X2 Y2 HTz.out.p1 hrv)
              clear hrv
              go_wp2_with (fail)
              refine E3.out.mono ?_
              rintro e wy ⟨rfl, Ty⟩
              have HTy := Lib.hid (HTz.out.below (C.holds _ _) (RF.holds _ _) Ty)
              have hby := nxt hbz Ty
              go_wp2
              go_roundw
              case rel => exact ⟨j + 1, s2, X2, Y2, by omega, by go_num, HOK2, HTy, hby⟩
              case measure => simp [intOf]; omega
            · have dk1 : (xk == 1) = false := by simpa using hk1
              clear hk1
              by_cases hk2 : xk = 2
              · have dk2 : (xk == 2) = true := by simpa using hk2
                clear hk2
                go_wp2_with (fail)
                generalize hwa : wr.alloc (.cells #[.int .i64 xk, .int .i64 xd, .int .i64 xa, .slice A' L c', .slice E' M ce'] 36) = wa at *
                clear hwa hxb
                clear c0 c1 c2 c3 c4
                have F1 := Lib.hid (fun W h (U : Below w.heap.size w W) => C.spoil ga s xd xa E' M ce' xe W X h hxd hxa (EM.out W U) (by omega))
                have F2 := Lib.hid (fun W h (U : Below w.heap.size w W) => rfspoil_any gr s xd xa E' M ce' xe W Y h (EM.out W U) (by omega))
                have HOK2 := Lib.hid (HOK.out.spoil xd xa xe)
                obtain ⟨pe, hpe⟩ : ∃ pe, (fsAt s xd xa).2 = pe := ⟨_, rfl⟩
                rw [hpe] at F1 F2
                clear hpe
                have ne1 : ((pe : Int) != (pe : Int)) = false := by simp
                have HD := Lib.hid (fun W (U : Below wa.heap.size wa W) => HTa.out.below (C.holds _ _) (RF.holds _ _) U)
                have Y0 := (Below.refl wa.heap.size wa).drew
                have hbd := hba.drew
                have hbdd := hba.drew.drew
                generalize fsSpoil s xd xa xe = s2 at *
                go_wp2_with (fail)
                go_region_held3 (fun w' => w'.cell? ⟨xb, 1, none⟩ = some (.int .i64 xd) ∧ w'.cell? ⟨xb, 2, none⟩ = some (.int .i64 xa) ∧ w'.cell? ⟨xb, 3, none⟩ = some (.slice A' L c') ∧ w'.cell? ⟨xb, 4, none⟩ = some (.slice E' M ce')) (first | exact row5c K2.out | exact row5c K1.out | exact row5c KA.out)
                  (first
                    | (go_at_call 16; (with_reducible refine (F1.out _ (by first | exact (HD.out _ Y0).p1 | exact (HD.out _ Y0.drew).p1) (by first | exact hbd | exact hbdd)).mono ?_); rintro e w1 ⟨rfl, X2, q1, t1⟩; have hh1 := (HD.out _ (by first | exact Y0 | exact Y0.drew)).left (C.holds _ _) (RF.holds _ _) q1 t1; have HT1 := Lib.hid hh1.1; have hb1 := Below.trans (by first | exact hbd | exact hbdd) hh1.2; have K1 := Lib.hid ((t1.off.block _ HXY.out.2.2 HXY.out.1).trans KA.out); have h1s := t1.off.size; clear q1 t1 hh1)
                    | (go_at_call 10; (with_reducible refine (HN.out _ _).mono ?_); rintro e w1' ⟨rfl, rfl⟩)
                    | (go_at_call 17; (with_reducible refine (F2.out _ HT1.out.p2 hb1).mono ?_); rintro e w2 ⟨rfl, Y2, q2, t2⟩; have hh2 := HT1.out.right (C.holds _ _) (RF.holds _ _) q2 t2; have HTz := Lib.hid hh2.1; have hbz := hb1.trans hh2.2; have K2 := Lib.hid ((t2.off.block _ (Nat.lt_of_lt_of_le HXY.out.2.2 h1s) HXY.out.2.1).trans K1.out); clear q2 t2 hh2))
                all_goals
                  clear HT1 hb1 HD hbd hbdd Y0 F1 F2 K1 K2 h1s
                  generalize w2 = wz at *
                  obtain ⟨v0, v1, hrv⟩ := HTz.out.p2
                  have E3 := Lib.hid (alike16_any C ga gr s2 v0 v1 wz X2 Y2 HTz.out.p1 hrv)
                  clear hrv
                  go_wp2_with (fail)
                  refine E3.out.mono ?_
                  rintro e wy ⟨rfl, Ty⟩
                  have HTy := Lib.hid (HTz.out.below (C.holds _ _) (RF.holds _ _) Ty)
                  have hby := nxt hbz Ty
                  go_wp2
                  go_roundw
                  case rel => exact ⟨j + 1, s2, X2, Y2, by omega, by go_num, HOK2, HTy, hby⟩
                  case measure => simp [intOf]; omega
              · have dk2 : (xk == 2) = false := by simpa using hk2
                clear hk2
                go_wp2_with (fail)
                generalize hwa : wr.alloc (.cells #[.int .i64 xk, .int .i64 xd, .int .i64 xa, .slice A' L c', .slice E' M ce'] 36) = wa at *
                clear hwa hxb
                clear c0 c1 c2 c3 c4
                have HTz := Lib.hid HTa.out
                have hbz := hba
                have HOK2 := Lib.hid (SOk.more HOK.out)
                generalize wa = wz at *
                obtain ⟨s2, hs2⟩ : ∃ s2, s = s2 := ⟨_, rfl⟩
                obtain ⟨X2, hX2⟩ : ∃ X2, X = X2 := ⟨_, rfl⟩
                obtain ⟨Y2, hY2⟩ : ∃ Y2, Y = Y2 := ⟨_, rfl⟩
                subst hs2 hX2 hY2
                obtain ⟨v0, v1, hrv⟩ := HTz.out.p2
                have E3 := Lib.hid (alike16_any C ga gr s v0 v1 wz X Y HTz.out.p1 hrv)
                clear hrv
                go_wp2_with (fail)
                refine E3.out.mono ?_
                rintro e wy ⟨rfl, Ty⟩
                have HTy := Lib.hid (HTz.out.below (C.holds _ _) (RF.holds _ _) Ty)
                have hby := nxt hbz Ty
                go_wp2
                go_roundw
                case rel => exact ⟨j + 1, s, X, Y, by omega, by go_num, HOK2, HTy, hby⟩
                case measure => simp [intOf]; omega
        · have d0 : decide ((j : Int) < (n : Int)) = false := by simp; omega
          have d1 : ¬ ((j : Int) < (n : Int)) := by omega
          go_wp2_with (fail)
          refine (HL.out _).mono ?_
          rintro e w4 ⟨rfl, T4⟩
          have T4 := nxt hbel T4
          go_wp2
          go_ret
          exact ⟨rfl, T4⟩
end Go.Proofs.Ytgppoapdpgblmaa
