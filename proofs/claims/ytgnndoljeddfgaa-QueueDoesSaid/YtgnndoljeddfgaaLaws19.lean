/- The walk of layer 19's QueueDoes, over the contracts of queue. -/
import Derived.Test.YtgnndoljeddfgaaQuC
import Derived.Deep.RegionHeld3
import Derived.IntWalk
namespace Go.Proofs.Ytgnndoljeddfgaa
open Go.RowKit

set_option maxRecDepth 20000 in
set_option maxHeartbeats 16000000 in
theorem walk_QueueDoes {Q : Nat → Nat → List (List UInt8) → World → (Nat → Prop) → Prop} (C : QuC Q) (r : Int) (A : Option Addr) (n c : Nat) (l : List (Bool × List UInt8)) (at_ : Int) (w : World) (hr : I64 r) (hR : Recs rdAct19 2 w A n c l) (hat : I64 at_) :
    Calls Try.prog 3 #[.int .i64 r, .slice A n c, .int .i64 at_] w fun e w' => e = .returned (.bool true) ∧ Below w.heap.size w w' := by
  have HL := Lib.hid (fun W => live19_any C W)
  have HU := Lib.hid (huge19_any A n c l w hR)
  have HN := Lib.hid num19_any
  have hlen := hR.1
  have hnc := hR.2.1
  have hcm := hR.2.2.1
  unfold maxLen at hcm
  have HC := Lib.hid hR.2.2.2
  have HLN := Lib.hid hlen
  clear hR hlen
  generalize huge19 l = hu at *
  cases hu with
  | true =>
    go_enter Try.func3, Try.ntmps3
    go_wp2_with (fail)
    refine HU.out.mono ?_
    rintro e w1 ⟨rfl, T1⟩
    go_wp2_with (fail)
    refine (HL.out _).mono ?_
    rintro e w2 ⟨rfl, T2⟩
    have T2 := nxt T1 T2
    go_wp2
    go_ret
    exact ⟨rfl, T2⟩
  | false =>
    by_cases hrr : r < 1 ∨ 16 < r
    · have G1 := Lib.hid (fun W => C.new_no r W hr hrr)
      have G2 := Lib.hid (fun W => rqnew_no r W hrr)
      clear hrr
      go_enter Try.func3, Try.ntmps3
      go_wp2_with (fail)
      refine HU.out.mono ?_
      rintro e w1 ⟨rfl, T1⟩
      go_wp2_with (fail)
      refine (G1.out _).mono ?_
      rintro e w2 ⟨rfl, T2⟩
      have T2 := nxt T1 T2
      go_wp2_with (fail)
      refine (G2.out _).mono ?_
      rintro e w3 ⟨rfl, rfl⟩
      go_wp2_with (fail)
      refine (HN.out _ _).mono ?_
      rintro e w3 ⟨rfl, rfl⟩
      go_wp2_with (fail)
      go_loopw [11] (fun i wr => i = .int .i64 0 ∧ Below w.heap.size w wr) (fun _ _ => 0)
      case atStart => exact ⟨rfl, T2⟩
      case round =>
        obtain ⟨rfl, hbel⟩ := hrel
        by_cases h0 : n = 0
        · have d0 : ¬ ((0 : Int) < (n : Int)) := by omega
          have d1 : decide ((0 : Int) < (n : Int)) = false := by simpa using d0
          clear h0
          go_wp2_with (fail)
          refine (HL.out _).mono ?_
          rintro e w4 ⟨rfl, T4⟩
          have T4 := nxt hbel T4
          go_wp2
          go_ret
          exact ⟨rfl, T4⟩
        · have d1 : decide ((0 : Int) < (n : Int)) = true := by simp; omega
          have d0 : (0 : Int) < (n : Int) := by omega
          clear h0
          go_wp2_with (fail)
          refine (HL.out _).mono ?_
          rintro e w4 ⟨rfl, T4⟩
          have T4 := nxt hbel T4
          go_wp2
          go_ret
          exact ⟨rfl, T4⟩
    · obtain ⟨room, rfl⟩ := Int.eq_ofNat_of_zero_le (show 0 ≤ r by omega)
      have hr1 : 1 ≤ room := by omega
      have hr2 : room ≤ 16 := by omega
      have G1 := Lib.hid (fun W => C.new_yes room W hr1 hr2)
      have G2 := Lib.hid (fun W => rqnew_yes room W hr1 hr2)
      clear hrr
      go_enter Try.func3, Try.ntmps3
      go_wp2_with (fail)
      refine HU.out.mono ?_
      rintro e w1 ⟨rfl, T1⟩
      go_wp2_with (fail)
      refine (G1.out _).mono ?_
      rintro e w2 ⟨ga, X0, rfl, q2, x2, T2⟩
      have T2w := nxt T1 T2
      have hx2 : ∀ k, X0 k → w.heap.size ≤ k := fun k hk => Nat.le_trans T1.size (x2 k hk)
      have Q2 := Lib.hid q2
      clear q2 x2
      go_wp2_with (fail)
      refine (G2.out _).mono ?_
      rintro e w3 ⟨rfl, r3, T3⟩
      have HTW := Lib.hid (TwoAt.mk (C.holds _ _ _) (RQ.holds _ _ _) Q2.out hx2 T2w.size T3 r3 (fun k hk => by omega))
      have T3w := nxt T2w T3
      clear r3 hx2 T2w T2 T1 T3
      generalize w2.heap.size = gr at *
      go_wp2_with (fail)
      refine (HN.out _ _).mono ?_
      rintro e w4 ⟨rfl, rfl⟩
      go_wp2_with (fail)
      go_loopw [11] (fun i wr => ∃ (j : Nat) (ls : List (List UInt8)) (X Y : Nat → Prop), j ≤ n ∧ i = .int .i64 (j : Int) ∧ Hid (QOk room ls) ∧ Hid (TwoAt w.heap.size (Q ga room ls) (RQ gr room ls) X Y wr) ∧ Below w.heap.size w wr) (fun i _ => n - (intOf i).toNat)
      case atStart => exact ⟨0, [], X0, _, Nat.zero_le _, rfl, ⟨hr1, hr2, Nat.zero_le _, fun m hm => by cases hm⟩, HTW, T3w⟩
      case round =>
        obtain ⟨j, ls, X, Y, hj, rfl, HOK, HT, hbel⟩ := hrel
        by_cases hlt : j < n
        · have d0 : decide ((j : Int) < (n : Int)) = true := by simp; omega
          have hjl : j < l.length := by rw [HLN.out]; exact hlt
          obtain ⟨b, o, rfl, hb, hc⟩ := HC.out (by omega)
          obtain ⟨A', c', q0, q1, q2⟩ := hc j hjl
          have c0 := (hbel.cell (p := ⟨b, o + j * 2, none⟩) hb).trans q0
          have hjn : (j : Int) < (n : Int) := by omega
          clear hc
          generalize l[j] = x at *
          obtain ⟨p, m⟩ := x
          simp only at c0 q1 q2
          cases p with
          | true =>
            have F1 := Lib.hid (C.pop ga room ls wr X HT.out.1)
            clear q1 q2
            go_wp2_with (fail)
            refine F1.out.mono ?_
            rintro e w1 ⟨A1, n1, c1, X2, rfl, f1, in1, q1, t1⟩
            have av1 := HT.out.told in1
            obtain ⟨HT1, hb1⟩ := HT.out.left (C.holds _ _ _) (RQ.holds _ _ _) q1 t1
            have HT1 := Lib.hid HT1
            have hb1 := hbel.trans hb1
            have B1 := Lib.hid f1.1
            have AV1 := Lib.hid av1
            clear f1 in1 q1 t1 av1
            go_wp2_with (fail)
            refine (rqpop_any gr room ls _ Y HT1.out.2.1).mono ?_
            rintro e w2 ⟨A2, n2, c2, Y2, rfl, f2, q2, t2, _⟩
            have B1 := Lib.hid (B1.out.off AV1.out t2.off)
            have B2 := Lib.hid f2
            obtain ⟨HT2, hb2⟩ := HT1.out.right (C.holds _ _ _) (RQ.holds _ _ _) q2 t2
            have HT2 := Lib.hid HT2
            have hb2 := hb1.trans hb2
            have HOK2 := Lib.hid HOK.out.pop
            have ne1 : ((!ls.isEmpty) != (!ls.isEmpty)) = false := by simp
            clear f2 q2 t2 HT1 AV1
            obtain ⟨tt, htt⟩ : ∃ tt, (!ls.isEmpty) = tt := ⟨_, rfl⟩
            rw [htt] at ne1 ⊢
            clear htt
            go_wp2_with (fail)
            refine (same_true A1 A2 n1 c1 n2 c2 _ w2 B1.out B2.out).mono ?_
            rintro e w3 ⟨rfl, T3⟩
            have HT := Lib.hid (HT2.out.below (C.holds _ _ _) (RQ.holds _ _ _) T3)
            have hb3 := hb2.trans (T3.mono hb2.size)
            clear B1 B2 HT2 hb1 hb2
            generalize ls.tail = ls2 at *
            have E1 := Lib.hid (fun W h => C.front ga room ls2 W X2 h)
            have E2 := Lib.hid (fun W h => rqat_any gr room ls2 0 W Y2 h)
            have E3 := Lib.hid (fun W h => C.at_ ga room ls2 at_ W X2 hat h)
            have E4 := Lib.hid (fun W h => rqat_any gr room ls2 at_ W Y2 h)
            have E5 := Lib.hid (fun W h => C.len ga room ls2 W X2 h)
            have E6 := Lib.hid (fun W h => C.free ga room ls2 W X2 h)
            have E7 := Lib.hid (fun W h => C.all ga room ls2 W X2 h)
            obtain ⟨v0, hv0⟩ : ∃ v, (if (0 : Int) ≤ 0 ∧ (0 : Int) < ls2.length then ls2.getD (0 : Int).toNat [] else []) = v := ⟨_, rfl⟩
            obtain ⟨t0, ht0⟩ : ∃ t, decide ((0 : Int) ≤ 0 ∧ (0 : Int) < ls2.length) = t := ⟨_, rfl⟩
            obtain ⟨va, hva⟩ : ∃ v, (if 0 ≤ at_ ∧ at_ < ls2.length then ls2.getD at_.toNat [] else []) = v := ⟨_, rfl⟩
            obtain ⟨ta, hta⟩ : ∃ t, decide (0 ≤ at_ ∧ at_ < ls2.length) = t := ⟨_, rfl⟩
            have hfr : ls2.headD [] = v0 := by rw [← hv0]; cases ls2 <;> simp
            have hte : (!ls2.isEmpty) = t0 := by rw [← ht0]; cases ls2 <;> simp
            obtain ⟨P, cc, k1, k2, cr0, cr1, _⟩ := HT.out.2.1.cells
            have hcr0 := fun W (T : Below w3.heap.size w3 W) => (T.cell (p := ⟨gr, 0, none⟩) (HT.out.2.2.2.2.2.2.1 gr HT.out.2.1.1)).trans cr0
            have hcr1 := fun W (T : Below w3.heap.size w3 W) => (T.cell (p := ⟨gr, 1, none⟩) (HT.out.2.2.2.2.2.2.1 gr HT.out.2.1.1)).trans cr1
            obtain ⟨P0, cc0, _, _, _, cr1', kR⟩ := HT.out.2.1.cells
            obtain ⟨rfl, rfl⟩ : P0 = P ∧ cc0 = cc := by rw [cr1] at cr1'; simpa using cr1'.symm
            obtain ⟨N, hN⟩ : ∃ N, ls2.length = N := ⟨_, rfl⟩
            simp only [hfr, hte] at E1
            simp only [hv0, ht0] at E2
            simp only [hva, hta] at E3 E4
            rw [hN] at E5 E6 cr1 hcr1 kR
            have HKR := Lib.hid kR
            have K := Lib.hid (fun W (T : Below w3.heap.size w3 W) => And.intro (hcr1 W T) (hcr0 W T))
            have hroomB := HOK2.out
            have hr1 : 1 ≤ room := hroomB.1
            have hr2 : room ≤ 16 := hroomB.2.1
            have hN2 : N ≤ room := by rw [← hN]; exact hroomB.2.2.1
            have KQ := Lib.hid (fun W (T : Below w3.heap.size w3 W) => (C.holds ga room ls2).below HT.out.1 T)
            have KR := Lib.hid (fun W (T : Below w3.heap.size w3 W) => (RQ.holds gr room ls2).below HT.out.2.1 T)
            have P3 := Below.refl w3.heap.size w3
            have n1 : (t0 != t0) = false := by simp
            have n2 : (ta != ta) = false := by simp
            have n3 : ((N : Int) != (N : Int)) = false := by simp
            have n4 : (((room : Int) - (N : Int)) != ((room : Int) - (N : Int))) = false := by simp
            clear hv0 ht0 hva hta hfr hte cr0 cr1 cr1' kR hcr0 hcr1 hroomB
            go_wp2_with (fail)
            refine (E1.out _ (KQ.out _ P3)).mono ?_
            rintro e u1 ⟨A1, m1, d1, rfl, F1, U1⟩
            have B1 := Lib.hid F1.1
            have P4 := nxt P3 U1
            clear F1
            go_wp2_with (fail)
            refine (E2.out _ (KR.out _ P4)).mono ?_
            rintro e u2 ⟨A2, m2, d2, rfl, F2, U2⟩
            have B1 := Lib.hid (B1.out.below U2)
            have B2 := Lib.hid F2.1
            have P5 := nxt P4 U2
            clear F2
            go_wp2_with (fail)
            refine (E3.out _ (KQ.out _ P5)).mono ?_
            rintro e u3 ⟨A3, m3, d3, rfl, F3, U3⟩
            have B1 := Lib.hid (B1.out.below U3)
            have B2 := Lib.hid (B2.out.below U3)
            have B3 := Lib.hid F3.1
            have P6 := nxt P5 U3
            clear F3
            go_wp2_with (fail)
            refine (E4.out _ (KR.out _ P6)).mono ?_
            rintro e u4 ⟨A4, m4, d4, rfl, F4, U4⟩
            have B1 := Lib.hid (B1.out.below U4)
            have B2 := Lib.hid (B2.out.below U4)
            have B3 := Lib.hid (B3.out.below U4)
            have B4 := Lib.hid F4.1
            have P7 := nxt P6 U4
            clear F4 P4 P5 P6
            have S1 := Lib.hid (fun W (T : Below u4.heap.size u4 W) => same_true A1 A2 m1 d1 m2 d2 v0 W (B1.out.below T) (B2.out.below T))
            have S2 := Lib.hid (fun W (T : Below u4.heap.size u4 W) => same_true A3 A4 m3 d3 m4 d4 va W (B3.out.below T) (B4.out.below T))
            have Z0 := (Below.refl u4.heap.size u4).drew
            have hw1 : IntKind.i64.wrap ((room : Int) - (N : Int)) = (room : Int) - (N : Int) := IntWalk.i64_in _ (by omega)
            have hw2 : wrap64 ((room : Int) - (N : Int)) = (room : Int) - (N : Int) := IntWalk.wrap64_in _ (by omega)
            clear B1 B2 B3 B4
            go_wp2_with (fail)
            go_region_held3 (fun w' => w'.cell? ⟨gr, 1, none⟩ = some (.slice P0 N cc0) ∧ w'.cell? ⟨gr, 0, none⟩ = some (.int .i64 (room : Int))) (first | exact K.out _ (Below.drew P7) | exact K.out _ (Below.drew (Below.drew P7)) | exact K.out _ (nxt P7 Z6) | exact K.out _ (nxt P7 Z5) | exact K.out _ (nxt P7 Z4) | exact K.out _ (nxt P7 Z3) | exact K.out _ (nxt P7 Z2) | exact K.out _ (nxt P7 Z1) | exact K.out _ P7)
              (first
                | (go_at_call_of 13 (Value.slice A1 m1 d1); (with_reducible refine (S1.out _ (by first | exact Z0 | exact Z0.drew)).mono ?_); rintro e z1 ⟨rfl, V1⟩; have Z1 := nxt (by first | exact Z0 | exact Z0.drew) V1)
                | (go_at_call_of 13 (Value.slice A3 m3 d3); (with_reducible refine (S2.out _ Z1).mono ?_); rintro e z2 ⟨rfl, V2⟩; have Z2 := nxt Z1 V2)
                | (go_at_call 19; (with_reducible refine (E5.out _ (KQ.out _ (nxt P7 Z2))).mono ?_); rintro e z3 ⟨rfl, V3⟩; have Z3 := nxt Z2 V3)
                | (go_at_call 20; (with_reducible refine (E6.out _ (KQ.out _ (nxt P7 Z3))).mono ?_); rintro e z4 ⟨rfl, V4⟩; have Z4 := nxt Z3 V4)
                | (go_at_call 22; (with_reducible refine (E7.out _ (KQ.out _ (nxt P7 Z4))).mono ?_); rintro e z5 ⟨PA, nA, cA, rfl, RA, V5⟩; have Z5 := nxt Z4 V5)
                | (go_at_call 21; (with_reducible refine (sameall_true PA P0 nA cA N cc0 ls2 _ RA.rws (HKR.out.below (nxt P7 Z5))).mono ?_); rintro e z6 ⟨rfl, V6⟩; have Z6 := nxt Z5 V6))
            all_goals
              have hz6 := nxt P7 Z6
              have HTn := Lib.hid (HT.out.below (C.holds _ _ _) (RQ.holds _ _ _) hz6)
              have hbn := hb3.trans (hz6.mono hb3.size)
              go_wp2
              go_roundw
              case rel => exact ⟨j + 1, ls2, X2, Y2, by omega, by go_num, HOK2, HTn, hbn⟩
              case measure => simp [intOf]; omega
          | false =>
            have hz : b < w.heap.size := hb
            have hml := q2.len
            have cM := Lib.hid (fun W (T : Below w.heap.size w W) => (T.cell (p := ⟨b, o + j * 2 + 1, none⟩) hb).trans q1)
            have BM := Lib.hid (fun W (T : Below w.heap.size w W) => q2.below T)
            obtain ⟨L, hL⟩ : ∃ L, m.length = L := ⟨_, rfl⟩
            rw [hL] at cM BM
            have F1 := Lib.hid (fun W (h : Q ga room ls W X) hB => C.push ga room ls A' L c' m W X h hB)
            have F2 := Lib.hid (fun W (h : RQ gr room ls W Y) hB => rqpush_any gr room ls A' L c' m W Y h hB)
            obtain ⟨pe, hpe⟩ : ∃ pe, quPushE room ls L = pe := ⟨_, rfl⟩
            rw [hpe] at F1 F2
            have ne1 : ((pe : Int) != (pe : Int)) = false := by simp
            have HOK2 := Lib.hid (HOK.out.push m)
            have HD := Lib.hid (fun W (T : Below wr.heap.size wr W) => HT.out.below (C.holds _ _ _) (RQ.holds _ _ _) T)
            have Y0 := (Below.refl wr.heap.size wr).drew
            have hbd := hbel.drew
            have hbdd := hbel.drew.drew
            clear q0 q1 q2 hpe hL hml
            generalize quPush room ls m = ls2 at *
            go_wp2_with (fail)
            go_region_held3 (fun w' => w'.cell? ⟨b, o + j * 2 + 1, none⟩ = some (.slice A' L c')) (first | exact cM.out _ hb2 | exact cM.out _ hb1 | exact cM.out _ hbel | exact cM.out _ hbd | exact cM.out _ hbdd)
              (first
                | (go_at_call 14; (with_reducible refine (F1.out _ (by first | exact (HD.out _ Y0).p1 | exact (HD.out _ Y0.drew).p1) (by first | exact BM.out _ hbd | exact BM.out _ hbdd)).mono ?_); rintro e w1 ⟨rfl, X2, q1, t1⟩; have hh1 := (HD.out _ (by first | exact Y0 | exact Y0.drew)).left (C.holds _ _ _) (RQ.holds _ _ _) q1 t1; have HT1 := Lib.hid hh1.1; have hb1 := Below.trans (by first | exact hbd | exact hbdd) hh1.2; clear q1 t1 hh1)
                | (go_at_call 10; (with_reducible refine (HN.out _ _).mono ?_); rintro e w1' ⟨rfl, rfl⟩)
                | (go_at_call 15; (with_reducible refine (F2.out _ HT1.out.p2 (BM.out _ hb1)).mono ?_); rintro e w2 ⟨rfl, Y2, q2, t2⟩; have hh2 := HT1.out.right (C.holds _ _ _) (RQ.holds _ _ _) q2 t2; have HT2 := Lib.hid hh2.1; have hb2 := hb1.trans hh2.2; clear q2 t2 hh2))
            all_goals
              have hb3 := hb2
              have HT := Lib.hid HT2.out
              clear HT1 HT2 hb1 hb2 HD hbd hbdd Y0
              generalize w2 = w3 at *
              have E1 := Lib.hid (fun W h => C.front ga room ls2 W X2 h)
              have E2 := Lib.hid (fun W h => rqat_any gr room ls2 0 W Y2 h)
              have E3 := Lib.hid (fun W h => C.at_ ga room ls2 at_ W X2 hat h)
              have E4 := Lib.hid (fun W h => rqat_any gr room ls2 at_ W Y2 h)
              have E5 := Lib.hid (fun W h => C.len ga room ls2 W X2 h)
              have E6 := Lib.hid (fun W h => C.free ga room ls2 W X2 h)
              have E7 := Lib.hid (fun W h => C.all ga room ls2 W X2 h)
              obtain ⟨v0, hv0⟩ : ∃ v, (if (0 : Int) ≤ 0 ∧ (0 : Int) < ls2.length then ls2.getD (0 : Int).toNat [] else []) = v := ⟨_, rfl⟩
              obtain ⟨t0, ht0⟩ : ∃ t, decide ((0 : Int) ≤ 0 ∧ (0 : Int) < ls2.length) = t := ⟨_, rfl⟩
              obtain ⟨va, hva⟩ : ∃ v, (if 0 ≤ at_ ∧ at_ < ls2.length then ls2.getD at_.toNat [] else []) = v := ⟨_, rfl⟩
              obtain ⟨ta, hta⟩ : ∃ t, decide (0 ≤ at_ ∧ at_ < ls2.length) = t := ⟨_, rfl⟩
              have hfr : ls2.headD [] = v0 := by rw [← hv0]; cases ls2 <;> simp
              have hte : (!ls2.isEmpty) = t0 := by rw [← ht0]; cases ls2 <;> simp
              obtain ⟨P, cc, k1, k2, cr0, cr1, _⟩ := HT.out.2.1.cells
              have hcr0 := fun W (T : Below w3.heap.size w3 W) => (T.cell (p := ⟨gr, 0, none⟩) (HT.out.2.2.2.2.2.2.1 gr HT.out.2.1.1)).trans cr0
              have hcr1 := fun W (T : Below w3.heap.size w3 W) => (T.cell (p := ⟨gr, 1, none⟩) (HT.out.2.2.2.2.2.2.1 gr HT.out.2.1.1)).trans cr1
              obtain ⟨P0, cc0, _, _, _, cr1', kR⟩ := HT.out.2.1.cells
              obtain ⟨rfl, rfl⟩ : P0 = P ∧ cc0 = cc := by rw [cr1] at cr1'; simpa using cr1'.symm
              obtain ⟨N, hN⟩ : ∃ N, ls2.length = N := ⟨_, rfl⟩
              simp only [hfr, hte] at E1
              simp only [hv0, ht0] at E2
              simp only [hva, hta] at E3 E4
              rw [hN] at E5 E6 cr1 hcr1 kR
              have HKR := Lib.hid kR
              have K := Lib.hid (fun W (T : Below w3.heap.size w3 W) => And.intro (hcr1 W T) (hcr0 W T))
              have hroomB := HOK2.out
              have hr1 : 1 ≤ room := hroomB.1
              have hr2 : room ≤ 16 := hroomB.2.1
              have hN2 : N ≤ room := by rw [← hN]; exact hroomB.2.2.1
              have KQ := Lib.hid (fun W (T : Below w3.heap.size w3 W) => (C.holds ga room ls2).below HT.out.1 T)
              have KR := Lib.hid (fun W (T : Below w3.heap.size w3 W) => (RQ.holds gr room ls2).below HT.out.2.1 T)
              have P3 := Below.refl w3.heap.size w3
              have n1 : (t0 != t0) = false := by simp
              have n2 : (ta != ta) = false := by simp
              have n3 : ((N : Int) != (N : Int)) = false := by simp
              have n4 : (((room : Int) - (N : Int)) != ((room : Int) - (N : Int))) = false := by simp
              clear hv0 ht0 hva hta hfr hte cr0 cr1 cr1' kR hcr0 hcr1 hroomB
              go_wp2_with (fail)
              refine (E1.out _ (KQ.out _ P3)).mono ?_
              rintro e u1 ⟨A1, m1, d1, rfl, F1, U1⟩
              have B1 := Lib.hid F1.1
              have P4 := nxt P3 U1
              clear F1
              go_wp2_with (fail)
              refine (E2.out _ (KR.out _ P4)).mono ?_
              rintro e u2 ⟨A2, m2, d2, rfl, F2, U2⟩
              have B1 := Lib.hid (B1.out.below U2)
              have B2 := Lib.hid F2.1
              have P5 := nxt P4 U2
              clear F2
              go_wp2_with (fail)
              refine (E3.out _ (KQ.out _ P5)).mono ?_
              rintro e u3 ⟨A3, m3, d3, rfl, F3, U3⟩
              have B1 := Lib.hid (B1.out.below U3)
              have B2 := Lib.hid (B2.out.below U3)
              have B3 := Lib.hid F3.1
              have P6 := nxt P5 U3
              clear F3
              go_wp2_with (fail)
              refine (E4.out _ (KR.out _ P6)).mono ?_
              rintro e u4 ⟨A4, m4, d4, rfl, F4, U4⟩
              have B1 := Lib.hid (B1.out.below U4)
              have B2 := Lib.hid (B2.out.below U4)
              have B3 := Lib.hid (B3.out.below U4)
              have B4 := Lib.hid F4.1
              have P7 := nxt P6 U4
              clear F4 P4 P5 P6
              have S1 := Lib.hid (fun W (T : Below u4.heap.size u4 W) => same_true A1 A2 m1 d1 m2 d2 v0 W (B1.out.below T) (B2.out.below T))
              have S2 := Lib.hid (fun W (T : Below u4.heap.size u4 W) => same_true A3 A4 m3 d3 m4 d4 va W (B3.out.below T) (B4.out.below T))
              have Z0 := (Below.refl u4.heap.size u4).drew
              have hw1 : IntKind.i64.wrap ((room : Int) - (N : Int)) = (room : Int) - (N : Int) := IntWalk.i64_in _ (by omega)
              have hw2 : wrap64 ((room : Int) - (N : Int)) = (room : Int) - (N : Int) := IntWalk.wrap64_in _ (by omega)
              clear B1 B2 B3 B4
              go_wp2_with (fail)
              go_region_held3 (fun w' => w'.cell? ⟨gr, 1, none⟩ = some (.slice P0 N cc0) ∧ w'.cell? ⟨gr, 0, none⟩ = some (.int .i64 (room : Int))) (first | exact K.out _ (Below.drew P7) | exact K.out _ (Below.drew (Below.drew P7)) | exact K.out _ (nxt P7 Z6) | exact K.out _ (nxt P7 Z5) | exact K.out _ (nxt P7 Z4) | exact K.out _ (nxt P7 Z3) | exact K.out _ (nxt P7 Z2) | exact K.out _ (nxt P7 Z1) | exact K.out _ P7)
                (first
                  | (go_at_call_of 13 (Value.slice A1 m1 d1); (with_reducible refine (S1.out _ (by first | exact Z0 | exact Z0.drew)).mono ?_); rintro e z1 ⟨rfl, V1⟩; have Z1 := nxt (by first | exact Z0 | exact Z0.drew) V1)
                  | (go_at_call_of 13 (Value.slice A3 m3 d3); (with_reducible refine (S2.out _ Z1).mono ?_); rintro e z2 ⟨rfl, V2⟩; have Z2 := nxt Z1 V2)
                  | (go_at_call 19; (with_reducible refine (E5.out _ (KQ.out _ (nxt P7 Z2))).mono ?_); rintro e z3 ⟨rfl, V3⟩; have Z3 := nxt Z2 V3)
                  | (go_at_call 20; (with_reducible refine (E6.out _ (KQ.out _ (nxt P7 Z3))).mono ?_); rintro e z4 ⟨rfl, V4⟩; have Z4 := nxt Z3 V4)
                  | (go_at_call 22; (with_reducible refine (E7.out _ (KQ.out _ (nxt P7 Z4))).mono ?_); rintro e z5 ⟨PA, nA, cA, rfl, RA, V5⟩; have Z5 := nxt Z4 V5)
                  | (go_at_call 21; (with_reducible refine (sameall_true PA P0 nA cA N cc0 ls2 _ RA.rws (HKR.out.below (nxt P7 Z5))).mono ?_); rintro e z6 ⟨rfl, V6⟩; have Z6 := nxt Z5 V6))
              all_goals
                have hz6 := nxt P7 Z6
                have HTn := Lib.hid (HT.out.below (C.holds _ _ _) (RQ.holds _ _ _) hz6)
                have hbn := hb3.trans (hz6.mono hb3.size)
                go_wp2
                go_roundw
                case rel => exact ⟨j + 1, ls2, X2, Y2, by omega, by go_num, HOK2, HTn, hbn⟩
                case measure => simp [intOf]; omega
        · have d0 : decide ((j : Int) < (n : Int)) = false := by simp; omega
          have d1 : ¬ ((j : Int) < (n : Int)) := by omega
          go_wp2_with (fail)
          refine (HL.out _).mono ?_
          rintro e w4 ⟨rfl, T4⟩
          have T4 := nxt hbel T4
          go_wp2
          go_ret
          exact ⟨rfl, T4⟩
end Go.Proofs.Ytgnndoljeddfgaa
