/- The walk of layer 25's PullerDoes, over the contracts of puller. -/
import Derived.Test.YtpidbgnlehikeaaPlD
import Derived.Deep.RegionHeld3
import Derived.IntWalk
namespace Go.Proofs.Ytpidbgnlehikeaa
open Go.RowKit
set_option maxRecDepth 20000

set_option maxHeartbeats 32000000 in
theorem walk_PullerDoes {F : Nat → Pls → World → (Nat → Prop) → Prop} (C : PlC F) (cfg : Cfg) (A : Option Addr) (n c : Nat) (l : List Act25) (w : World) (hcf : CfI cfg) (hR : Recs rdAct25 5 w A n c l) :
    Calls Try.prog 3 #[cfgV cfg, .slice A n c] w fun e w' => e = .returned (.bool true) ∧ Below w.heap.size w w' := by
  have HL := Lib.hid (fun W => live25_any C W)
  have HU := Lib.hid (fun W (U : Below w.heap.size w W) => huge25_any A n c l W (hR.below keeps25 U))
  have HN := Lib.hid num25_any
  have hlen := hR.1
  have hnc := hR.2.1
  have hcm := hR.2.2.1
  unfold maxLen at hcm
  have HC := Lib.hid hR.2.2.2
  have HLN := Lib.hid hlen
  have HFW := Lib.hid (fun h => huge25_few (l := l) h)
  have G1n := Lib.hid (fun W h => C.new_no cfg W hcf h)
  have G2n := Lib.hid (fun W h => rlnew_no cfg W hcf h)
  have G1y := Lib.hid (fun W h => C.new_yes cfg W hcf h)
  have G2y := Lib.hid (fun W h => rlnew_yes cfg W hcf h)
  have HF0 := Lib.hid (fun h => PlFew.new (c := cfg) h)
  unfold cfgV at *
  obtain ⟨ce, hce⟩ : ∃ e, plNew cfg = e := ⟨_, rfl⟩
  have HCE := Lib.hid hce
  rw [hce] at G1n G2n G1y G2y HF0
  obtain ⟨eng, cw, cm, cl, cb, room, beg⟩ := cfg
  simp only at *
  have T0 := (Below.refl _ w).alloc (Nat.le_refl _) (.cells #[.int .i64 eng, .int .i64 cw, .int .i64 cm, .int .i64 cl, .int .i64 cb, .int .i64 room, .int .u64 (beg : Int)] 24)
  have HCW : Hid (∀ W, Below (w.alloc (.cells #[.int .i64 eng, .int .i64 cw, .int .i64 cm, .int .i64 cl, .int .i64 cb, .int .i64 room, .int .u64 (beg : Int)] 24)).heap.size (w.alloc (.cells #[.int .i64 eng, .int .i64 cw, .int .i64 cm, .int .i64 cl, .int .i64 cb, .int .i64 room, .int .u64 (beg : Int)] 24)) W → W.heap[w.heap.size]? = some (.cells #[.int .i64 eng, .int .i64 cw, .int .i64 cm, .int .i64 cl, .int .i64 cb, .int .i64 room, .int .u64 (beg : Int)] 24 (0, 0))) := fun W U => (U.block _ (by simp)).trans (heap_alloc_new w _)
  have HT0 := Lib.hid T0
  clear hR hlen T0 hce hcf
  generalize huge25 l = hu at *
  cases hu with
  | true =>
    go_enter Try.func3, Try.ntmps3
    go_wp2_with (fail)
    refine (HU.out _ HT0.out).mono ?_
    rintro e w1 ⟨rfl, T1⟩
    have T1 := nxt HT0.out T1
    go_wp2_with (fail)
    refine (HL.out _).mono ?_
    rintro e w2 ⟨rfl, T2⟩
    have T2 := nxt T1 T2
    go_wp2
    go_ret
    exact ⟨rfl, T2⟩
  | false =>
    have hn100 : n ≤ 100 := by have := HFW.out rfl; rw [HLN.out] at this; exact this
    clear HFW
    by_cases hrr : ce = 0
    · subst hrr
      have G1 := Lib.hid (fun W => G1y.out W rfl)
      have G2 := Lib.hid (fun W => G2y.out W rfl)
      have HF9 := Lib.hid (HF0.out rfl)
      clear HF0 G1n G2n G1y G2y
      go_enter Try.func3, Try.ntmps3
      go_wp2_with (fail)
      refine (HU.out _ HT0.out).mono ?_
      rintro e w1 ⟨rfl, Ta⟩
      have T1 := nxt HT0.out Ta
      obtain ⟨z0, z1, z2, z3, z4, z5, z6⟩ := row7 (HCW.out _ Ta)
      go_wp2_with (fail)
      refine (G1.out _).mono ?_
      rintro e w2 ⟨ga, X0, rfl, q2, x2, T2⟩
      have T2w := nxt T1 T2
      have hx2 : ∀ k, X0 k → w.heap.size ≤ k := fun k hk => Nat.le_trans T1.size (x2 k hk)
      have Q2 := Lib.hid q2
      clear q2 x2 z0 z1 z2 z3 z4 z5 z6
      obtain ⟨z0, z1, z2, z3, z4, z5, z6⟩ := row7 (HCW.out _ (nxt Ta T2))
      go_wp2_with (fail)
      refine (G2.out _).mono ?_
      rintro e w3 ⟨gr, Y0, rfl, r3, y3, T3⟩
      have HTW := Lib.hid (TwoAt.mk (C.holds _ _) (RL.holds _ _) Q2.out hx2 T2w.size T3 r3 y3)
      have T3w := nxt T2w T3
      clear r3 hx2 T2w T2 T1 T3 y3 z0 z1 z2 z3 z4 z5 z6 Ta
      go_wp2_with (fail)
      refine (HN.out _ _).mono ?_
      rintro e w4 ⟨rfl, rfl⟩
      go_wp2_with (fail)
      go_loopw [9] (fun i wr => ∃ (j : Nat) (s : Pls) (X Y : Nat → Prop), j ≤ n ∧ i = .int .i64 (j : Int) ∧ PlFew j s ∧ Hid (TwoAt w.heap.size (F ga s) (RL gr s) X Y wr) ∧ Below w.heap.size w wr) (fun i _ => n - (intOf i).toNat)
      case atStart => exact ⟨0, _, X0, Y0, Nat.zero_le _, rfl, HF9.out, HTW, T3w⟩
      case round =>
        clear HTW T3w
        obtain ⟨j, s, X, Y, hj, rfl, hF, HT, hbel⟩ := hrel
        have HF := Lib.hid hF
        clear hF
        by_cases hlt : j < n
        · have d0 : decide ((j : Int) < (n : Int)) = true := by simp; omega
          have hjl : j < l.length := by rw [HLN.out]; exact hlt
          obtain ⟨b, o, rfl, hb, hc⟩ := HC.out (by omega)
          obtain ⟨⟨hxk, hps, hpu⟩, D', d', q0, q3, q4, q5, q6, qD⟩ := hc j hjl
          have KI : Hid (∀ W, Below w.heap.size w W → W.cell? ⟨b, o + j * 5, none⟩ = some (.int .i64 l[j].1) ∧ W.cell? ⟨b, o + j * 5 + 1, none⟩ = some (.bool l[j].2.1) ∧ W.cell? ⟨b, o + j * 5 + 2, none⟩ = some (.int .i64 l[j].2.2.1) ∧ W.cell? ⟨b, o + j * 5 + 3, none⟩ = some (.int .u64 (l[j].2.2.2.1 : Int)) ∧ W.cell? ⟨b, o + j * 5 + 4, none⟩ = some (.slice D' l[j].2.2.2.2.length d')) := fun W U =>
            ⟨(U.cell (p := ⟨b, o + j * 5, none⟩) hb).trans q0, (U.cell (p := ⟨b, o + j * 5 + 1, none⟩) hb).trans q3, (U.cell (p := ⟨b, o + j * 5 + 2, none⟩) hb).trans q4, (U.cell (p := ⟨b, o + j * 5 + 3, none⟩) hb).trans q5, (U.cell (p := ⟨b, o + j * 5 + 4, none⟩) hb).trans q6⟩
          have hjn : (j : Int) < (n : Int) := by omega
          have hj0 : (0 : Int) ≤ (j : Int) := by omega
          clear hc q0 q3 q4 q5 q6
          generalize l[j] = x at *
          obtain ⟨xk, pa, ps, pu, pd⟩ := x
          simp only at hxk hps hpu qD KI
          obtain ⟨M, hM⟩ : ∃ M, pd.length = M := ⟨_, rfl⟩
          rw [hM] at qD KI
          clear hM
          have DM := Lib.hid (fun W (U : Below w.heap.size w W) => qD.below U)
          have HAV : Hid (Av X M D') := fun hn p e hx => by
            obtain ⟨b9, o9, e', hb9, _⟩ := qD.at_ hn
            rw [e] at e'
            injection e' with e'
            subst e'
            have : w.heap.size ≤ b9 := HT.out.2.2.1 _ hx
            omega
          have hHB := Lib.hid hbel
          have c0 := (KI.out _ hbel).1
          clear qD
          by_cases hk0 : xk = 0
          · have dk0 : (xk == 0) = true := by simpa using hk0
            have dk1 : (xk == 1) = false := by subst hk0; rfl
            clear hk0
            have F1 := fun W h (U : Below w.heap.size w W) => C.take ga s pa ps pu D' M d' pd W X h HF.out.1 (by have := HF.out.2; omega) hps hpu (DM.out W U) HAV.out
            have R1 := fun W h (U : Below w.heap.size w W) => rltake_p gr s pa ps pu D' M d' pd W Y h (by have := HF.out.2; omega) (DM.out W U)
            have HF2 := Lib.hid (HF.out.take pa ps pd)
            generalize plTakeL s pa ps pd = pks at *
            generalize plTake s pa ps pd = s2 at *
            have F1 := Lib.hid F1
            have R1 := Lib.hid R1
            have hy0 := Lib.hid HT.out.2.2.2.2.2.2.1
            have P0 := Below.refl wr.heap.size wr
            go_wp2_with (fail)
            clear c0
            go_region_held3 (fun w' => w'.cell? ⟨b, o + j * 5 + 1, none⟩ = some (.bool pa) ∧ w'.cell? ⟨b, o + j * 5 + 2, none⟩ = some (.int .i64 ps) ∧ w'.cell? ⟨b, o + j * 5 + 3, none⟩ = some (.int .u64 (pu : Int)) ∧ w'.cell? ⟨b, o + j * 5 + 4, none⟩ = some (Value.slice D' M d')) (first | exact (KI.out _ hHB.out).2 | exact (KI.out _ hHB.out.drew).2 | exact (KI.out _ hb1).2 | exact (KI.out _ hb2a).2 | exact (KI.out _ hb2).2)
              (first
                | (go_at_call 12; (with_reducible refine (F1.out _ (by first | exact HT.out.p1 | exact (C.holds _ _).below HT.out.p1 (Below.refl _ _).drew) (by first | exact hHB.out | exact hHB.out.drew)).mono ?_); rintro e w1 ⟨Ap, np, cp, X1, rfl, pA, q1, t1⟩; have t1' : Turns X X1 wr w1 := (by first | exact t1 | exact t1.undrew); have k1 := HT.out.left (C.holds _ _) (RL.holds _ _) q1 t1'; have HT1 := Lib.hid k1.1; have hb1 := hHB.out.trans k1.2; have HPA := Lib.hid pA)
                | (go_at_call 13; (with_reducible refine (R1.out _ HT1.out.p2 hb1).mono ?_); rintro e w2 ⟨Bp, mp, dp, Y1, rfl, pB, q2, t2⟩; have k2 := HT1.out.right (C.holds _ _) (RL.holds _ _) q2 t2; have HT2a := Lib.hid k2.1; have hb2a := hb1.trans k2.2; have HSA := Lib.hid (rsameall14 _ _ _ _ _ _ _ _ _ _ (HPA.out.turn t2 (fun k _ hk => .inr (hy0.out k hk))) pB))
                | (go_at_call 11; (with_reducible refine (HSA.out).mono ?_); rintro e w3 ⟨rfl, T3⟩; have HT2 := Lib.hid (HT2a.out.below (C.holds _ _) (RL.holds _ _) T3); have hb2 := nxt hb2a T3))
            all_goals
              clear T3 HT2a hb2a hb1 q1 t1 t1' q2 t2 pA pB k1 k2 HT hbel
              have HST := Lib.hid (C.state ga _ w3 _ HT2.out.p1)
              have HAH := Lib.hid (fun W (U : Below w3.heap.size w3 W) => C.ahead ga _ W _ ((C.holds _ _).below HT2.out.p1 U) (HF2.out).1)
              have HKP := Lib.hid (fun W (U : Below w3.heap.size w3 W) => C.kept ga _ W _ ((C.holds _ _).below HT2.out.p1 U) (HF2.out).1)
              have hrp := HT2.out.p2
              obtain ⟨hokr, gq, v, Xq, Xl, hv, hy⟩ := hrp
              have hl64 := hokr.llen
              have HV := Lib.hid (fun W (U : Below w3.heap.size w3 W) => hv.below U)
              clear hv hy hokr
              generalize hne : s2.ent = ne at *
              generalize hnr : s2.ret = nr at *
              have HNE := Lib.hid hne
              have HNR := Lib.hid hnr
              clear hne hnr
              have e1 : ((ne : Int) != (ne : Int)) = false := by simp
              have e2 : ((nr : Int) != (nr : Int)) = false := by simp
              go_wp2_with (fail)
              refine HST.out.mono ?_
              rintro e w10 ⟨rfl, T10⟩
              go_wp2_with (fail)
              refine (HAH.out _ T10).mono ?_
              rintro e w11 ⟨At, nt, ct, rfl, hZ, T11⟩
              have T11a := nxt T10 T11
              have T12 := T11a.alloc T11a.size (.cells #[.int .i64 (ne : Int), .int .i64 (nr : Int)] 48)
              have r12 := heap_alloc_new w11 (.cells #[.int .i64 (ne : Int), .int .i64 (nr : Int)] 48)
              have HZ12 := Lib.hid (hZ.alloc (.cells #[.int .i64 (ne : Int), .int .i64 (nr : Int)] 48))
              have hzl : s2.late.length = nt := by have := hZ.len; simpa [plAhead] using this
              have HZL := Lib.hid hzl
              clear hZ T11 T10 r12 hzl
              obtain ⟨xb, hxb⟩ : ∃ xb, w11.heap.size = xb := ⟨_, rfl⟩
              have HR12 := Lib.hid (heap_alloc_new w11 (.cells #[.int .i64 (ne : Int), .int .i64 (nr : Int)] 48))
              rw [hxb] at HR12
              have R12 := HV.out _ T12
              obtain ⟨-, g7, g8, g9, g10, -⟩ := R12.cells
              obtain ⟨PL, cL, hvl, _, _, _, hRL⟩ := R12.lst
              rw [hvl] at g8
              rw [HZL.out] at g8 hRL hl64
              rw [HNE.out] at g9
              rw [HNR.out] at g10
              obtain ⟨PQ, cQ, _, _, _, gq1, hRQ⟩ := R12.2.1.cells
              obtain ⟨nq1, hnq1⟩ : ∃ nq1, s2.ls.length = nq1 := ⟨_, rfl⟩
              rw [hnq1] at gq1 hRQ
              have HRL := Lib.hid hRL
              have HRQ := Lib.hid hRQ
              have hgr : gr < (w11.alloc (.cells #[.int .i64 (ne : Int), .int .i64 (nr : Int)] 48)).heap.size := lt_row R12.1
              have hgq : gq < (w11.alloc (.cells #[.int .i64 (ne : Int), .int .i64 (nr : Int)] 48)).heap.size := R12.2.1.2.1 _ R12.2.1.1
              have HT12 := Lib.hid T12
              clear R12 hvl hRL hRQ T12
              go_wp2_with (fail)
              generalize hw12 : w11.alloc (.cells #[.int .i64 (ne : Int), .int .i64 (nr : Int)] 48) = w12 at *
              have KO : Hid (∀ w', Below w12.heap.size w12 w' → w'.cell? ⟨xb, 0, none⟩ = some (.int .i64 (ne : Int)) ∧ w'.cell? ⟨xb, 1, none⟩ = some (.int .i64 (nr : Int)) ∧ w'.cell? ⟨gr, 7, none⟩ = some (.pointer (some ⟨gq, 0, none⟩)) ∧ w'.cell? ⟨gr, 8, none⟩ = some (Value.slice PL nt cL) ∧ w'.cell? ⟨gr, 9, none⟩ = some (.int .i64 (ne : Int)) ∧ w'.cell? ⟨gr, 10, none⟩ = some (.int .i64 (nr : Int)) ∧ w'.cell? ⟨gq, 1, none⟩ = some (Value.slice PQ nq1 cQ)) := fun W U => by
                have hx := (U.block xb (lt_row HR12.out)).trans HR12.out
                exact ⟨cell_of_row _ _ _ _ _ _ hx, cell_of_row _ _ _ _ _ _ hx, (U.cell (p := ⟨gr, 7, none⟩) hgr).trans g7, (U.cell (p := ⟨gr, 8, none⟩) hgr).trans g8, (U.cell (p := ⟨gr, 9, none⟩) hgr).trans g9, (U.cell (p := ⟨gr, 10, none⟩) hgr).trans g10, (U.cell (p := ⟨gq, 1, none⟩) hgq).trans gq1⟩
              have HB12 := Lib.hid (fun W (U : Below w12.heap.size w12 W) => HT12.out.trans (U.mono HT12.out.size))
              have HG8 := Lib.hid g8
              have e4 : ((nt : Int) != (nt : Int)) = false := by simp
              have P12 := Below.refl w12.heap.size w12
              clear hw12 g7 g8 g9 g10 gq1 hgq hnq1
              go_region_held3 (fun w' => w'.cell? ⟨xb, 0, none⟩ = some (.int .i64 (ne : Int)) ∧ w'.cell? ⟨xb, 1, none⟩ = some (.int .i64 (nr : Int)) ∧ w'.cell? ⟨gr, 7, none⟩ = some (.pointer (some ⟨gq, 0, none⟩)) ∧ w'.cell? ⟨gr, 8, none⟩ = some (Value.slice PL nt cL) ∧ w'.cell? ⟨gr, 9, none⟩ = some (.int .i64 (ne : Int)) ∧ w'.cell? ⟨gr, 10, none⟩ = some (.int .i64 (nr : Int)) ∧ w'.cell? ⟨gq, 1, none⟩ = some (Value.slice PQ nq1 cQ)) (first | exact KO.out _ P12 | exact KO.out _ P12.drew | exact KO.out _ Z1 | exact KO.out _ Z2)
                (first
                  | (go_at_call 20; (with_reducible refine (HKP.out _ (by first | exact HB12.out _ P12 | exact HB12.out _ P12.drew)).mono ?_); rintro e w13 ⟨P2, m2, d2, rfl, rf2, V1⟩; have Z1 := nxt (by first | exact P12 | exact P12.drew) V1; have RF := Lib.hid rf2.rws)
                  | (go_at_call 19; (with_reducible refine (sameall_true _ _ _ _ _ _ _ _ RF.out (HRQ.out.below Z1)).mono ?_); rintro e w14 ⟨rfl, V3⟩; have Z2 := nxt Z1 V3))
              all_goals
                clear V1 rf2 V3 Z1
                go_wp2_with (fail)
                go_loopw [18] (fun i wr => ∃ k : Nat, k ≤ nt ∧ i = .int .i64 (k : Int) ∧ Below w12.heap.size w12 wr) (fun i _ => nt - (intOf i).toNat)
                case atStart => exact ⟨0, Nat.zero_le _, rfl, Z2⟩
                case round =>
                  obtain ⟨k, hk, rfl, hb3⟩ := hrel
                  by_cases hlt3 : k < nt
                  · have f0 : decide ((k : Int) < (nt : Int)) = true := by simp; omega
                    have f0' : decide (k < nt) = true := by simp; omega
                    have hk0 : (0 : Int) ≤ (k : Int) := by omega
                    have hk1 : (k : Int) < (nt : Int) := by omega
                    have hz3 : Zs wr At nt ct (plAhead s2) := Vals.below HZ12.out hb3
                    obtain ⟨bz, oz, rfl, hbz, hcz⟩ := hz3.cell (by omega)
                    have cz := hcz k (by simp [plAhead]; have := HZL.out; omega)
                    obtain ⟨bt, ot, -, -, rfl, hbt, ck, -, -⟩ := lt_cells HRL.out k (by have := HZL.out; omega)
                    have ck := (hb3.cell (p := ⟨bt, ot + k * 2, none⟩) hbt).trans ck
                    have h8 := (hb3.cell (p := ⟨gr, 8, none⟩) hgr).trans HG8.out
                    have ekey : (plAhead s2)[k]'(by simp [plAhead]; have := HZL.out; omega) = ((s2.late[k]'(by have := HZL.out; omega)).1 : Int) := by simp [plAhead]
                    rw [ekey] at cz
                    clear hcz ekey
                    generalize (s2.late[k]'(by have := HZL.out; omega)).1 = key at *
                    have ekk : ((key : Int) != (key : Int)) = false := by simp
                    go_wp2_with (fail)
                    go_quiet (fail)
                    go_wp2
                    go_roundw
                    case rel => exact ⟨k + 1, by omega, by go_num, below_drewN' hb3 _⟩
                    case measure => simp [intOf]; omega
                  · have f0 : decide ((k : Int) < (nt : Int)) = false := by simp; omega
                    have f0' : decide (k < nt) = false := by simp; omega
                    have T13 := HB12.out _ hb3
                    have HT13 := Lib.hid (HT2.out.below (C.holds _ _) (RL.holds _ _) T13)
                    have hb13 := nxt hb2 T13
                    go_wp2
                    go_roundw
                    case rel => exact ⟨j + 1, _, _, _, by omega, by go_num, (HF2.out), HT13.out, hb13⟩
                    case measure => simp [intOf]; omega
          · have dk0 : (xk == 0) = false := by simpa using hk0
            clear hk0
            by_cases hk1 : xk = 1
            · have dk1 : (xk == 1) = true := by simpa using hk1
              clear hk1
              have F1 := fun W h => C.recv ga s W X h HF.out.1 (by have := HF.out.2; omega)
              have R1 := fun W h => rlrecv_p gr s W Y h (by have := HF.out.2; omega)
              have HF2 := Lib.hid HF.out.recv
              generalize plRecvL s = pks at *
              generalize plRecv s = s2 at *
              generalize (!s.ls.isEmpty) = em at *
              generalize s.ls.headD [] = mg at *
              have F1 := Lib.hid F1
              have R1 := Lib.hid R1
              have hem : (em != em) = false := by simp
              go_wp2_with (fail)
              clear c0
              refine (F1.out _ HT.out.p1).mono ?_
              rintro e w1 ⟨Am, nm, cm', Ap, np, cp, X1, rfl, bA, -, HAX, pA, q1, t1⟩
              have hy1 := HT.out.2.2.2.2.2.2.1
              have HTD : Hid (Av Y nm Am) := HT.out.told HAX
              obtain ⟨k1, kb1⟩ := HT.out.left (C.holds _ _) (RL.holds _ _) q1 t1
              have HT1 := Lib.hid k1
              have hb1 := hbel.trans kb1
              have HPA := Lib.hid pA
              have HBA := Lib.hid bA
              clear q1 t1 k1 kb1 pA bA
              go_wp2_with (fail)
              refine (R1.out _ HT1.out.p2).mono ?_
              rintro e w2 ⟨Bm, mm, dm, Bp, mp, dp, Y1, rfl, bB, pB, q2, t2⟩
              obtain ⟨k2, kb2⟩ := HT1.out.right (C.holds _ _) (RL.holds _ _) q2 t2
              have HT2a := Lib.hid k2
              have hb2a := hb1.trans kb2
              have HPA2 := Lib.hid (HPA.out.turn t2 (fun k _ hk => .inr (hy1 k hk)))
              have HPB := Lib.hid pB
              have HSM := Lib.hid (same_any _ _ _ _ _ _ _ _ _ (HBA.out.off HTD.out t2.off) bB)
              rw [show sameB mg mg = true by unfold sameB; simp] at HSM
              clear q2 t2 k2 kb2 pB bB HPA HBA hy1
              go_wp2_with (fail)
              refine HSM.out.mono ?_
              rintro e w4 ⟨rfl, q, rfl⟩
              have B4 := below_drewN' (Below.refl w2.heap.size w2) q
              have HSA := Lib.hid (rsameall14 _ _ _ _ _ _ _ _ _ _ (HPA2.out.below B4) (HPB.out.below B4))
              have HT2b := Lib.hid (HT2a.out.below (C.holds _ _) (RL.holds _ _) B4)
              have hb2b := nxt hb2a B4
              clear B4 HT2a hb2a
              go_wp2_with (fail)
              refine HSA.out.mono ?_
              rintro e w3 ⟨rfl, T3⟩
              have HT2 := Lib.hid (HT2b.out.below (C.holds _ _) (RL.holds _ _) T3)
              have hb2 := nxt hb2b T3
              clear T3 HT2b hb2b hb1 HT hbel
              have HST := Lib.hid (C.state ga _ w3 _ HT2.out.p1)
              have HAH := Lib.hid (fun W (U : Below w3.heap.size w3 W) => C.ahead ga _ W _ ((C.holds _ _).below HT2.out.p1 U) (HF2.out).1)
              have HKP := Lib.hid (fun W (U : Below w3.heap.size w3 W) => C.kept ga _ W _ ((C.holds _ _).below HT2.out.p1 U) (HF2.out).1)
              have hrp := HT2.out.p2
              obtain ⟨hokr, gq, v, Xq, Xl, hv, hy⟩ := hrp
              have hl64 := hokr.llen
              have HV := Lib.hid (fun W (U : Below w3.heap.size w3 W) => hv.below U)
              clear hv hy hokr
              generalize hne : s2.ent = ne at *
              generalize hnr : s2.ret = nr at *
              have HNE := Lib.hid hne
              have HNR := Lib.hid hnr
              clear hne hnr
              have e1 : ((ne : Int) != (ne : Int)) = false := by simp
              have e2 : ((nr : Int) != (nr : Int)) = false := by simp
              go_wp2_with (fail)
              refine HST.out.mono ?_
              rintro e w10 ⟨rfl, T10⟩
              go_wp2_with (fail)
              refine (HAH.out _ T10).mono ?_
              rintro e w11 ⟨At, nt, ct, rfl, hZ, T11⟩
              have T11a := nxt T10 T11
              have T12 := T11a.alloc T11a.size (.cells #[.int .i64 (ne : Int), .int .i64 (nr : Int)] 48)
              have r12 := heap_alloc_new w11 (.cells #[.int .i64 (ne : Int), .int .i64 (nr : Int)] 48)
              have HZ12 := Lib.hid (hZ.alloc (.cells #[.int .i64 (ne : Int), .int .i64 (nr : Int)] 48))
              have hzl : s2.late.length = nt := by have := hZ.len; simpa [plAhead] using this
              have HZL := Lib.hid hzl
              clear hZ T11 T10 r12 hzl
              obtain ⟨xb, hxb⟩ : ∃ xb, w11.heap.size = xb := ⟨_, rfl⟩
              have HR12 := Lib.hid (heap_alloc_new w11 (.cells #[.int .i64 (ne : Int), .int .i64 (nr : Int)] 48))
              rw [hxb] at HR12
              have R12 := HV.out _ T12
              obtain ⟨-, g7, g8, g9, g10, -⟩ := R12.cells
              obtain ⟨PL, cL, hvl, _, _, _, hRL⟩ := R12.lst
              rw [hvl] at g8
              rw [HZL.out] at g8 hRL hl64
              rw [HNE.out] at g9
              rw [HNR.out] at g10
              obtain ⟨PQ, cQ, _, _, _, gq1, hRQ⟩ := R12.2.1.cells
              obtain ⟨nq1, hnq1⟩ : ∃ nq1, s2.ls.length = nq1 := ⟨_, rfl⟩
              rw [hnq1] at gq1 hRQ
              have HRL := Lib.hid hRL
              have HRQ := Lib.hid hRQ
              have hgr : gr < (w11.alloc (.cells #[.int .i64 (ne : Int), .int .i64 (nr : Int)] 48)).heap.size := lt_row R12.1
              have hgq : gq < (w11.alloc (.cells #[.int .i64 (ne : Int), .int .i64 (nr : Int)] 48)).heap.size := R12.2.1.2.1 _ R12.2.1.1
              have HT12 := Lib.hid T12
              clear R12 hvl hRL hRQ T12
              go_wp2_with (fail)
              generalize hw12 : w11.alloc (.cells #[.int .i64 (ne : Int), .int .i64 (nr : Int)] 48) = w12 at *
              have KO : Hid (∀ w', Below w12.heap.size w12 w' → w'.cell? ⟨xb, 0, none⟩ = some (.int .i64 (ne : Int)) ∧ w'.cell? ⟨xb, 1, none⟩ = some (.int .i64 (nr : Int)) ∧ w'.cell? ⟨gr, 7, none⟩ = some (.pointer (some ⟨gq, 0, none⟩)) ∧ w'.cell? ⟨gr, 8, none⟩ = some (Value.slice PL nt cL) ∧ w'.cell? ⟨gr, 9, none⟩ = some (.int .i64 (ne : Int)) ∧ w'.cell? ⟨gr, 10, none⟩ = some (.int .i64 (nr : Int)) ∧ w'.cell? ⟨gq, 1, none⟩ = some (Value.slice PQ nq1 cQ)) := fun W U => by
                have hx := (U.block xb (lt_row HR12.out)).trans HR12.out
                exact ⟨cell_of_row _ _ _ _ _ _ hx, cell_of_row _ _ _ _ _ _ hx, (U.cell (p := ⟨gr, 7, none⟩) hgr).trans g7, (U.cell (p := ⟨gr, 8, none⟩) hgr).trans g8, (U.cell (p := ⟨gr, 9, none⟩) hgr).trans g9, (U.cell (p := ⟨gr, 10, none⟩) hgr).trans g10, (U.cell (p := ⟨gq, 1, none⟩) hgq).trans gq1⟩
              have HB12 := Lib.hid (fun W (U : Below w12.heap.size w12 W) => HT12.out.trans (U.mono HT12.out.size))
              have HG8 := Lib.hid g8
              have e4 : ((nt : Int) != (nt : Int)) = false := by simp
              have P12 := Below.refl w12.heap.size w12
              clear hw12 g7 g8 g9 g10 gq1 hgq hnq1
              go_region_held3 (fun w' => w'.cell? ⟨xb, 0, none⟩ = some (.int .i64 (ne : Int)) ∧ w'.cell? ⟨xb, 1, none⟩ = some (.int .i64 (nr : Int)) ∧ w'.cell? ⟨gr, 7, none⟩ = some (.pointer (some ⟨gq, 0, none⟩)) ∧ w'.cell? ⟨gr, 8, none⟩ = some (Value.slice PL nt cL) ∧ w'.cell? ⟨gr, 9, none⟩ = some (.int .i64 (ne : Int)) ∧ w'.cell? ⟨gr, 10, none⟩ = some (.int .i64 (nr : Int)) ∧ w'.cell? ⟨gq, 1, none⟩ = some (Value.slice PQ nq1 cQ)) (first | exact KO.out _ P12 | exact KO.out _ P12.drew | exact KO.out _ Z1 | exact KO.out _ Z2)
                (first
                  | (go_at_call 20; (with_reducible refine (HKP.out _ (by first | exact HB12.out _ P12 | exact HB12.out _ P12.drew)).mono ?_); rintro e w13 ⟨P2, m2, d2, rfl, rf2, V1⟩; have Z1 := nxt (by first | exact P12 | exact P12.drew) V1; have RF := Lib.hid rf2.rws)
                  | (go_at_call 19; (with_reducible refine (sameall_true _ _ _ _ _ _ _ _ RF.out (HRQ.out.below Z1)).mono ?_); rintro e w14 ⟨rfl, V3⟩; have Z2 := nxt Z1 V3))
              all_goals
                clear V1 rf2 V3 Z1
                go_wp2_with (fail)
                go_loopw [18] (fun i wr => ∃ k : Nat, k ≤ nt ∧ i = .int .i64 (k : Int) ∧ Below w12.heap.size w12 wr) (fun i _ => nt - (intOf i).toNat)
                case atStart => exact ⟨0, Nat.zero_le _, rfl, Z2⟩
                case round =>
                  obtain ⟨k, hk, rfl, hb3⟩ := hrel
                  by_cases hlt3 : k < nt
                  · have f0 : decide ((k : Int) < (nt : Int)) = true := by simp; omega
                    have f0' : decide (k < nt) = true := by simp; omega
                    have hk0 : (0 : Int) ≤ (k : Int) := by omega
                    have hk1 : (k : Int) < (nt : Int) := by omega
                    have hz3 : Zs wr At nt ct (plAhead s2) := Vals.below HZ12.out hb3
                    obtain ⟨bz, oz, rfl, hbz, hcz⟩ := hz3.cell (by omega)
                    have cz := hcz k (by simp [plAhead]; have := HZL.out; omega)
                    obtain ⟨bt, ot, -, -, rfl, hbt, ck, -, -⟩ := lt_cells HRL.out k (by have := HZL.out; omega)
                    have ck := (hb3.cell (p := ⟨bt, ot + k * 2, none⟩) hbt).trans ck
                    have h8 := (hb3.cell (p := ⟨gr, 8, none⟩) hgr).trans HG8.out
                    have ekey : (plAhead s2)[k]'(by simp [plAhead]; have := HZL.out; omega) = ((s2.late[k]'(by have := HZL.out; omega)).1 : Int) := by simp [plAhead]
                    rw [ekey] at cz
                    clear hcz ekey
                    generalize (s2.late[k]'(by have := HZL.out; omega)).1 = key at *
                    have ekk : ((key : Int) != (key : Int)) = false := by simp
                    go_wp2_with (fail)
                    go_quiet (fail)
                    go_wp2
                    go_roundw
                    case rel => exact ⟨k + 1, by omega, by go_num, below_drewN' hb3 _⟩
                    case measure => simp [intOf]; omega
                  · have f0 : decide ((k : Int) < (nt : Int)) = false := by simp; omega
                    have f0' : decide (k < nt) = false := by simp; omega
                    have T13 := HB12.out _ hb3
                    have HT13 := Lib.hid (HT2.out.below (C.holds _ _) (RL.holds _ _) T13)
                    have hb13 := nxt hb2 T13
                    go_wp2
                    go_roundw
                    case rel => exact ⟨j + 1, _, _, _, by omega, by go_num, (HF2.out), HT13.out, hb13⟩
                    case measure => simp [intOf]; omega
            · have dk1 : (xk == 1) = false := by simpa using hk1
              clear hk1
              go_wp2_with (fail)
              have HT2 := HT
              have hb2 := hbel
              have HST := Lib.hid (C.state ga _ wr _ HT2.out.p1)
              have HAH := Lib.hid (fun W (U : Below wr.heap.size wr W) => C.ahead ga _ W _ ((C.holds _ _).below HT2.out.p1 U) (HF.out.more).1)
              have HKP := Lib.hid (fun W (U : Below wr.heap.size wr W) => C.kept ga _ W _ ((C.holds _ _).below HT2.out.p1 U) (HF.out.more).1)
              have hrp := HT2.out.p2
              obtain ⟨hokr, gq, v, Xq, Xl, hv, hy⟩ := hrp
              have hl64 := hokr.llen
              have HV := Lib.hid (fun W (U : Below wr.heap.size wr W) => hv.below U)
              clear hv hy hokr
              generalize hne : s.ent = ne at *
              generalize hnr : s.ret = nr at *
              have HNE := Lib.hid hne
              have HNR := Lib.hid hnr
              clear hne hnr
              have e1 : ((ne : Int) != (ne : Int)) = false := by simp
              have e2 : ((nr : Int) != (nr : Int)) = false := by simp
              refine HST.out.mono ?_
              rintro e w10 ⟨rfl, T10⟩
              go_wp2_with (fail)
              refine (HAH.out _ T10).mono ?_
              rintro e w11 ⟨At, nt, ct, rfl, hZ, T11⟩
              have T11a := nxt T10 T11
              have T12 := T11a.alloc T11a.size (.cells #[.int .i64 (ne : Int), .int .i64 (nr : Int)] 48)
              have r12 := heap_alloc_new w11 (.cells #[.int .i64 (ne : Int), .int .i64 (nr : Int)] 48)
              have HZ12 := Lib.hid (hZ.alloc (.cells #[.int .i64 (ne : Int), .int .i64 (nr : Int)] 48))
              have hzl : s.late.length = nt := by have := hZ.len; simpa [plAhead] using this
              have HZL := Lib.hid hzl
              clear hZ T11 T10 r12 hzl
              obtain ⟨xb, hxb⟩ : ∃ xb, w11.heap.size = xb := ⟨_, rfl⟩
              have HR12 := Lib.hid (heap_alloc_new w11 (.cells #[.int .i64 (ne : Int), .int .i64 (nr : Int)] 48))
              rw [hxb] at HR12
              have R12 := HV.out _ T12
              obtain ⟨-, g7, g8, g9, g10, -⟩ := R12.cells
              obtain ⟨PL, cL, hvl, _, _, _, hRL⟩ := R12.lst
              rw [hvl] at g8
              rw [HZL.out] at g8 hRL hl64
              rw [HNE.out] at g9
              rw [HNR.out] at g10
              obtain ⟨PQ, cQ, _, _, _, gq1, hRQ⟩ := R12.2.1.cells
              obtain ⟨nq1, hnq1⟩ : ∃ nq1, s.ls.length = nq1 := ⟨_, rfl⟩
              rw [hnq1] at gq1 hRQ
              have HRL := Lib.hid hRL
              have HRQ := Lib.hid hRQ
              have hgr : gr < (w11.alloc (.cells #[.int .i64 (ne : Int), .int .i64 (nr : Int)] 48)).heap.size := lt_row R12.1
              have hgq : gq < (w11.alloc (.cells #[.int .i64 (ne : Int), .int .i64 (nr : Int)] 48)).heap.size := R12.2.1.2.1 _ R12.2.1.1
              have HT12 := Lib.hid T12
              clear R12 hvl hRL hRQ T12
              go_wp2_with (fail)
              generalize hw12 : w11.alloc (.cells #[.int .i64 (ne : Int), .int .i64 (nr : Int)] 48) = w12 at *
              have KO : Hid (∀ w', Below w12.heap.size w12 w' → w'.cell? ⟨xb, 0, none⟩ = some (.int .i64 (ne : Int)) ∧ w'.cell? ⟨xb, 1, none⟩ = some (.int .i64 (nr : Int)) ∧ w'.cell? ⟨gr, 7, none⟩ = some (.pointer (some ⟨gq, 0, none⟩)) ∧ w'.cell? ⟨gr, 8, none⟩ = some (Value.slice PL nt cL) ∧ w'.cell? ⟨gr, 9, none⟩ = some (.int .i64 (ne : Int)) ∧ w'.cell? ⟨gr, 10, none⟩ = some (.int .i64 (nr : Int)) ∧ w'.cell? ⟨gq, 1, none⟩ = some (Value.slice PQ nq1 cQ)) := fun W U => by
                have hx := (U.block xb (lt_row HR12.out)).trans HR12.out
                exact ⟨cell_of_row _ _ _ _ _ _ hx, cell_of_row _ _ _ _ _ _ hx, (U.cell (p := ⟨gr, 7, none⟩) hgr).trans g7, (U.cell (p := ⟨gr, 8, none⟩) hgr).trans g8, (U.cell (p := ⟨gr, 9, none⟩) hgr).trans g9, (U.cell (p := ⟨gr, 10, none⟩) hgr).trans g10, (U.cell (p := ⟨gq, 1, none⟩) hgq).trans gq1⟩
              have HB12 := Lib.hid (fun W (U : Below w12.heap.size w12 W) => HT12.out.trans (U.mono HT12.out.size))
              have HG8 := Lib.hid g8
              have e4 : ((nt : Int) != (nt : Int)) = false := by simp
              have P12 := Below.refl w12.heap.size w12
              clear hw12 g7 g8 g9 g10 gq1 hgq hnq1
              go_region_held3 (fun w' => w'.cell? ⟨xb, 0, none⟩ = some (.int .i64 (ne : Int)) ∧ w'.cell? ⟨xb, 1, none⟩ = some (.int .i64 (nr : Int)) ∧ w'.cell? ⟨gr, 7, none⟩ = some (.pointer (some ⟨gq, 0, none⟩)) ∧ w'.cell? ⟨gr, 8, none⟩ = some (Value.slice PL nt cL) ∧ w'.cell? ⟨gr, 9, none⟩ = some (.int .i64 (ne : Int)) ∧ w'.cell? ⟨gr, 10, none⟩ = some (.int .i64 (nr : Int)) ∧ w'.cell? ⟨gq, 1, none⟩ = some (Value.slice PQ nq1 cQ)) (first | exact KO.out _ P12 | exact KO.out _ P12.drew | exact KO.out _ Z1 | exact KO.out _ Z2)
                (first
                  | (go_at_call 20; (with_reducible refine (HKP.out _ (by first | exact HB12.out _ P12 | exact HB12.out _ P12.drew)).mono ?_); rintro e w13 ⟨P2, m2, d2, rfl, rf2, V1⟩; have Z1 := nxt (by first | exact P12 | exact P12.drew) V1; have RF := Lib.hid rf2.rws)
                  | (go_at_call 19; (with_reducible refine (sameall_true _ _ _ _ _ _ _ _ RF.out (HRQ.out.below Z1)).mono ?_); rintro e w14 ⟨rfl, V3⟩; have Z2 := nxt Z1 V3))
              all_goals
                clear V1 rf2 V3 Z1
                go_wp2_with (fail)
                go_loopw [18] (fun i wr => ∃ k : Nat, k ≤ nt ∧ i = .int .i64 (k : Int) ∧ Below w12.heap.size w12 wr) (fun i _ => nt - (intOf i).toNat)
                case atStart => exact ⟨0, Nat.zero_le _, rfl, Z2⟩
                case round =>
                  obtain ⟨k, hk, rfl, hb3⟩ := hrel
                  by_cases hlt3 : k < nt
                  · have f0 : decide ((k : Int) < (nt : Int)) = true := by simp; omega
                    have f0' : decide (k < nt) = true := by simp; omega
                    have hk0 : (0 : Int) ≤ (k : Int) := by omega
                    have hk1 : (k : Int) < (nt : Int) := by omega
                    have hz3 : Zs wr At nt ct (plAhead s) := Vals.below HZ12.out hb3
                    obtain ⟨bz, oz, rfl, hbz, hcz⟩ := hz3.cell (by omega)
                    have cz := hcz k (by simp [plAhead]; have := HZL.out; omega)
                    obtain ⟨bt, ot, -, -, rfl, hbt, ck, -, -⟩ := lt_cells HRL.out k (by have := HZL.out; omega)
                    have ck := (hb3.cell (p := ⟨bt, ot + k * 2, none⟩) hbt).trans ck
                    have h8 := (hb3.cell (p := ⟨gr, 8, none⟩) hgr).trans HG8.out
                    have ekey : (plAhead s)[k]'(by simp [plAhead]; have := HZL.out; omega) = ((s.late[k]'(by have := HZL.out; omega)).1 : Int) := by simp [plAhead]
                    rw [ekey] at cz
                    clear hcz ekey
                    generalize (s.late[k]'(by have := HZL.out; omega)).1 = key at *
                    have ekk : ((key : Int) != (key : Int)) = false := by simp
                    go_wp2_with (fail)
                    go_quiet (fail)
                    go_wp2
                    go_roundw
                    case rel => exact ⟨k + 1, by omega, by go_num, below_drewN' hb3 _⟩
                    case measure => simp [intOf]; omega
                  · have f0 : decide ((k : Int) < (nt : Int)) = false := by simp; omega
                    have f0' : decide (k < nt) = false := by simp; omega
                    have T13 := HB12.out _ hb3
                    have HT13 := Lib.hid (HT2.out.below (C.holds _ _) (RL.holds _ _) T13)
                    have hb13 := nxt hb2 T13
                    go_wp2
                    go_roundw
                    case rel => exact ⟨j + 1, _, _, _, by omega, by go_num, (HF.out.more), HT13.out, hb13⟩
                    case measure => simp [intOf]; omega
        · have d0 : decide ((j : Int) < (n : Int)) = false := by simp; omega
          go_wp2_with (fail)
          refine (HL.out _).mono ?_
          rintro e w4 ⟨rfl, T4⟩
          have T4 := nxt hbel T4
          go_wp2
          go_ret
          exact ⟨rfl, T4⟩
    · have G1 := Lib.hid (fun W => G1n.out W hrr)
      have G2 := Lib.hid (fun W => G2n.out W hrr)
      have ece : (ce != ce) = false := by simp
      clear hrr G1n G2n G1y G2y HF0
      go_enter Try.func3, Try.ntmps3
      go_wp2_with (fail)
      refine (HU.out _ HT0.out).mono ?_
      rintro e w1 ⟨rfl, Ta⟩
      have T1 := nxt HT0.out Ta
      obtain ⟨z0, z1, z2, z3, z4, z5, z6⟩ := row7 (HCW.out _ Ta)
      go_wp2_with (fail)
      refine (G1.out _).mono ?_
      rintro e w2 ⟨rfl, T2⟩
      clear z0 z1 z2 z3 z4 z5 z6
      obtain ⟨z0, z1, z2, z3, z4, z5, z6⟩ := row7 (HCW.out _ (nxt Ta T2))
      have T2 := nxt T1 T2
      go_wp2_with (fail)
      refine (G2.out _).mono ?_
      rintro e w3 ⟨rfl, T3⟩
      have T3 := nxt T2 T3
      go_wp2_with (fail)
      refine (HN.out _ _).mono ?_
      rintro e w4 ⟨rfl, rfl⟩
      go_wp2_with (fail)
      go_loopw [9] (fun i wr => i = .int .i64 0 ∧ Below w.heap.size w wr) (fun _ _ => 0)
      case atStart => exact ⟨rfl, T3⟩
      case round =>
        obtain ⟨rfl, hbel⟩ := hrel
        by_cases h0 : n = 0
        · have d0 : ¬ ((0 : Int) < (n : Int)) := by omega
          have d1 : decide ((0 : Int) < (n : Int)) = false := by simpa using d0
          clear h0
          go_wp2_with (fail)
          refine (HL.out _).mono ?_
          rintro e w4 ⟨rfl, T4⟩
          have T4 := nxt hbel T4
          go_wp2
          go_ret
          exact ⟨rfl, T4⟩
        · have d1 : decide ((0 : Int) < (n : Int)) = true := by simp; omega
          have d0 : (0 : Int) < (n : Int) := by omega
          clear h0
          go_wp2_with (fail)
          refine (HL.out _).mono ?_
          rintro e w4 ⟨rfl, T4⟩
          have T4 := nxt hbel T4
          go_wp2
          go_ret
          exact ⟨rfl, T4⟩
end Go.Proofs.Ytpidbgnlehikeaa
