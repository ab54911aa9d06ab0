/- The walk of layer 24's PusherDoes, over the contracts of pusher. -/
import Derived.Test.YtncpabnmdofomaaPuD
import Derived.Deep.RegionHeld3
import Derived.IntWalk
namespace Go.Proofs.Ytncpabnmdofomaa
open Go.RowKit
set_option maxRecDepth 20000

set_option maxHeartbeats 32000000 in
theorem walk_PusherDoes {F : Nat → Pus → World → (Nat → Prop) → Prop} (C : PuC F) (cfg : Cfg) (A : Option Addr) (n c : Nat) (l : List Act24) (w : World) (hcf : CfI cfg) (hR : Recs rdAct24 7 w A n c l) :
    Calls Try.prog 3 #[cfgV cfg, .slice A n c] w fun e w' => e = .returned (.bool true) ∧ Below w.heap.size w w' := by
  have HL := Lib.hid (fun W => live24_any C W)
  have HU := Lib.hid (fun W (U : Below w.heap.size w W) => huge24_any A n c l W (hR.below keeps24 U))
  have HN := Lib.hid num24_any
  have hlen := hR.1
  have hnc := hR.2.1
  have hcm := hR.2.2.1
  unfold maxLen at hcm
  have HC := Lib.hid hR.2.2.2
  have HLN := Lib.hid hlen
  have HFW := Lib.hid (fun h => huge24_few (l := l) h)
  have G1n := Lib.hid (fun W h => C.new_no cfg W hcf h)
  have G2n := Lib.hid (fun W h => rpnew_no cfg W hcf.in_ h)
  have G1y := Lib.hid (fun W h => C.new_yes cfg W hcf h)
  have G2y := Lib.hid (fun W h => rpnew_yes cfg W hcf.in_ h)
  have HF0 := Lib.hid (fun h => PsFew.new (c := cfg) h)
  unfold cfgV at *
  obtain ⟨ce, hce⟩ : ∃ e, puNew cfg = e := ⟨_, rfl⟩
  have HCE := Lib.hid hce
  rw [hce] at G1n G2n G1y G2y HF0
  obtain ⟨eng, cw, cm, cl, cb, room, beg⟩ := cfg
  simp only at *
  have T0 := (Below.refl _ w).alloc (Nat.le_refl _) (.cells #[.int .i64 eng, .int .i64 cw, .int .i64 cm, .int .i64 cl, .int .i64 cb, .int .i64 room, .int .u64 (beg : Int)] 24)
  have HCW : Hid (∀ W, Below (w.alloc (.cells #[.int .i64 eng, .int .i64 cw, .int .i64 cm, .int .i64 cl, .int .i64 cb, .int .i64 room, .int .u64 (beg : Int)] 24)).heap.size (w.alloc (.cells #[.int .i64 eng, .int .i64 cw, .int .i64 cm, .int .i64 cl, .int .i64 cb, .int .i64 room, .int .u64 (beg : Int)] 24)) W → W.heap[w.heap.size]? = some (.cells #[.int .i64 eng, .int .i64 cw, .int .i64 cm, .int .i64 cl, .int .i64 cb, .int .i64 room, .int .u64 (beg : Int)] 24 (0, 0))) := fun W U => (U.block _ (by simp)).trans (heap_alloc_new w _)
  have HT0 := Lib.hid T0
  clear hR hlen T0 hce hcf
  generalize huge24 l = hu at *
  cases hu with
  | true =>
    go_enter Try.func3, Try.ntmps3
    go_wp2_with (fail)
    refine (HU.out _ HT0.out).mono ?_
    rintro e w1 ⟨rfl, T1⟩
    have T1 := nxt HT0.out T1
    go_wp2_with (fail)
    refine (HL.out _).mono ?_
    rintro e w2 ⟨rfl, T2⟩
    have T2 := nxt T1 T2
    go_wp2
    go_ret
    exact ⟨rfl, T2⟩
  | false =>
    have hn100 : n ≤ 100 := by have := HFW.out rfl; rw [HLN.out] at this; exact this
    clear HFW
    by_cases hrr : ce = 0
    · subst hrr
      have G1 := Lib.hid (fun W => G1y.out W rfl)
      have G2 := Lib.hid (fun W => G2y.out W rfl)
      have HF9 := Lib.hid (HF0.out rfl)
      clear HF0 G1n G2n G1y G2y
      go_enter Try.func3, Try.ntmps3
      go_wp2_with (fail)
      refine (HU.out _ HT0.out).mono ?_
      rintro e w1 ⟨rfl, Ta⟩
      have T1 := nxt HT0.out Ta
      obtain ⟨z0, z1, z2, z3, z4, z5, z6⟩ := row7 (HCW.out _ Ta)
      go_wp2_with (fail)
      refine (G1.out _).mono ?_
      rintro e w2 ⟨ga, X0, rfl, q2, x2, T2⟩
      have T2w := nxt T1 T2
      have hx2 : ∀ k, X0 k → w.heap.size ≤ k := fun k hk => Nat.le_trans T1.size (x2 k hk)
      have Q2 := Lib.hid q2
      clear q2 x2 z0 z1 z2 z3 z4 z5 z6
      obtain ⟨z0, z1, z2, z3, z4, z5, z6⟩ := row7 (HCW.out _ (nxt Ta T2))
      go_wp2_with (fail)
      refine (G2.out _).mono ?_
      rintro e w3 ⟨gr, Y0, rfl, r3, y3, T3⟩
      have HTW := Lib.hid (TwoAt.mk (C.holds _ _) (RP.holds _ _) Q2.out hx2 T2w.size T3 r3 y3)
      have T3w := nxt T2w T3
      clear r3 hx2 T2w T2 T1 T3 y3 z0 z1 z2 z3 z4 z5 z6 Ta
      go_wp2_with (fail)
      refine (HN.out _ _).mono ?_
      rintro e w4 ⟨rfl, rfl⟩
      go_wp2_with (fail)
      go_loopw [9] (fun i wr => ∃ (j : Nat) (s : Pus) (X Y : Nat → Prop), j ≤ n ∧ i = .int .i64 (j : Int) ∧ PsFew j s ∧ Hid (TwoAt w.heap.size (F ga s) (RP gr s) X Y wr) ∧ Below w.heap.size w wr) (fun i _ => n - (intOf i).toNat)
      case atStart => exact ⟨0, _, X0, Y0, Nat.zero_le _, rfl, HF9.out, HTW, T3w⟩
      case round =>
        clear HTW T3w
        obtain ⟨j, s, X, Y, hj, rfl, hF, HT, hbel⟩ := hrel
        have HF := Lib.hid hF
        clear hF
        by_cases hlt : j < n
        · have d0 : decide ((j : Int) < (n : Int)) = true := by simp; omega
          have hjl : j < l.length := by rw [HLN.out]; exact hlt
          obtain ⟨b, o, rfl, hb, hc⟩ := HC.out (by omega)
          obtain ⟨⟨hxk, hxn, hps, hpu⟩, A', c', D', d', q0, q1, q2, q3, q4, q5, q6, qB, qD⟩ := hc j hjl
          have c0 := (hbel.cell (p := ⟨b, o + j * 7, none⟩) hb).trans q0
          have c1 := (hbel.cell (p := ⟨b, o + j * 7 + 1, none⟩) hb).trans q1
          have c2 := (hbel.cell (p := ⟨b, o + j * 7 + 2, none⟩) hb).trans q2
          have c3 := (hbel.cell (p := ⟨b, o + j * 7 + 3, none⟩) hb).trans q3
          have c4 := (hbel.cell (p := ⟨b, o + j * 7 + 4, none⟩) hb).trans q4
          have c5 := (hbel.cell (p := ⟨b, o + j * 7 + 5, none⟩) hb).trans q5
          have c6 := (hbel.cell (p := ⟨b, o + j * 7 + 6, none⟩) hb).trans q6
          have hjn : (j : Int) < (n : Int) := by omega
          clear hc q0 q1 q2 q3 q4 q5 q6
          generalize l[j] = x at *
          obtain ⟨xk, xn, xm, pa, ps, pu, pd⟩ := x
          simp only at hxk hxn hps hpu c0 c1 c2 c3 c4 c5 c6 qB qD
          obtain ⟨L, hL⟩ : ∃ L, xm.length = L := ⟨_, rfl⟩
          obtain ⟨M, hM⟩ : ∃ M, pd.length = M := ⟨_, rfl⟩
          rw [hL] at c2 qB
          rw [hM] at c6 qD
          clear hL hM
          have BM := Lib.hid (fun W (U : Below w.heap.size w W) => qB.below U)
          have DM := Lib.hid (fun W (U : Below w.heap.size w W) => qD.below U)
          have HAV : Hid (Av X L A') := fun hn p e hx => by
            obtain ⟨b9, o9, e', hb9, _⟩ := qB.at_ hn
            rw [e] at e'
            injection e' with e'
            subst e'
            have : w.heap.size ≤ b9 := HT.out.2.2.1 _ hx
            omega
          obtain ⟨xb, hxb⟩ : ∃ xb, wr.heap.size = xb := ⟨_, rfl⟩
          have T0 := (Below.refl _ wr).alloc (Nat.le_refl _) (.cells #[.int .i64 xk, .int .i64 xn, .slice A' L c', .bool pa, .int .i64 ps, .int .u64 (pu : Int), .slice D' M d'] 40)
          have HTa := Lib.hid (HT.out.below (C.holds _ _) (RP.holds _ _) T0)
          have hba := hbel.alloc hbel.size (.cells #[.int .i64 xk, .int .i64 xn, .slice A' L c', .bool pa, .int .i64 ps, .int .u64 (pu : Int), .slice D' M d'] 40)
          have KA0 := heap_alloc_new wr (.cells #[.int .i64 xk, .int .i64 xn, .slice A' L c', .bool pa, .int .i64 ps, .int .u64 (pu : Int), .slice D' M d'] 40)
          have hxy : ¬ X wr.heap.size ∧ ¬ Y wr.heap.size ∧ wr.heap.size < (wr.alloc (.cells #[.int .i64 xk, .int .i64 xn, .slice A' L c', .bool pa, .int .i64 ps, .int .u64 (pu : Int), .slice D' M d'] 40)).heap.size := ⟨fun h => by have := HT.out.2.2.2.2.2.1 _ h; omega, fun h => by have := HT.out.2.2.2.2.2.2.1 _ h; omega, by simp⟩
          rw [hxb] at KA0 hxy
          have KA := Lib.hid KA0
          have HXB := Lib.hid hxy
          clear KA0 hxy T0 qB qD HT hbel
          by_cases hk0 : xk = 0
          · have dk0 : (xk == 0) = true := by simpa using hk0
            have dk1 : (xk == 1) = false := by subst hk0; rfl
            have dk2 : (xk == 2) = false := by subst hk0; rfl
            have dk3 : (xk == 3) = false := by subst hk0; rfl
            clear hk0
            have F1 := fun W h (U : Below w.heap.size w W) => C.send ga s A' L c' xm W X h HF.out.1 (BM.out W U) HAV.out (by have := HF.out.2; omega)
            have R1 := fun W h (U : Below w.heap.size w W) => rpsend_p gr s A' L c' xm W Y h (BM.out W U) (by have := HF.out.2; omega)
            have HF2 := Lib.hid (HF.out.send (by omega) xm)
            generalize puSendN s L = sn at *
            generalize puSendE s L = se at *
            generalize puSendL s xm = pks at *
            generalize puSend s xm = s2 at *
            have n1 : ((sn : Int) != (sn : Int)) = false := by simp
            have n2 : ((se : Int) != (se : Int)) = false := by simp
            have F1 := Lib.hid F1
            have R1 := Lib.hid R1
            go_wp2_with (fail)
            generalize hwa : wr.alloc (.cells #[.int .i64 xk, .int .i64 xn, .slice A' L c', .bool pa, .int .i64 ps, .int .u64 (pu : Int), .slice D' M d'] 40) = wa at *
            clear hwa hxb c0 c1 c2 c3 c4 c5 c6
            refine (F1.out _ HTa.out.p1 hba).mono ?_
            rintro e w1 ⟨Ap, np, cp, X1, rfl, pA, q1, t1⟩
            obtain ⟨k1, kb1⟩ := HTa.out.left (C.holds _ _) (RP.holds _ _) q1 t1
            have hy1 := HTa.out.2.2.2.2.2.2.1
            have HT1 := Lib.hid k1
            have hb1 := hba.trans kb1
            have K1 := Lib.hid ((t1.off.block xb HXB.out.2.2 HXB.out.1).trans KA.out)
            obtain ⟨r0, r1, r2, r3, r4, r5, r6⟩ := row7 K1.out
            have HPA := Lib.hid pA
            clear q1 t1 k1 kb1 pA
            go_wp2_with (fail)
            refine (R1.out _ HT1.out.p2 hb1).mono ?_
            rintro e w2 ⟨Bp, mp, dp, Y1, rfl, pB, q2, t2⟩
            obtain ⟨k2, kb2⟩ := HT1.out.right (C.holds _ _) (RP.holds _ _) q2 t2
            have HT2a := Lib.hid k2
            have hb2a := hb1.trans kb2
            have HSA := Lib.hid (rsameall14 _ _ _ _ _ _ _ _ _ _ (HPA.out.turn t2 (fun k _ hk => .inr (hy1 k hk))) pB)
            clear q2 t2 k2 kb2 pB HPA hy1 r0 r1 r2 r3 r4 r5 r6
            go_wp2_with (fail)
            refine (HN.out _ _).mono ?_
            rintro e w9 ⟨rfl, rfl⟩
            go_wp2_with (fail)
            refine HSA.out.mono ?_
            rintro e w3 ⟨rfl, T3⟩
            have HT2 := Lib.hid (HT2a.out.below (C.holds _ _) (RP.holds _ _) T3)
            have hb2 := nxt hb2a T3
            clear T3 HT2a hb2a hb1 hba
            have HST := Lib.hid (fun W (U : Below w3.heap.size w3 W) => C.state ga _ W _ ((C.holds _ _).below HT2.out.p1 U) (HF2.out).1 (by have := (HF2.out).2; omega))
            have HTI := Lib.hid (fun W (U : Below w3.heap.size w3 W) => C.timers ga _ W _ ((C.holds _ _).below HT2.out.p1 U) (HF2.out).1 (by have := (HF2.out).2; omega))
            have hrp := HT2.out.p2
            obtain ⟨hokr, gt, v, Xt, Xl, hv, hy⟩ := hrp
            have htl := hokr.tlen
            have HV := Lib.hid (fun W (U : Below w3.heap.size w3 W) => hv.below U)
            clear hv hy hokr
            generalize hnl : s2.ls.length = nl at *
            generalize hnb : s2.base = nb at *
            generalize hnn : s2.next = nn at *
            have HNL := Lib.hid hnl
            have HNB := Lib.hid hnb
            have HNN := Lib.hid hnn
            clear hnl hnb hnn
            have e1 : ((nl : Int) != (nl : Int)) = false := by simp
            have e2 : ((nb : Int) != (nb : Int)) = false := by simp
            have e3 : ((nn : Int) != (nn : Int)) = false := by simp
            go_wp2_with (fail)
            refine (HST.out _ (Below.refl _ _)).mono ?_
            rintro e w10 ⟨rfl, T10⟩
            go_wp2_with (fail)
            refine (HTI.out _ T10).mono ?_
            rintro e w11 ⟨At, nt, ct, rfl, hZ, T11⟩
            have T11a := nxt T10 T11
            have T12 := T11a.alloc T11a.size (.cells #[.int .i64 (nl : Int), .int .i64 (nb : Int), .int .i64 (nn : Int)] 54)
            have r12 := heap_alloc_new w11 (.cells #[.int .i64 (nl : Int), .int .i64 (nb : Int), .int .i64 (nn : Int)] 54)
            obtain ⟨t0, t1, t2, -, -, -⟩ := row3 r12
            have HZ12 := Lib.hid (hZ.alloc (.cells #[.int .i64 (nl : Int), .int .i64 (nb : Int), .int .i64 (nn : Int)] 54))
            have hzl : s2.tm.length = nt := by have := hZ.len; simpa [tmKeys] using this
            have HZL := Lib.hid hzl
            clear hZ T11 T10 r12 hzl
            go_wp2_with (fail)
            generalize hw12 : w11.alloc (.cells #[.int .i64 (nl : Int), .int .i64 (nb : Int), .int .i64 (nn : Int)] 54) = w12 at *
            have R12 := HV.out _ T12
            obtain ⟨-, g7, g8, g9, g10, -⟩ := R12.cells
            obtain ⟨PL, cL, hvl, _, _, _⟩ := R12.lst
            rw [HNL.out] at hvl
            rw [hvl] at g7
            rw [HNB.out] at g8
            rw [HNN.out] at g9
            obtain ⟨PT, cT, _, gt1, hRT⟩ := R12.2.1.cells
            rw [HZL.out] at gt1 hRT htl
            have HRT := Lib.hid hRT
            have HB12 := Lib.hid (fun W (U : Below w12.heap.size w12 W) => T12.trans (U.mono T12.size))
            have e4 : ((nt : Int) != (nt : Int)) = false := by simp
            clear R12 hw12 hvl hRT
            go_quiet (fail)
            go_wp2_with (fail)
            have B12 := below_drewN' (Below.refl w12.heap.size w12) nq
            have hgr : gr < w12.heap.size := lt_row (HV.out _ T12).1
            have hgt : gt < w12.heap.size := (HV.out _ T12).2.1.2.1 _ (HV.out _ T12).2.1.1
            go_loopw [23] (fun i wr => ∃ k : Nat, k ≤ nt ∧ i = .int .i64 (k : Int) ∧ Below w12.heap.size w12 wr) (fun i _ => nt - (intOf i).toNat)
            case atStart => exact ⟨0, Nat.zero_le _, rfl, B12⟩
            case round =>
              obtain ⟨k, hk, rfl, hb3⟩ := hrel
              by_cases hlt3 : k < nt
              · have f0 : decide ((k : Int) < (nt : Int)) = true := by simp; omega
                have f0' : decide (k < nt) = true := by simp; omega
                have hk0 : (0 : Int) ≤ (k : Int) := by omega
                have hk1 : (k : Int) < (nt : Int) := by omega
                have hz3 : Zs wr At nt ct (tmKeys s2.tm) := Vals.below HZ12.out hb3
                obtain ⟨bz, oz, rfl, hbz, hcz⟩ := hz3.cell (by omega)
                have cz := hcz k (by simp [tmKeys]; have := HZL.out; omega)
                obtain ⟨bt, ot, rfl, hbt, hct⟩ := HRT.out.2.2.2 (by omega)
                obtain ⟨ck, -, -⟩ := hct k (by have := HZL.out; omega)
                have ck := (hb3.cell (p := ⟨bt, ot + k * 3, none⟩) hbt).trans ck
                have h10 := (hb3.cell (p := ⟨gr, 10, none⟩) hgr).trans g10
                have h1t := (hb3.cell (p := ⟨gt, 1, none⟩) hgt).trans gt1
                have ekey : (tmKeys s2.tm)[k]'(by simp [tmKeys]; have := HZL.out; omega) = (s2.tm[k]'(by have := HZL.out; omega)).1 := by simp [tmKeys]
                rw [ekey] at cz
                clear hcz hct ekey g7 g8 g9 t0 t1 t2
                generalize (s2.tm[k]'(by have := HZL.out; omega)).1 = key at *
                have ekk : (key != key) = false := by simp
                go_wp2_with (fail)
                go_quiet (fail)
                go_wp2
                go_roundw
                case rel => exact ⟨k + 1, by omega, by go_num, below_drewN' hb3 _⟩
                case measure => simp [intOf]; omega
              · have f0 : decide ((k : Int) < (nt : Int)) = false := by simp; omega
                have f0' : decide (k < nt) = false := by simp; omega
                have T13 := HB12.out _ hb3
                have HT13 := Lib.hid (HT2.out.below (C.holds _ _) (RP.holds _ _) T13)
                have hb13 := nxt hb2 T13
                clear g7 g8 g9 g10 gt1 t0 t1 t2
                go_wp2
                go_roundw
                case rel => exact ⟨j + 1, _, _, _, by omega, by go_num, (HF2.out), HT13.out, hb13⟩
                case measure => simp [intOf]; omega
          · have dk0 : (xk == 0) = false := by simpa using hk0
            clear hk0
            by_cases hk1 : xk = 1
            · have dk1 : (xk == 1) = true := by simpa using hk1
              have dk2 : (xk == 2) = false := by subst hk1; rfl
              have dk3 : (xk == 3) = false := by subst hk1; rfl
              clear hk1
              have F1 := fun W h => C.tick ga s W X h HF.out.1 (by have := HF.out.2; omega)
              have R1 := fun W h => rptick_p gr s W Y h (by have := HF.out.2; omega)
              have HF2 := Lib.hid HF.out.tick
              generalize puTickL s = pks at *
              generalize puTick s = s2 at *
              have F1 := Lib.hid F1
              have R1 := Lib.hid R1
              go_wp2_with (fail)
              generalize hwa : wr.alloc (.cells #[.int .i64 xk, .int .i64 xn, .slice A' L c', .bool pa, .int .i64 ps, .int .u64 (pu : Int), .slice D' M d'] 40) = wa at *
              clear hwa hxb c0 c1 c2 c3 c4 c5 c6
              refine (F1.out _ HTa.out.p1).mono ?_
              rintro e w1 ⟨Ap, np, cp, X1, rfl, pA, q1, t1⟩
              obtain ⟨k1, kb1⟩ := HTa.out.left (C.holds _ _) (RP.holds _ _) q1 t1
              have hy1 := HTa.out.2.2.2.2.2.2.1
              have HT1 := Lib.hid k1
              have hb1 := hba.trans kb1
              have K1 := Lib.hid ((t1.off.block xb HXB.out.2.2 HXB.out.1).trans KA.out)
              have HPA := Lib.hid pA
              clear q1 t1 k1 kb1 pA
              go_wp2_with (fail)
              refine (R1.out _ HT1.out.p2).mono ?_
              rintro e w2 ⟨Bp, mp, dp, Y1, rfl, pB, q2, t2⟩
              obtain ⟨k2, kb2⟩ := HT1.out.right (C.holds _ _) (RP.holds _ _) q2 t2
              have HT2a := Lib.hid k2
              have hb2a := hb1.trans kb2
              have HSA := Lib.hid (rsameall14 _ _ _ _ _ _ _ _ _ _ (HPA.out.turn t2 (fun k _ hk => .inr (hy1 k hk))) pB)
              clear q2 t2 k2 kb2 pB HPA hy1
              go_wp2_with (fail)
              refine HSA.out.mono ?_
              rintro e w3 ⟨rfl, T3⟩
              have HT2 := Lib.hid (HT2a.out.below (C.holds _ _) (RP.holds _ _) T3)
              have hb2 := nxt hb2a T3
              clear T3 HT2a hb2a hb1 hba
              have HST := Lib.hid (fun W (U : Below w3.heap.size w3 W) => C.state ga _ W _ ((C.holds _ _).below HT2.out.p1 U) (HF2.out).1 (by have := (HF2.out).2; omega))
              have HTI := Lib.hid (fun W (U : Below w3.heap.size w3 W) => C.timers ga _ W _ ((C.holds _ _).below HT2.out.p1 U) (HF2.out).1 (by have := (HF2.out).2; omega))
              have hrp := HT2.out.p2
              obtain ⟨hokr, gt, v, Xt, Xl, hv, hy⟩ := hrp
              have htl := hokr.tlen
              have HV := Lib.hid (fun W (U : Below w3.heap.size w3 W) => hv.below U)
              clear hv hy hokr
              generalize hnl : s2.ls.length = nl at *
              generalize hnb : s2.base = nb at *
              generalize hnn : s2.next = nn at *
              have HNL := Lib.hid hnl
              have HNB := Lib.hid hnb
              have HNN := Lib.hid hnn
              clear hnl hnb hnn
              have e1 : ((nl : Int) != (nl : Int)) = false := by simp
              have e2 : ((nb : Int) != (nb : Int)) = false := by simp
              have e3 : ((nn : Int) != (nn : Int)) = false := by simp
              go_wp2_with (fail)
              refine (HST.out _ (Below.refl _ _)).mono ?_
              rintro e w10 ⟨rfl, T10⟩
              go_wp2_with (fail)
              refine (HTI.out _ T10).mono ?_
              rintro e w11 ⟨At, nt, ct, rfl, hZ, T11⟩
              have T11a := nxt T10 T11
              have T12 := T11a.alloc T11a.size (.cells #[.int .i64 (nl : Int), .int .i64 (nb : Int), .int .i64 (nn : Int)] 54)
              have r12 := heap_alloc_new w11 (.cells #[.int .i64 (nl : Int), .int .i64 (nb : Int), .int .i64 (nn : Int)] 54)
              obtain ⟨t0, t1, t2, -, -, -⟩ := row3 r12
              have HZ12 := Lib.hid (hZ.alloc (.cells #[.int .i64 (nl : Int), .int .i64 (nb : Int), .int .i64 (nn : Int)] 54))
              have hzl : s2.tm.length = nt := by have := hZ.len; simpa [tmKeys] using this
              have HZL := Lib.hid hzl
              clear hZ T11 T10 r12 hzl
              go_wp2_with (fail)
              generalize hw12 : w11.alloc (.cells #[.int .i64 (nl : Int), .int .i64 (nb : Int), .int .i64 (nn : Int)] 54) = w12 at *
              have R12 := HV.out _ T12
              obtain ⟨-, g7, g8, g9, g10, -⟩ := R12.cells
              obtain ⟨PL, cL, hvl, _, _, _⟩ := R12.lst
              rw [HNL.out] at hvl
              rw [hvl] at g7
              rw [HNB.out] at g8
              rw [HNN.out] at g9
              obtain ⟨PT, cT, _, gt1, hRT⟩ := R12.2.1.cells
              rw [HZL.out] at gt1 hRT htl
              have HRT := Lib.hid hRT
              have HB12 := Lib.hid (fun W (U : Below w12.heap.size w12 W) => T12.trans (U.mono T12.size))
              have e4 : ((nt : Int) != (nt : Int)) = false := by simp
              clear R12 hw12 hvl hRT
              go_quiet (fail)
              go_wp2_with (fail)
              have B12 := below_drewN' (Below.refl w12.heap.size w12) nq
              have hgr : gr < w12.heap.size := lt_row (HV.out _ T12).1
              have hgt : gt < w12.heap.size := (HV.out _ T12).2.1.2.1 _ (HV.out _ T12).2.1.1
              go_loopw [23] (fun i wr => ∃ k : Nat, k ≤ nt ∧ i = .int .i64 (k : Int) ∧ Below w12.heap.size w12 wr) (fun i _ => nt - (intOf i).toNat)
              case atStart => exact ⟨0, Nat.zero_le _, rfl, B12⟩
              case round =>
                obtain ⟨k, hk, rfl, hb3⟩ := hrel
                by_cases hlt3 : k < nt
                · have f0 : decide ((k : Int) < (nt : Int)) = true := by simp; omega
                  have f0' : decide (k < nt) = true := by simp; omega
                  have hk0 : (0 : Int) ≤ (k : Int) := by omega
                  have hk1 : (k : Int) < (nt : Int) := by omega
                  have hz3 : Zs wr At nt ct (tmKeys s2.tm) := Vals.below HZ12.out hb3
                  obtain ⟨bz, oz, rfl, hbz, hcz⟩ := hz3.cell (by omega)
                  have cz := hcz k (by simp [tmKeys]; have := HZL.out; omega)
                  obtain ⟨bt, ot, rfl, hbt, hct⟩ := HRT.out.2.2.2 (by omega)
                  obtain ⟨ck, -, -⟩ := hct k (by have := HZL.out; omega)
                  have ck := (hb3.cell (p := ⟨bt, ot + k * 3, none⟩) hbt).trans ck
                  have h10 := (hb3.cell (p := ⟨gr, 10, none⟩) hgr).trans g10
                  have h1t := (hb3.cell (p := ⟨gt, 1, none⟩) hgt).trans gt1
                  have ekey : (tmKeys s2.tm)[k]'(by simp [tmKeys]; have := HZL.out; omega) = (s2.tm[k]'(by have := HZL.out; omega)).1 := by simp [tmKeys]
                  rw [ekey] at cz
                  clear hcz hct ekey g7 g8 g9 t0 t1 t2
                  generalize (s2.tm[k]'(by have := HZL.out; omega)).1 = key at *
                  have ekk : (key != key) = false := by simp
                  go_wp2_with (fail)
                  go_quiet (fail)
                  go_wp2
                  go_roundw
                  case rel => exact ⟨k + 1, by omega, by go_num, below_drewN' hb3 _⟩
                  case measure => simp [intOf]; omega
                · have f0 : decide ((k : Int) < (nt : Int)) = false := by simp; omega
                  have f0' : decide (k < nt) = false := by simp; omega
                  have T13 := HB12.out _ hb3
                  have HT13 := Lib.hid (HT2.out.below (C.holds _ _) (RP.holds _ _) T13)
                  have hb13 := nxt hb2 T13
                  clear g7 g8 g9 g10 gt1 t0 t1 t2
                  go_wp2
                  go_roundw
                  case rel => exact ⟨j + 1, _, _, _, by omega, by go_num, (HF2.out), HT13.out, hb13⟩
                  case measure => simp [intOf]; omega
            · have dk1 : (xk == 1) = false := by simpa using hk1
              clear hk1
              by_cases hk2 : xk = 2
              · have dk2 : (xk == 2) = true := by simpa using hk2
                have dk3 : (xk == 3) = false := by subst hk2; rfl
                clear hk2
                have F1 := fun W h (U : Below w.heap.size w W) => C.take ga s pa ps pu D' M d' pd W X h HF.out.1 (by have := HF.out.2; omega) hps hpu (DM.out W U)
                have R1 := fun W h => rptake_p gr s pa ps pu D' M d' W Y h (by have := HF.out.2; omega) hpu
                have HF2 := Lib.hid (HF.out.take (by omega) pa ps pu)
                generalize puTakeL s pa ps pu = pks at *
                generalize puTake s pa ps pu = s2 at *
                have F1 := Lib.hid F1
                have R1 := Lib.hid R1
                go_wp2_with (fail)
                generalize hwa : wr.alloc (.cells #[.int .i64 xk, .int .i64 xn, .slice A' L c', .bool pa, .int .i64 ps, .int .u64 (pu : Int), .slice D' M d'] 40) = wa at *
                clear hwa hxb c0 c1 c2 c3 c4 c5 c6
                have K0 := Lib.hid (And.intro (row7 KA.out).2.2.2.1 (And.intro (row7 KA.out).2.2.2.2.1 (And.intro (row7 KA.out).2.2.2.2.2.1 (row7 KA.out).2.2.2.2.2.2)))
                have hy0 := Lib.hid HTa.out.2.2.2.2.2.2.1
                have hX0 := Lib.hid HTa.out.2.2.2.1
                go_region_held3 (fun w' => w'.cell? ⟨xb, 3, none⟩ = some (.bool pa) ∧ w'.cell? ⟨xb, 4, none⟩ = some (.int .i64 ps) ∧ w'.cell? ⟨xb, 5, none⟩ = some (.int .u64 (pu : Int)) ∧ w'.cell? ⟨xb, 6, none⟩ = some (Value.slice D' M d')) (first | exact K0.out | exact K1.out | exact K2.out | exact K3.out)
                  (first
                    | (go_at_call 16; (with_reducible refine (F1.out _ (by first | exact HTa.out.p1 | exact (C.holds _ _).below HTa.out.p1 (Below.refl _ _).drew) (by first | exact hba | exact hba.drew)).mono ?_); rintro e w1 ⟨Ap, np, cp, X1, rfl, pA, q1, t1⟩; have t1' : Turns X X1 wa w1 := (by first | exact t1 | exact t1.undrew); have k1 := HTa.out.left (C.holds _ _) (RP.holds _ _) q1 t1'; have HT1 := Lib.hid k1.1; have hb1 := hba.trans k1.2; have KB := Lib.hid ((t1'.off.block xb HXB.out.2.2 HXB.out.1).trans KA.out); have K1 := Lib.hid (And.intro (row7 KB.out).2.2.2.1 (And.intro (row7 KB.out).2.2.2.2.1 (And.intro (row7 KB.out).2.2.2.2.2.1 (row7 KB.out).2.2.2.2.2.2))); have HPA := Lib.hid pA; have hsz : wa.heap.size ≤ w1.heap.size := t1'.off.size)
                    | (go_at_call 17; (with_reducible refine (R1.out _ HT1.out.p2).mono ?_); rintro e w2 ⟨Bp, mp, dp, Y1, rfl, pB, q2, t2⟩; have k2 := HT1.out.right (C.holds _ _) (RP.holds _ _) q2 t2; have HT2a := Lib.hid k2.1; have hb2a := hb1.trans k2.2; have KC := Lib.hid ((t2.off.block xb (Nat.lt_of_lt_of_le HXB.out.2.2 hsz) HXB.out.2.1).trans KB.out); have K2 := Lib.hid (And.intro (row7 KC.out).2.2.2.1 (And.intro (row7 KC.out).2.2.2.2.1 (And.intro (row7 KC.out).2.2.2.2.2.1 (row7 KC.out).2.2.2.2.2.2))); have HSA := Lib.hid (rsameall14 _ _ _ _ _ _ _ _ _ _ (HPA.out.turn t2 (fun k _ hk => .inr (hy0.out k hk))) pB))
                    | (go_at_call 13; (with_reducible refine (HSA.out).mono ?_); rintro e w3 ⟨rfl, T3⟩; have HT2 := Lib.hid (HT2a.out.below (C.holds _ _) (RP.holds _ _) T3); have hb2 := nxt hb2a T3; have KD := Lib.hid ((T3.block xb (lt_row KC.out)).trans KC.out); have K3 := Lib.hid (And.intro (row7 KD.out).2.2.2.1 (And.intro (row7 KD.out).2.2.2.2.1 (And.intro (row7 KD.out).2.2.2.2.2.1 (row7 KD.out).2.2.2.2.2.2)))))
                all_goals
                  clear T3 HT2a hb2a hb1 hba q1 t1 t1' q2 t2 pA pB k1 k2
                  have HST := Lib.hid (fun W (U : Below w3.heap.size w3 W) => C.state ga _ W _ ((C.holds _ _).below HT2.out.p1 U) (HF2.out).1 (by have := (HF2.out).2; omega))
                  have HTI := Lib.hid (fun W (U : Below w3.heap.size w3 W) => C.timers ga _ W _ ((C.holds _ _).below HT2.out.p1 U) (HF2.out).1 (by have := (HF2.out).2; omega))
                  have hrp := HT2.out.p2
                  obtain ⟨hokr, gt, v, Xt, Xl, hv, hy⟩ := hrp
                  have htl := hokr.tlen
                  have HV := Lib.hid (fun W (U : Below w3.heap.size w3 W) => hv.below U)
                  clear hv hy hokr
                  generalize hnl : s2.ls.length = nl at *
                  generalize hnb : s2.base = nb at *
                  generalize hnn : s2.next = nn at *
                  have HNL := Lib.hid hnl
                  have HNB := Lib.hid hnb
                  have HNN := Lib.hid hnn
                  clear hnl hnb hnn
                  have e1 : ((nl : Int) != (nl : Int)) = false := by simp
                  have e2 : ((nb : Int) != (nb : Int)) = false := by simp
                  have e3 : ((nn : Int) != (nn : Int)) = false := by simp
                  go_wp2_with (fail)
                  refine (HST.out _ (Below.refl _ _)).mono ?_
                  rintro e w10 ⟨rfl, T10⟩
                  go_wp2_with (fail)
                  refine (HTI.out _ T10).mono ?_
                  rintro e w11 ⟨At, nt, ct, rfl, hZ, T11⟩
                  have T11a := nxt T10 T11
                  have T12 := T11a.alloc T11a.size (.cells #[.int .i64 (nl : Int), .int .i64 (nb : Int), .int .i64 (nn : Int)] 54)
                  have r12 := heap_alloc_new w11 (.cells #[.int .i64 (nl : Int), .int .i64 (nb : Int), .int .i64 (nn : Int)] 54)
                  obtain ⟨t0, t1, t2, -, -, -⟩ := row3 r12
                  have HZ12 := Lib.hid (hZ.alloc (.cells #[.int .i64 (nl : Int), .int .i64 (nb : Int), .int .i64 (nn : Int)] 54))
                  have hzl : s2.tm.length = nt := by have := hZ.len; simpa [tmKeys] using this
                  have HZL := Lib.hid hzl
                  clear hZ T11 T10 r12 hzl
                  go_wp2_with (fail)
                  generalize hw12 : w11.alloc (.cells #[.int .i64 (nl : Int), .int .i64 (nb : Int), .int .i64 (nn : Int)] 54) = w12 at *
                  have R12 := HV.out _ T12
                  obtain ⟨-, g7, g8, g9, g10, -⟩ := R12.cells
                  obtain ⟨PL, cL, hvl, _, _, _⟩ := R12.lst
                  rw [HNL.out] at hvl
                  rw [hvl] at g7
                  rw [HNB.out] at g8
                  rw [HNN.out] at g9
                  obtain ⟨PT, cT, _, gt1, hRT⟩ := R12.2.1.cells
                  rw [HZL.out] at gt1 hRT htl
                  have HRT := Lib.hid hRT
                  have HB12 := Lib.hid (fun W (U : Below w12.heap.size w12 W) => T12.trans (U.mono T12.size))
                  have e4 : ((nt : Int) != (nt : Int)) = false := by simp
                  clear R12 hw12 hvl hRT
                  go_quiet (fail)
                  go_wp2_with (fail)
                  have B12 := below_drewN' (Below.refl w12.heap.size w12) nq
                  have hgr : gr < w12.heap.size := lt_row (HV.out _ T12).1
                  have hgt : gt < w12.heap.size := (HV.out _ T12).2.1.2.1 _ (HV.out _ T12).2.1.1
                  go_loopw [23] (fun i wr => ∃ k : Nat, k ≤ nt ∧ i = .int .i64 (k : Int) ∧ Below w12.heap.size w12 wr) (fun i _ => nt - (intOf i).toNat)
                  case atStart => exact ⟨0, Nat.zero_le _, rfl, B12⟩
                  case round =>
                    obtain ⟨k, hk, rfl, hb3⟩ := hrel
                    by_cases hlt3 : k < nt
                    · have f0 : decide ((k : Int) < (nt : Int)) = true := by simp; omega
                      have f0' : decide (k < nt) = true := by simp; omega
                      have hk0 : (0 : Int) ≤ (k : Int) := by omega
                      have hk1 : (k : Int) < (nt : Int) := by omega
                      have hz3 : Zs wr At nt ct (tmKeys s2.tm) := Vals.below HZ12.out hb3
                      obtain ⟨bz, oz, rfl, hbz, hcz⟩ := hz3.cell (by omega)
                      have cz := hcz k (by simp [tmKeys]; have := HZL.out; omega)
                      obtain ⟨bt, ot, rfl, hbt, hct⟩ := HRT.out.2.2.2 (by omega)
                      obtain ⟨ck, -, -⟩ := hct k (by have := HZL.out; omega)
                      have ck := (hb3.cell (p := ⟨bt, ot + k * 3, none⟩) hbt).trans ck
                      have h10 := (hb3.cell (p := ⟨gr, 10, none⟩) hgr).trans g10
                      have h1t := (hb3.cell (p := ⟨gt, 1, none⟩) hgt).trans gt1
                      have ekey : (tmKeys s2.tm)[k]'(by simp [tmKeys]; have := HZL.out; omega) = (s2.tm[k]'(by have := HZL.out; omega)).1 := by simp [tmKeys]
                      rw [ekey] at cz
                      clear hcz hct ekey g7 g8 g9 t0 t1 t2
                      generalize (s2.tm[k]'(by have := HZL.out; omega)).1 = key at *
                      have ekk : (key != key) = false := by simp
                      go_wp2_with (fail)
                      go_quiet (fail)
                      go_wp2
                      go_roundw
                      case rel => exact ⟨k + 1, by omega, by go_num, below_drewN' hb3 _⟩
                      case measure => simp [intOf]; omega
                    · have f0 : decide ((k : Int) < (nt : Int)) = false := by simp; omega
                      have f0' : decide (k < nt) = false := by simp; omega
                      have T13 := HB12.out _ hb3
                      have HT13 := Lib.hid (HT2.out.below (C.holds _ _) (RP.holds _ _) T13)
                      have hb13 := nxt hb2 T13
                      clear g7 g8 g9 g10 gt1 t0 t1 t2
                      go_wp2
                      go_roundw
                      case rel => exact ⟨j + 1, _, _, _, by omega, by go_num, (HF2.out), HT13.out, hb13⟩
                      case measure => simp [intOf]; omega
              · have dk2 : (xk == 2) = false := by simpa using hk2
                clear hk2
                by_cases hk3 : xk = 3
                · have dk3 : (xk == 3) = true := by simpa using hk3
                  clear hk3
                  have F1 := fun W h => C.poll ga s xn W X h HF.out.1 hxn (by have := HF.out.2; omega)
                  have R1 := fun W h => rppoll_p gr s xn W Y h
                  generalize puPoll s xn = sn at *
                  generalize puPollE s xn = se at *
                  have n1 : ((sn : Int) != (sn : Int)) = false := by simp
                  have n2 : ((se : Int) != (se : Int)) = false := by simp
                  have F1 := Lib.hid F1
                  have R1 := Lib.hid R1
                  go_wp2_with (fail)
                  generalize hwa : wr.alloc (.cells #[.int .i64 xk, .int .i64 xn, .slice A' L c', .bool pa, .int .i64 ps, .int .u64 (pu : Int), .slice D' M d'] 40) = wa at *
                  clear hwa hxb c0 c1 c2 c3 c4 c5 c6
                  refine (F1.out _ HTa.out.p1).mono ?_
                  rintro e w3 ⟨rfl, T1⟩
                  have HT2 := Lib.hid (HTa.out.below (C.holds _ _) (RP.holds _ _) T1)
                  have hb2 := nxt hba T1
                  have K1 := Lib.hid ((T1.block xb HXB.out.2.2).trans KA.out)
                  obtain ⟨r0, r1, r2, r3, r4, r5, r6⟩ := row7 K1.out
                  clear T1
                  go_wp2_with (fail)
                  refine (R1.out _ HT2.out.p2).mono ?_
                  rintro e w9 ⟨rfl, rfl⟩
                  go_wp2_with (fail)
                  refine (HN.out _ _).mono ?_
                  rintro e w9 ⟨rfl, rfl⟩
                  clear r0 r1 r2 r3 r4 r5 r6 hba
                  have HST := Lib.hid (fun W (U : Below w3.heap.size w3 W) => C.state ga _ W _ ((C.holds _ _).below HT2.out.p1 U) (HF.out.more).1 (by have := (HF.out.more).2; omega))
                  have HTI := Lib.hid (fun W (U : Below w3.heap.size w3 W) => C.timers ga _ W _ ((C.holds _ _).below HT2.out.p1 U) (HF.out.more).1 (by have := (HF.out.more).2; omega))
                  have hrp := HT2.out.p2
                  obtain ⟨hokr, gt, v, Xt, Xl, hv, hy⟩ := hrp
                  have htl := hokr.tlen
                  have HV := Lib.hid (fun W (U : Below w3.heap.size w3 W) => hv.below U)
                  clear hv hy hokr
                  generalize hnl : s.ls.length = nl at *
                  generalize hnb : s.base = nb at *
                  generalize hnn : s.next = nn at *
                  have HNL := Lib.hid hnl
                  have HNB := Lib.hid hnb
                  have HNN := Lib.hid hnn
                  clear hnl hnb hnn
                  have e1 : ((nl : Int) != (nl : Int)) = false := by simp
                  have e2 : ((nb : Int) != (nb : Int)) = false := by simp
                  have e3 : ((nn : Int) != (nn : Int)) = false := by simp
                  go_wp2_with (fail)
                  refine (HST.out _ (Below.refl _ _)).mono ?_
                  rintro e w10 ⟨rfl, T10⟩
                  go_wp2_with (fail)
                  refine (HTI.out _ T10).mono ?_
                  rintro e w11 ⟨At, nt, ct, rfl, hZ, T11⟩
                  have T11a := nxt T10 T11
                  have T12 := T11a.alloc T11a.size (.cells #[.int .i64 (nl : Int), .int .i64 (nb : Int), .int .i64 (nn : Int)] 54)
                  have r12 := heap_alloc_new w11 (.cells #[.int .i64 (nl : Int), .int .i64 (nb : Int), .int .i64 (nn : Int)] 54)
                  obtain ⟨t0, t1, t2, -, -, -⟩ := row3 r12
                  have HZ12 := Lib.hid (hZ.alloc (.cells #[.int .i64 (nl : Int), .int .i64 (nb : Int), .int .i64 (nn : Int)] 54))
                  have hzl : s.tm.length = nt := by have := hZ.len; simpa [tmKeys] using this
                  have HZL := Lib.hid hzl
                  clear hZ T11 T10 r12 hzl
                  go_wp2_with (fail)
                  generalize hw12 : w11.alloc (.cells #[.int .i64 (nl : Int), .int .i64 (nb : Int), .int .i64 (nn : Int)] 54) = w12 at *
                  have R12 := HV.out _ T12
                  obtain ⟨-, g7, g8, g9, g10, -⟩ := R12.cells
                  obtain ⟨PL, cL, hvl, _, _, _⟩ := R12.lst
                  rw [HNL.out] at hvl
                  rw [hvl] at g7
                  rw [HNB.out] at g8
                  rw [HNN.out] at g9
                  obtain ⟨PT, cT, _, gt1, hRT⟩ := R12.2.1.cells
                  rw [HZL.out] at gt1 hRT htl
                  have HRT := Lib.hid hRT
                  have HB12 := Lib.hid (fun W (U : Below w12.heap.size w12 W) => T12.trans (U.mono T12.size))
                  have e4 : ((nt : Int) != (nt : Int)) = false := by simp
                  clear R12 hw12 hvl hRT
                  go_quiet (fail)
                  go_wp2_with (fail)
                  have B12 := below_drewN' (Below.refl w12.heap.size w12) nq
                  have hgr : gr < w12.heap.size := lt_row (HV.out _ T12).1
                  have hgt : gt < w12.heap.size := (HV.out _ T12).2.1.2.1 _ (HV.out _ T12).2.1.1
                  go_loopw [23] (fun i wr => ∃ k : Nat, k ≤ nt ∧ i = .int .i64 (k : Int) ∧ Below w12.heap.size w12 wr) (fun i _ => nt - (intOf i).toNat)
                  case atStart => exact ⟨0, Nat.zero_le _, rfl, B12⟩
                  case round =>
                    obtain ⟨k, hk, rfl, hb3⟩ := hrel
                    by_cases hlt3 : k < nt
                    · have f0 : decide ((k : Int) < (nt : Int)) = true := by simp; omega
                      have f0' : decide (k < nt) = true := by simp; omega
                      have hk0 : (0 : Int) ≤ (k : Int) := by omega
                      have hk1 : (k : Int) < (nt : Int) := by omega
                      have hz3 : Zs wr At nt ct (tmKeys s.tm) := Vals.below HZ12.out hb3
                      obtain ⟨bz, oz, rfl, hbz, hcz⟩ := hz3.cell (by omega)
                      have cz := hcz k (by simp [tmKeys]; have := HZL.out; omega)
                      obtain ⟨bt, ot, rfl, hbt, hct⟩ := HRT.out.2.2.2 (by omega)
                      obtain ⟨ck, -, -⟩ := hct k (by have := HZL.out; omega)
                      have ck := (hb3.cell (p := ⟨bt, ot + k * 3, none⟩) hbt).trans ck
                      have h10 := (hb3.cell (p := ⟨gr, 10, none⟩) hgr).trans g10
                      have h1t := (hb3.cell (p := ⟨gt, 1, none⟩) hgt).trans gt1
                      have ekey : (tmKeys s.tm)[k]'(by simp [tmKeys]; have := HZL.out; omega) = (s.tm[k]'(by have := HZL.out; omega)).1 := by simp [tmKeys]
                      rw [ekey] at cz
                      clear hcz hct ekey g7 g8 g9 t0 t1 t2
                      generalize (s.tm[k]'(by have := HZL.out; omega)).1 = key at *
                      have ekk : (key != key) = false := by simp
                      go_wp2_with (fail)
                      go_quiet (fail)
                      go_wp2
                      go_roundw
                      case rel => exact ⟨k + 1, by omega, by go_num, below_drewN' hb3 _⟩
                      case measure => simp [intOf]; omega
                    · have f0 : decide ((k : Int) < (nt : Int)) = false := by simp; omega
                      have f0' : decide (k < nt) = false := by simp; omega
                      have T13 := HB12.out _ hb3
                      have HT13 := Lib.hid (HT2.out.below (C.holds _ _) (RP.holds _ _) T13)
                      have hb13 := nxt hb2 T13
                      clear g7 g8 g9 g10 gt1 t0 t1 t2
                      go_wp2
                      go_roundw
                      case rel => exact ⟨j + 1, _, _, _, by omega, by go_num, (HF.out.more), HT13.out, hb13⟩
                      case measure => simp [intOf]; omega
                · have dk3 : (xk == 3) = false := by simpa using hk3
                  clear hk3
                  go_wp2_with (fail)
                  generalize hwa : wr.alloc (.cells #[.int .i64 xk, .int .i64 xn, .slice A' L c', .bool pa, .int .i64 ps, .int .u64 (pu : Int), .slice D' M d'] 40) = wa at *
                  clear hwa hxb c0 c1 c2 c3 c4 c5 c6
                  have HT2 := HTa
                  have hb2 := hba
                  have HST := Lib.hid (fun W (U : Below wa.heap.size wa W) => C.state ga _ W _ ((C.holds _ _).below HT2.out.p1 U) (HF.out.more).1 (by have := (HF.out.more).2; omega))
                  have HTI := Lib.hid (fun W (U : Below wa.heap.size wa W) => C.timers ga _ W _ ((C.holds _ _).below HT2.out.p1 U) (HF.out.more).1 (by have := (HF.out.more).2; omega))
                  have hrp := HT2.out.p2
                  obtain ⟨hokr, gt, v, Xt, Xl, hv, hy⟩ := hrp
                  have htl := hokr.tlen
                  have HV := Lib.hid (fun W (U : Below wa.heap.size wa W) => hv.below U)
                  clear hv hy hokr
                  generalize hnl : s.ls.length = nl at *
                  generalize hnb : s.base = nb at *
                  generalize hnn : s.next = nn at *
                  have HNL := Lib.hid hnl
                  have HNB := Lib.hid hnb
                  have HNN := Lib.hid hnn
                  clear hnl hnb hnn
                  have e1 : ((nl : Int) != (nl : Int)) = false := by simp
                  have e2 : ((nb : Int) != (nb : Int)) = false := by simp
                  have e3 : ((nn : Int) != (nn : Int)) = false := by simp
                  refine (HST.out _ (Below.refl _ _)).mono ?_
                  rintro e w10 ⟨rfl, T10⟩
                  go_wp2_with (fail)
                  refine (HTI.out _ T10).mono ?_
                  rintro e w11 ⟨At, nt, ct, rfl, hZ, T11⟩
                  have T11a := nxt T10 T11
                  have T12 := T11a.alloc T11a.size (.cells #[.int .i64 (nl : Int), .int .i64 (nb : Int), .int .i64 (nn : Int)] 54)
                  have r12 := heap_alloc_new w11 (.cells #[.int .i64 (nl : Int), .int .i64 (nb : Int), .int .i64 (nn : Int)] 54)
                  obtain ⟨t0, t1, t2, -, -, -⟩ := row3 r12
                  have HZ12 := Lib.hid (hZ.alloc (.cells #[.int .i64 (nl : Int), .int .i64 (nb : Int), .int .i64 (nn : Int)] 54))
                  have hzl : s.tm.length = nt := by have := hZ.len; simpa [tmKeys] using this
                  have HZL := Lib.hid hzl
                  clear hZ T11 T10 r12 hzl
                  go_wp2_with (fail)
                  generalize hw12 : w11.alloc (.cells #[.int .i64 (nl : Int), .int .i64 (nb : Int), .int .i64 (nn : Int)] 54) = w12 at *
                  have R12 := HV.out _ T12
                  obtain ⟨-, g7, g8, g9, g10, -⟩ := R12.cells
                  obtain ⟨PL, cL, hvl, _, _, _⟩ := R12.lst
                  rw [HNL.out] at hvl
                  rw [hvl] at g7
                  rw [HNB.out] at g8
                  rw [HNN.out] at g9
                  obtain ⟨PT, cT, _, gt1, hRT⟩ := R12.2.1.cells
                  rw [HZL.out] at gt1 hRT htl
                  have HRT := Lib.hid hRT
                  have HB12 := Lib.hid (fun W (U : Below w12.heap.size w12 W) => T12.trans (U.mono T12.size))
                  have e4 : ((nt : Int) != (nt : Int)) = false := by simp
                  clear R12 hw12 hvl hRT
                  go_quiet (fail)
                  go_wp2_with (fail)
                  have B12 := below_drewN' (Below.refl w12.heap.size w12) nq
                  have hgr : gr < w12.heap.size := lt_row (HV.out _ T12).1
                  have hgt : gt < w12.heap.size := (HV.out _ T12).2.1.2.1 _ (HV.out _ T12).2.1.1
                  go_loopw [23] (fun i wr => ∃ k : Nat, k ≤ nt ∧ i = .int .i64 (k : Int) ∧ Below w12.heap.size w12 wr) (fun i _ => nt - (intOf i).toNat)
                  case atStart => exact ⟨0, Nat.zero_le _, rfl, B12⟩
                  case round =>
                    obtain ⟨k, hk, rfl, hb3⟩ := hrel
                    by_cases hlt3 : k < nt
                    · have f0 : decide ((k : Int) < (nt : Int)) = true := by simp; omega
                      have f0' : decide (k < nt) = true := by simp; omega
                      have hk0 : (0 : Int) ≤ (k : Int) := by omega
                      have hk1 : (k : Int) < (nt : Int) := by omega
                      have hz3 : Zs wr At nt ct (tmKeys s.tm) := Vals.below HZ12.out hb3
                      obtain ⟨bz, oz, rfl, hbz, hcz⟩ := hz3.cell (by omega)
                      have cz := hcz k (by simp [tmKeys]; have := HZL.out; omega)
                      obtain ⟨bt, ot, rfl, hbt, hct⟩ := HRT.out.2.2.2 (by omega)
                      obtain ⟨ck, -, -⟩ := hct k (by have := HZL.out; omega)
                      have ck := (hb3.cell (p := ⟨bt, ot + k * 3, none⟩) hbt).trans ck
                      have h10 := (hb3.cell (p := ⟨gr, 10, none⟩) hgr).trans g10
                      have h1t := (hb3.cell (p := ⟨gt, 1, none⟩) hgt).trans gt1
                      have ekey : (tmKeys s.tm)[k]'(by simp [tmKeys]; have := HZL.out; omega) = (s.tm[k]'(by have := HZL.out; omega)).1 := by simp [tmKeys]
                      rw [ekey] at cz
                      clear hcz hct ekey g7 g8 g9 t0 t1 t2
                      generalize (s.tm[k]'(by have := HZL.out; omega)).1 = key at *
                      have ekk : (key != key) = false := by simp
                      go_wp2_with (fail)
                      go_quiet (fail)
                      go_wp2
                      go_roundw
                      case rel => exact ⟨k + 1, by omega, by go_num, below_drewN' hb3 _⟩
                      case measure => simp [intOf]; omega
                    · have f0 : decide ((k : Int) < (nt : Int)) = false := by simp; omega
                      have f0' : decide (k < nt) = false := by simp; omega
                      have T13 := HB12.out _ hb3
                      have HT13 := Lib.hid (HT2.out.below (C.holds _ _) (RP.holds _ _) T13)
                      have hb13 := nxt hb2 T13
                      clear g7 g8 g9 g10 gt1 t0 t1 t2
                      go_wp2
                      go_roundw
                      case rel => exact ⟨j + 1, _, _, _, by omega, by go_num, (HF.out.more), HT13.out, hb13⟩
                      case measure => simp [intOf]; omega
        · have d0 : decide ((j : Int) < (n : Int)) = false := by simp; omega
          go_wp2_with (fail)
          refine (HL.out _).mono ?_
          rintro e w4 ⟨rfl, T4⟩
          have T4 := nxt hbel T4
          go_wp2
          go_ret
          exact ⟨rfl, T4⟩
    · have G1 := Lib.hid (fun W => G1n.out W hrr)
      have G2 := Lib.hid (fun W => G2n.out W hrr)
      have ece : (ce != ce) = false := by simp
      clear hrr G1n G2n G1y G2y HF0
      go_enter Try.func3, Try.ntmps3
      go_wp2_with (fail)
      refine (HU.out _ HT0.out).mono ?_
      rintro e w1 ⟨rfl, Ta⟩
      have T1 := nxt HT0.out Ta
      obtain ⟨z0, z1, z2, z3, z4, z5, z6⟩ := row7 (HCW.out _ Ta)
      go_wp2_with (fail)
      refine (G1.out _).mono ?_
      rintro e w2 ⟨rfl, T2⟩
      clear z0 z1 z2 z3 z4 z5 z6
      obtain ⟨z0, z1, z2, z3, z4, z5, z6⟩ := row7 (HCW.out _ (nxt Ta T2))
      have T2 := nxt T1 T2
      go_wp2_with (fail)
      refine (G2.out _).mono ?_
      rintro e w3 ⟨rfl, T3⟩
      have T3 := nxt T2 T3
      go_wp2_with (fail)
      refine (HN.out _ _).mono ?_
      rintro e w4 ⟨rfl, rfl⟩
      go_wp2_with (fail)
      go_loopw [9] (fun i wr => i = .int .i64 0 ∧ Below w.heap.size w wr) (fun _ _ => 0)
      case atStart => exact ⟨rfl, T3⟩
      case round =>
        obtain ⟨rfl, hbel⟩ := hrel
        by_cases h0 : n = 0
        · have d0 : ¬ ((0 : Int) < (n : Int)) := by omega
          have d1 : decide ((0 : Int) < (n : Int)) = false := by simpa using d0
          clear h0
          go_wp2_with (fail)
          refine (HL.out _).mono ?_
          rintro e w4 ⟨rfl, T4⟩
          have T4 := nxt hbel T4
          go_wp2
          go_ret
          exact ⟨rfl, T4⟩
        · have d1 : decide ((0 : Int) < (n : Int)) = true := by simp; omega
          have d0 : (0 : Int) < (n : Int) := by omega
          clear h0
          go_wp2_with (fail)
          refine (HL.out _).mono ?_
          rintro e w4 ⟨rfl, T4⟩
          have T4 := nxt hbel T4
          go_wp2
          go_ret
          exact ⟨rfl, T4⟩
end Go.Proofs.Ytncpabnmdofomaa
