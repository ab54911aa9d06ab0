/- The walk of layer 28's GiverDoes, over the contracts of giver and nonce. -/
import Derived.Test.YtoajbocpebfjoaaGiD
import Derived.Deep.RegionHeld3
import Derived.IntWalk
namespace Go.Proofs.Ytoajbocpebfjoaa
open Go.RowKit
set_option maxRecDepth 20000

theorem rgtake_gi (g : Nat) (s : Gvs) (kd : Int) (T C R : Nat) (A : Option Addr) (n c : Nat) (d : List UInt8) (w : World) (X : Nat → Prop) (h : RG g s w X) (hB : Bys w A n c d) (hk : s.k < 1000000) (hent : s.ent < 1000000) :
    Calls Try.prog 15 #[.pointer (some ⟨g, 0, none⟩), .agg #[.int .i64 kd, .int .u64 (T : Int), .int .u64 (C : Int), .int .u64 (R : Int), .slice A n c]] w (GivesTks (RG g (gvTake s kd T C d)) X (gvTakeL s kd T C) w) := by
  obtain ⟨gq, gs, Xq, Xs, hv, rfl⟩ := h
  exact rgtake_any g gq gs s Xq Xs kd T C R A n c d w hv hB hk hent
theorem rgrecv_gi (g : Nat) (s : Gvs) (w : World) (X : Nat → Prop) (h : RG g s w X) (hret : s.ret < 1000000) :
    Calls Try.prog 17 #[.pointer (some ⟨g, 0, none⟩)] w (GivesRvT (RG g (gvRecv s)) X (s.ls.headD []) (!s.ls.isEmpty) (gvRecvL s) w) := by
  obtain ⟨gq, gs, Xq, Xs, hv, rfl⟩ := h
  exact rgrecv_any g gq gs s Xq Xs w hv hret
set_option maxHeartbeats 16000000 in
theorem walk_GiverDoes {S : Nat → List Nat → Nat → World → (Nat → Prop) → Prop} (NC : NoC S) {G : Nat → Nat → Gvs → World → (Nat → Prop) → Prop} (C : GiC S G) (r : Int) (Ad : Option Addr) (nd cd : Nat) (ld : List Nat) (A : Option Addr) (n c : Nat) (l : List Act28) (w : World) (hr : I64 r) (hUd : Us w Ad nd cd ld) (hld : ∀ x ∈ ld, x < 18446744073709551616) (hR : Recs rdAct28 6 w A n c l) :
    Calls Try.prog 3 #[.int .i64 r, .slice Ad nd cd, .slice A n c] w fun e w' => e = .returned (.bool true) ∧ Below w.heap.size w w' := by
  have HL := Lib.hid (fun W => live28_any NC C W)
  have HU := Lib.hid (huge28_any A n c l Ad nd cd w hR)
  have HN := Lib.hid num28_any
  have hlen := hR.1
  have hnc := hR.2.1
  have hcm := hR.2.2.1
  unfold maxLen at hcm
  have HC := Lib.hid hR.2.2.2
  have HLN := Lib.hid hlen
  have HFW := Lib.hid (fun h => huge28_few (l := l) (m := nd) h)
  clear hR hlen
  generalize huge28 l nd = hu at *
  cases hu with
  | true =>
    clear hUd hld
    go_enter Try.func3, Try.ntmps3
    go_wp2_with (fail)
    refine HU.out.mono ?_
    rintro e w1 ⟨rfl, T1⟩
    go_wp2_with (fail)
    refine (HL.out _).mono ?_
    rintro e w2 ⟨rfl, T2⟩
    have T2 := nxt T1 T2
    go_wp2
    go_ret
    exact ⟨rfl, T2⟩
  | false =>
    have hn100 : n ≤ 100 := by have := (HFW.out rfl).1.1; rw [HLN.out] at this; exact this
    have hnd : nd ≤ 200 := (HFW.out rfl).1.2
    have HNW := Lib.hid (fun W (U : Below w.heap.size w W) => NC.new Ad nd cd ld W (Vals.below hUd U) hld (by omega))
    have HRN := Lib.hid (fun W (U : Below w.heap.size w W) => rnnew_any Ad nd cd ld W (Vals.below hUd U) (by omega))
    clear HFW hUd
    by_cases hrr : r < 1 ∨ 16 < r
    · have G1 := Lib.hid (fun gs W Xs h => C.new_no r gs ld 0 W Xs hr hrr h)
      have G2 := Lib.hid (fun p W => rgnew_no r p W hrr)
      clear hrr hld
      go_enter Try.func3, Try.ntmps3
      go_wp2_with (fail)
      refine HU.out.mono ?_
      rintro e w1 ⟨rfl, T1⟩
      go_wp2_with (fail)
      refine (HNW.out _ T1).mono ?_
      rintro e w2 ⟨gs, Xs, rfl, q2, -, T2⟩
      have T2 := nxt T1 T2
      have Q2 := Lib.hid q2
      clear q2
      go_wp2_with (fail)
      refine (G1.out gs _ Xs Q2.out).mono ?_
      rintro e w3 ⟨rfl, T3⟩
      have T3 := nxt T2 T3
      go_wp2_with (fail)
      refine (HRN.out _ T3).mono ?_
      rintro e w4 ⟨grs, Ys, rfl, -, -, T4⟩
      have T4 := nxt T3 T4
      go_wp2_with (fail)
      refine (G2.out _ _).mono ?_
      rintro e w5 ⟨rfl, rfl⟩
      go_wp2_with (fail)
      refine (HN.out _ _).mono ?_
      rintro e w5 ⟨rfl, rfl⟩
      go_wp2_with (fail)
      go_loopw [11] (fun i wr => i = .int .i64 0 ∧ Below w.heap.size w wr) (fun _ _ => 0)
      case atStart => exact ⟨rfl, T4⟩
      case round =>
        obtain ⟨rfl, hbel⟩ := hrel
        by_cases h0 : n = 0
        · have d0 : ¬ ((0 : Int) < (n : Int)) := by omega
          have d1 : decide ((0 : Int) < (n : Int)) = false := by simpa using d0
          clear h0
          go_wp2_with (fail)
          refine (HL.out _).mono ?_
          rintro e w6 ⟨rfl, T6⟩
          have T6 := nxt hbel T6
          go_wp2
          go_ret
          exact ⟨rfl, T6⟩
        · have d1 : decide ((0 : Int) < (n : Int)) = true := by simp; omega
          have d0 : (0 : Int) < (n : Int) := by omega
          clear h0
          go_wp2_with (fail)
          refine (HL.out _).mono ?_
          rintro e w6 ⟨rfl, T6⟩
          have T6 := nxt hbel T6
          go_wp2
          go_ret
          exact ⟨rfl, T6⟩
    · obtain ⟨room, rfl⟩ := Int.eq_ofNat_of_zero_le (show 0 ≤ r by omega)
      have hr1 : 1 ≤ room := by omega
      have hr2 : room ≤ 16 := by omega
      have G1 := Lib.hid (fun gs W Xs h => C.new_yes room gs ld 0 W Xs hr1 hr2 h hld (by omega))
      have G2 := Lib.hid (fun grs W Ys h => rgnew_yes room grs ld 0 Ys W hr1 hr2 h (by omega))
      have HF0 := Lib.hid (GvFew.new room ld hr1 hr2 hld)
      clear hrr hld
      go_enter Try.func3, Try.ntmps3
      go_wp2_with (fail)
      refine HU.out.mono ?_
      rintro e w1 ⟨rfl, T1⟩
      go_wp2_with (fail)
      refine (HNW.out _ T1).mono ?_
      rintro e w2 ⟨gs, Xs, rfl, q2, x2, T2⟩
      have hsz := T1.size
      have O2 : Hid (OneAt w.heap.size (S gs ld 0) Xs w2) := ⟨q2, fun k hk => Nat.le_trans hsz (x2 k hk), (nxt T1 T2).size⟩
      have U2 := nxt T1 T2
      clear q2 x2 T2 T1
      go_wp2_with (fail)
      refine (G1.out gs _ Xs O2.out.p).mono ?_
      rintro e w3 ⟨ga, X0, rfl, q3, t3⟩
      obtain ⟨o3, b3⟩ := O2.out.turn (P' := G ga gs ⟨room, [], ld, 0 + 1, nx ld 0, false, false, 0, 0, 0, 0, 0⟩) q3 t3
      have O3 := Lib.hid o3
      have U3 := U2.trans b3
      clear q3 t3 o3 b3 O2 U2
      go_wp2_with (fail)
      refine (HRN.out _ U3).mono ?_
      rintro e w4 ⟨grs, Ys, rfl, q4, y4, T4⟩
      have HT4 := Lib.hid (TwoAt.mk (C.holds _ _ _) (RN.holds _ _ _) O3.out.1 O3.out.2.1 O3.out.2.2 T4 q4 y4)
      have U4 := nxt U3 T4
      clear q4 y4 T4 O3 U3
      go_wp2_with (fail)
      refine (G2.out grs _ Ys HT4.out.p2).mono ?_
      rintro e w5 ⟨gr, Y0, rfl, q5, t5⟩
      obtain ⟨k5, kb5⟩ := HT4.out.right (C.holds _ _ _) (RG.holds _ _) q5 t5
      have HTW := Lib.hid k5
      have T3w := U4.trans kb5
      clear q5 t5 k5 kb5 HT4 U4
      go_wp2_with (fail)
      refine (HN.out _ _).mono ?_
      rintro e w6 ⟨rfl, rfl⟩
      go_wp2_with (fail)
      go_loopw [11] (fun i wr => ∃ (j : Nat) (s : Gvs) (X Y : Nat → Prop), j ≤ n ∧ i = .int .i64 (j : Int) ∧ Hid (GvFew j s) ∧ Hid (TwoAt w.heap.size (G ga gs s) (RG gr s) X Y wr) ∧ Below w.heap.size w wr) (fun i _ => n - (intOf i).toNat)
      case atStart => exact ⟨0, _, X0, Y0, Nat.zero_le _, rfl, HF0, HTW, T3w⟩
      case round =>
        clear HTW T3w
        obtain ⟨j, s, X, Y, hj, rfl, HF, HT, hbel⟩ := hrel
        by_cases hlt : j < n
        · have d0 : decide ((j : Int) < (n : Int)) = true := by simp; omega
          have hjl : j < l.length := by rw [HLN.out]; exact hlt
          obtain ⟨b, o, rfl, hb, hc⟩ := HC.out (by omega)
          obtain ⟨⟨hxk, hpk, hpT, hpC, hpR⟩, D', d', q0, q1, q2, q3, q4, q5, qD⟩ := hc j hjl
          have c0 := (hbel.cell (p := ⟨b, o + j * 6, none⟩) hb).trans q0
          have hjn : (j : Int) < (n : Int) := by omega
          clear hc q0
          generalize l[j] = x at *
          obtain ⟨xk, pk, pT, pC, pR, pd⟩ := x
          simp only at hxk hpk hpT hpC hpR c0 q1 q2 q3 q4 q5 qD
          obtain ⟨M, hM⟩ : ∃ M, pd.length = M := ⟨_, rfl⟩
          rw [hM] at q5 qD
          clear hM
          have DM := Lib.hid (fun W (U : Below w.heap.size w W) => qD.below U)
          have hav : ∀ Z : Nat → Prop, (∀ k, Z k → w.heap.size ≤ k) → Av Z M D' := fun Z hZ hn p e hx => by
            obtain ⟨b9, o9, e', hb9, _⟩ := qD.at_ hn
            rw [e] at e'
            injection e' with e'
            subst e'
            have : w.heap.size ≤ b9 := hZ _ hx
            omega
          have HAV := Lib.hid (hav X HT.out.2.2.1)
          clear qD hav
          by_cases hk0 : xk = 0
          · have dk0 : (xk == 0) = true := by simpa using hk0
            have dk1 : (xk == 1) = false := by subst hk0; rfl
            clear hk0
            have F1 := fun W h (U : Below w.heap.size w W) => C.take ga gs s pk pT pC pR D' M d' pd W X h HF.out.1 (by have := HF.out.2.1; omega) (by have := HF.out.2.2.1; omega) hpk hpT hpC hpR (DM.out W U) HAV.out
            have R1 := fun W h (U : Below w.heap.size w W) => rgtake_gi gr s pk pT pC pR D' M d' pd W Y h (DM.out W U) (by have := HF.out.2.1; omega) (by have := HF.out.2.2.1; omega)
            have HF2 := Lib.hid (HF.out.take (by omega) pk hpT pC pd)
            generalize gvTakeL s pk pT pC = pks at *
            generalize gvTake s pk pT pC pd = s2 at *
            have F1 := Lib.hid F1
            have R1 := Lib.hid R1
            have hy0 := Lib.hid HT.out.2.2.2.2.2.2.1
            have K0 : Hid (∀ W, Below w.heap.size w W → W.cell? ⟨b, o + j * 6 + 1, none⟩ = some (.int .i64 pk) ∧ W.cell? ⟨b, o + j * 6 + 2, none⟩ = some (.int .u64 (pT : Int)) ∧ W.cell? ⟨b, o + j * 6 + 3, none⟩ = some (.int .u64 (pC : Int)) ∧ W.cell? ⟨b, o + j * 6 + 4, none⟩ = some (.int .u64 (pR : Int)) ∧ W.cell? ⟨b, o + j * 6 + 5, none⟩ = some (Value.slice D' M d')) := fun W U => ⟨(U.cell (p := ⟨b, o + j * 6 + 1, none⟩) hb).trans q1, (U.cell (p := ⟨b, o + j * 6 + 2, none⟩) hb).trans q2, (U.cell (p := ⟨b, o + j * 6 + 3, none⟩) hb).trans q3, (U.cell (p := ⟨b, o + j * 6 + 4, none⟩) hb).trans q4, (U.cell (p := ⟨b, o + j * 6 + 5, none⟩) hb).trans q5⟩
            clear q1 q2 q3 q4 q5
            go_wp2_with (fail)
            go_region_held3 (fun w' => w'.cell? ⟨b, o + j * 6 + 1, none⟩ = some (.int .i64 pk) ∧ w'.cell? ⟨b, o + j * 6 + 2, none⟩ = some (.int .u64 (pT : Int)) ∧ w'.cell? ⟨b, o + j * 6 + 3, none⟩ = some (.int .u64 (pC : Int)) ∧ w'.cell? ⟨b, o + j * 6 + 4, none⟩ = some (.int .u64 (pR : Int)) ∧ w'.cell? ⟨b, o + j * 6 + 5, none⟩ = some (Value.slice D' M d')) (first | exact K0.out _ hbel | exact K0.out _ hbel.drew | exact K0.out _ hb1 | exact K0.out _ hb2a | exact K0.out _ hb2)
              (first
                | (go_at_call 14; (with_reducible refine (F1.out _ (by first | exact HT.out.p1 | exact (C.holds _ _ _).below HT.out.p1 (Below.refl _ _).drew) (by first | exact hbel | exact hbel.drew)).mono ?_); rintro e w1 ⟨Ap, np, cp, X1, rfl, pA, q1, t1⟩; have t1' : Turns X X1 wr w1 := (by first | exact t1 | exact t1.undrew); have k1 := HT.out.left (C.holds _ _ _) (RG.holds _ _) q1 t1'; have HT1 := Lib.hid k1.1; have hb1 := hbel.trans k1.2; have HPA := Lib.hid pA)
                | (go_at_call 15; (with_reducible refine (R1.out _ HT1.out.p2 hb1).mono ?_); rintro e w2 ⟨Bp, mp, dp, Y1, rfl, pB, q2, t2⟩; have k2 := HT1.out.right (C.holds _ _ _) (RG.holds _ _) q2 t2; have HT2a := Lib.hid k2.1; have hb2a := hb1.trans k2.2; have HSA := Lib.hid (rsameall15 _ _ _ _ _ _ _ _ _ _ (HPA.out.turn t2 (fun k _ hk => .inr (hy0.out k hk))) pB))
                | (go_at_call 13; (with_reducible refine (HSA.out).mono ?_); rintro e w3 ⟨rfl, T3⟩; have HT2 := Lib.hid (HT2a.out.below (C.holds _ _ _) (RG.holds _ _) T3); have hb2 := nxt hb2a T3))
            all_goals
              clear k1 k2 t1 t2 t1' q1 q2 pA pB HPA HSA HT1 HT2a F1 R1 K0
              have HS := Lib.hid (C.state ga gs _ _ _ HT2.out.p1)
              go_wp2_with (fail)
              refine HS.out.mono ?_
              rintro e w7 ⟨rfl, T7⟩
              have T8 := (Below.refl _ w7).alloc (Nat.le_refl _) (.cells #[.int .i64 (s2.ent : Int), .int .i64 (s2.ret : Int), .int .u64 (s2.r : Int)] 51)
              have HT8 := Lib.hid ((HT2.out.below (C.holds _ _ _) (RG.holds _ _) T7).below (C.holds _ _ _) (RG.holds _ _) T8)
              have hb8 := nxt (nxt hb2 T7) T8
              have h0 := heap_alloc_new w7 (.cells #[.int .i64 (s2.ent : Int), .int .i64 (s2.ret : Int), .int .u64 (s2.r : Int)] 51)
              obtain ⟨xb, hxb⟩ : ∃ xb, w7.heap.size = xb := ⟨_, rfl⟩
              rw [hxb] at h0
              obtain ⟨gq, grs, Yq, Ys, hv, eY⟩ := HT8.out.p2
              obtain ⟨P, pc, -, -, -, cq0, cqR⟩ := hv.2.1.cells
              have hgq := hv.lt gq (.inr (.inl hv.2.1.1))
              have K : Hid (∀ w', Below (w7.alloc (.cells #[.int .i64 (s2.ent : Int), .int .i64 (s2.ret : Int), .int .u64 (s2.r : Int)] 51)).heap.size (w7.alloc (.cells #[.int .i64 (s2.ent : Int), .int .i64 (s2.ret : Int), .int .u64 (s2.r : Int)] 51)) w' → w'.cell? ⟨xb, 0, none⟩ = some (.int .i64 (s2.ent : Int)) ∧ w'.cell? ⟨xb, 1, none⟩ = some (.int .i64 (s2.ret : Int)) ∧ w'.cell? ⟨xb, 2, none⟩ = some (.int .u64 (s2.r : Int)) ∧ w'.cell? ⟨gr, 0, none⟩ = some (.pointer (some ⟨gq, 0, none⟩)) ∧ w'.cell? ⟨gr, 2, none⟩ = some (.int .u64 (s2.r : Int)) ∧ w'.cell? ⟨gr, 8, none⟩ = some (.int .i64 (s2.ent : Int)) ∧ w'.cell? ⟨gr, 9, none⟩ = some (.int .i64 (s2.ret : Int)) ∧ w'.cell? ⟨gq, 1, none⟩ = some (Value.slice P s2.ls.length pc)) := fun w' V => by
                obtain ⟨a0, a1, a2, -⟩ := row3 ((V.block xb (lt_row h0)).trans h0)
                obtain ⟨c0, -, c2, -, -, -, -, -, c8, c9, -⟩ := (hv.below V).cells
                exact ⟨a0, a1, a2, c0, c2, c8, c9, (V.cell (p := ⟨gq, 1, none⟩) hgq).trans cq0⟩
              have HKP := Lib.hid (fun W (U : Below (w7.alloc (.cells #[.int .i64 (s2.ent : Int), .int .i64 (s2.ret : Int), .int .u64 (s2.r : Int)] 51)).heap.size (w7.alloc (.cells #[.int .i64 (s2.ent : Int), .int .i64 (s2.ret : Int), .int .u64 (s2.r : Int)] 51)) W) => C.kept ga gs s2 W _ ((C.holds _ _ _).below HT8.out.p1 U))
              have HQR := Lib.hid (fun W (U : Below (w7.alloc (.cells #[.int .i64 (s2.ent : Int), .int .i64 (s2.ret : Int), .int .u64 (s2.r : Int)] 51)).heap.size (w7.alloc (.cells #[.int .i64 (s2.ent : Int), .int .i64 (s2.ret : Int), .int .u64 (s2.r : Int)] 51)) W) => cqR.below U)
              have n1 : ((s2.ent : Int) != (s2.ent : Int)) = false := by simp
              have n2 : ((s2.ret : Int) != (s2.ret : Int)) = false := by simp
              have n3 : ((s2.r : Int) != (s2.r : Int)) = false := by simp
              obtain ⟨N, hN⟩ : ∃ N, s2.ls.length = N := ⟨_, rfl⟩
              rw [hN] at K HQR
              clear hv eY cq0 cqR hgq h0 hN HS HT2
              go_wp2_with (fail)
              generalize w7.alloc (.cells #[.int .i64 (s2.ent : Int), .int .i64 (s2.ret : Int), .int .u64 (s2.r : Int)] 51) = W0 at *
              have P0 := Below.refl W0.heap.size W0
              go_region_held3 (fun w' => w'.cell? ⟨xb, 0, none⟩ = some (.int .i64 (s2.ent : Int)) ∧ w'.cell? ⟨xb, 1, none⟩ = some (.int .i64 (s2.ret : Int)) ∧ w'.cell? ⟨xb, 2, none⟩ = some (.int .u64 (s2.r : Int)) ∧ w'.cell? ⟨gr, 0, none⟩ = some (.pointer (some ⟨gq, 0, none⟩)) ∧ w'.cell? ⟨gr, 2, none⟩ = some (.int .u64 (s2.r : Int)) ∧ w'.cell? ⟨gr, 8, none⟩ = some (.int .i64 (s2.ent : Int)) ∧ w'.cell? ⟨gr, 9, none⟩ = some (.int .i64 (s2.ret : Int)) ∧ w'.cell? ⟨gq, 1, none⟩ = some (Value.slice P N pc)) (first | exact K.out _ P0 | exact K.out _ P0.drew | exact K.out _ Z1 | exact K.out _ Z2)
                (first
                  | (go_at_call 21; (with_reducible refine (HKP.out _ (by first | exact P0 | exact P0.drew)).mono ?_); rintro e w8 ⟨P2, m2, d2, rfl, rf2, V1⟩; have Z1 := nxt (by first | exact P0 | exact P0.drew) V1; have RF := Lib.hid rf2.rws)
                  | (go_at_call 20; (with_reducible refine (sameall_true _ _ _ _ _ _ s2.ls _ RF.out (HQR.out _ Z1)).mono ?_); rintro e w9 ⟨rfl, V3⟩; have Z2 := nxt Z1 V3))
              all_goals
                have HT9 := Lib.hid (HT8.out.below (C.holds _ _ _) (RG.holds _ _) Z2)
                have hb9 := nxt hb8 Z2
                clear K HKP HQR HT8 RF rf2
                go_wp2
                go_roundw
                case rel => exact ⟨j + 1, _, _, _, by omega, by go_num, HF2.out, HT9.out, hb9⟩
                case measure => simp [intOf]; omega
          · have dk0 : (xk == 0) = false := by simpa using hk0
            clear hk0
            by_cases hk1 : xk = 1
            · have dk1 : (xk == 1) = true := by simpa using hk1
              clear hk1
              have F1 := fun W h => C.recv ga gs s W X h HF.out.1 (by have := HF.out.2.2.2; omega)
              have R1 := fun W h => rgrecv_gi gr s W Y h (by have := HF.out.2.2.2; omega)
              have HF2 := Lib.hid (HF.out.recv (by omega))
              generalize s.ls.headD [] = tm at *
              generalize (!s.ls.isEmpty) = tb at *
              generalize gvRecvL s = pks at *
              generalize gvRecv s = s2 at *
              have n0 : (tb != tb) = false := by simp
              have F1 := Lib.hid F1
              have R1 := Lib.hid R1
              go_wp2_with (fail)
              refine (F1.out _ HT.out.p1).mono ?_
              rintro e w1 ⟨Am, nm, cm, Ap, np, cp, X1, rfl, bm, -, am, pA, q1, t1⟩
              have av := Lib.hid (HT.out.told am)
              obtain ⟨k1, kb1⟩ := HT.out.left (C.holds _ _ _) (RG.holds _ _) q1 t1
              have hy1 := HT.out.2.2.2.2.2.2.1
              have HT1 := Lib.hid k1
              have hb1 := hbel.trans kb1
              have BM := Lib.hid bm
              have HPA := Lib.hid pA
              clear q1 t1 k1 kb1 bm am pA
              go_wp2_with (fail)
              refine (R1.out _ HT1.out.p2).mono ?_
              rintro e w2 ⟨Bm, mm, dm, Bp, mp, dp, Y1, rfl, bm2, -, pB, q2, t2⟩
              obtain ⟨k2, kb2⟩ := HT1.out.right (C.holds _ _ _) (RG.holds _ _) q2 t2
              have HT2a := Lib.hid k2
              have hb2a := hb1.trans kb2
              have HSM := Lib.hid (same_true _ _ _ _ _ _ _ _ (BM.out.off av.out t2.off) bm2)
              have HPA2 := Lib.hid (HPA.out.turn t2 (fun k _ hk => .inr (hy1 k hk)))
              have HPB := Lib.hid pB
              clear q2 t2 k2 kb2 bm2 BM pB hy1
              go_wp2_with (fail)
              refine HSM.out.mono ?_
              rintro e w3 ⟨rfl, T3⟩
              have HSA := Lib.hid (rsameall15 _ _ _ _ _ _ _ _ _ _ (HPA2.out.below T3) (HPB.out.below T3))
              have HT2b := Lib.hid (HT2a.out.below (C.holds _ _ _) (RG.holds _ _) T3)
              have hb2b := nxt hb2a T3
              clear T3 HT2a HPA HPB HPA2
              go_wp2_with (fail)
              refine HSA.out.mono ?_
              rintro e w4 ⟨rfl, T4⟩
              have HT2 := Lib.hid (HT2b.out.below (C.holds _ _ _) (RG.holds _ _) T4)
              have hb2 := nxt hb2b T4
              clear T4 HT2b HSA HSM
              have HS := Lib.hid (C.state ga gs _ _ _ HT2.out.p1)
              go_wp2_with (fail)
              refine HS.out.mono ?_
              rintro e w7 ⟨rfl, T7⟩
              have T8 := (Below.refl _ w7).alloc (Nat.le_refl _) (.cells #[.int .i64 (s2.ent : Int), .int .i64 (s2.ret : Int), .int .u64 (s2.r : Int)] 51)
              have HT8 := Lib.hid ((HT2.out.below (C.holds _ _ _) (RG.holds _ _) T7).below (C.holds _ _ _) (RG.holds _ _) T8)
              have hb8 := nxt (nxt hb2 T7) T8
              have h0 := heap_alloc_new w7 (.cells #[.int .i64 (s2.ent : Int), .int .i64 (s2.ret : Int), .int .u64 (s2.r : Int)] 51)
              obtain ⟨xb, hxb⟩ : ∃ xb, w7.heap.size = xb := ⟨_, rfl⟩
              rw [hxb] at h0
              obtain ⟨gq, grs, Yq, Ys, hv, eY⟩ := HT8.out.p2
              obtain ⟨P, pc, -, -, -, cq0, cqR⟩ := hv.2.1.cells
              have hgq := hv.lt gq (.inr (.inl hv.2.1.1))
              have K : Hid (∀ w', Below (w7.alloc (.cells #[.int .i64 (s2.ent : Int), .int .i64 (s2.ret : Int), .int .u64 (s2.r : Int)] 51)).heap.size (w7.alloc (.cells #[.int .i64 (s2.ent : Int), .int .i64 (s2.ret : Int), .int .u64 (s2.r : Int)] 51)) w' → w'.cell? ⟨xb, 0, none⟩ = some (.int .i64 (s2.ent : Int)) ∧ w'.cell? ⟨xb, 1, none⟩ = some (.int .i64 (s2.ret : Int)) ∧ w'.cell? ⟨xb, 2, none⟩ = some (.int .u64 (s2.r : Int)) ∧ w'.cell? ⟨gr, 0, none⟩ = some (.pointer (some ⟨gq, 0, none⟩)) ∧ w'.cell? ⟨gr, 2, none⟩ = some (.int .u64 (s2.r : Int)) ∧ w'.cell? ⟨gr, 8, none⟩ = some (.int .i64 (s2.ent : Int)) ∧ w'.cell? ⟨gr, 9, none⟩ = some (.int .i64 (s2.ret : Int)) ∧ w'.cell? ⟨gq, 1, none⟩ = some (Value.slice P s2.ls.length pc)) := fun w' V => by
                obtain ⟨a0, a1, a2, -⟩ := row3 ((V.block xb (lt_row h0)).trans h0)
                obtain ⟨c0, -, c2, -, -, -, -, -, c8, c9, -⟩ := (hv.below V).cells
                exact ⟨a0, a1, a2, c0, c2, c8, c9, (V.cell (p := ⟨gq, 1, none⟩) hgq).trans cq0⟩
              have HKP := Lib.hid (fun W (U : Below (w7.alloc (.cells #[.int .i64 (s2.ent : Int), .int .i64 (s2.ret : Int), .int .u64 (s2.r : Int)] 51)).heap.size (w7.alloc (.cells #[.int .i64 (s2.ent : Int), .int .i64 (s2.ret : Int), .int .u64 (s2.r : Int)] 51)) W) => C.kept ga gs s2 W _ ((C.holds _ _ _).below HT8.out.p1 U))
              have HQR := Lib.hid (fun W (U : Below (w7.alloc (.cells #[.int .i64 (s2.ent : Int), .int .i64 (s2.ret : Int), .int .u64 (s2.r : Int)] 51)).heap.size (w7.alloc (.cells #[.int .i64 (s2.ent : Int), .int .i64 (s2.ret : Int), .int .u64 (s2.r : Int)] 51)) W) => cqR.below U)
              have n1 : ((s2.ent : Int) != (s2.ent : Int)) = false := by simp
              have n2 : ((s2.ret : Int) != (s2.ret : Int)) = false := by simp
              have n3 : ((s2.r : Int) != (s2.r : Int)) = false := by simp
              obtain ⟨N, hN⟩ : ∃ N, s2.ls.length = N := ⟨_, rfl⟩
              rw [hN] at K HQR
              clear hv eY cq0 cqR hgq h0 hN HS HT2
              go_wp2_with (fail)
              generalize w7.alloc (.cells #[.int .i64 (s2.ent : Int), .int .i64 (s2.ret : Int), .int .u64 (s2.r : Int)] 51) = W0 at *
              have P0 := Below.refl W0.heap.size W0
              go_region_held3 (fun w' => w'.cell? ⟨xb, 0, none⟩ = some (.int .i64 (s2.ent : Int)) ∧ w'.cell? ⟨xb, 1, none⟩ = some (.int .i64 (s2.ret : Int)) ∧ w'.cell? ⟨xb, 2, none⟩ = some (.int .u64 (s2.r : Int)) ∧ w'.cell? ⟨gr, 0, none⟩ = some (.pointer (some ⟨gq, 0, none⟩)) ∧ w'.cell? ⟨gr, 2, none⟩ = some (.int .u64 (s2.r : Int)) ∧ w'.cell? ⟨gr, 8, none⟩ = some (.int .i64 (s2.ent : Int)) ∧ w'.cell? ⟨gr, 9, none⟩ = some (.int .i64 (s2.ret : Int)) ∧ w'.cell? ⟨gq, 1, none⟩ = some (Value.slice P N pc)) (first | exact K.out _ P0 | exact K.out _ P0.drew | exact K.out _ Z1 | exact K.out _ Z2)
                (first
                  | (go_at_call 21; (with_reducible refine (HKP.out _ (by first | exact P0 | exact P0.drew)).mono ?_); rintro e w8 ⟨P2, m2, d2, rfl, rf2, V1⟩; have Z1 := nxt (by first | exact P0 | exact P0.drew) V1; have RF := Lib.hid rf2.rws)
                  | (go_at_call 20; (with_reducible refine (sameall_true _ _ _ _ _ _ s2.ls _ RF.out (HQR.out _ Z1)).mono ?_); rintro e w9 ⟨rfl, V3⟩; have Z2 := nxt Z1 V3))
              all_goals
                have HT9 := Lib.hid (HT8.out.below (C.holds _ _ _) (RG.holds _ _) Z2)
                have hb9 := nxt hb8 Z2
                clear K HKP HQR HT8 RF rf2
                go_wp2
                go_roundw
                case rel => exact ⟨j + 1, _, _, _, by omega, by go_num, HF2.out, HT9.out, hb9⟩
                case measure => simp [intOf]; omega
            · have dk1 : (xk == 1) = false := by simpa using hk1
              clear hk1
              have HT2 := HT
              have hb2 := hbel
              have HF2 := HF
              obtain ⟨s2, hs2⟩ : ∃ s2, s = s2 := ⟨_, rfl⟩
              subst hs2
              have HS := Lib.hid (C.state ga gs _ _ _ HT2.out.p1)
              go_wp2_with (fail)
              refine HS.out.mono ?_
              rintro e w7 ⟨rfl, T7⟩
              have T8 := (Below.refl _ w7).alloc (Nat.le_refl _) (.cells #[.int .i64 (s.ent : Int), .int .i64 (s.ret : Int), .int .u64 (s.r : Int)] 51)
              have HT8 := Lib.hid ((HT2.out.below (C.holds _ _ _) (RG.holds _ _) T7).below (C.holds _ _ _) (RG.holds _ _) T8)
              have hb8 := nxt (nxt hb2 T7) T8
              have h0 := heap_alloc_new w7 (.cells #[.int .i64 (s.ent : Int), .int .i64 (s.ret : Int), .int .u64 (s.r : Int)] 51)
              obtain ⟨xb, hxb⟩ : ∃ xb, w7.heap.size = xb := ⟨_, rfl⟩
              rw [hxb] at h0
              obtain ⟨gq, grs, Yq, Ys, hv, eY⟩ := HT8.out.p2
              obtain ⟨P, pc, -, -, -, cq0, cqR⟩ := hv.2.1.cells
              have hgq := hv.lt gq (.inr (.inl hv.2.1.1))
              have K : Hid (∀ w', Below (w7.alloc (.cells #[.int .i64 (s.ent : Int), .int .i64 (s.ret : Int), .int .u64 (s.r : Int)] 51)).heap.size (w7.alloc (.cells #[.int .i64 (s.ent : Int), .int .i64 (s.ret : Int), .int .u64 (s.r : Int)] 51)) w' → w'.cell? ⟨xb, 0, none⟩ = some (.int .i64 (s.ent : Int)) ∧ w'.cell? ⟨xb, 1, none⟩ = some (.int .i64 (s.ret : Int)) ∧ w'.cell? ⟨xb, 2, none⟩ = some (.int .u64 (s.r : Int)) ∧ w'.cell? ⟨gr, 0, none⟩ = some (.pointer (some ⟨gq, 0, none⟩)) ∧ w'.cell? ⟨gr, 2, none⟩ = some (.int .u64 (s.r : Int)) ∧ w'.cell? ⟨gr, 8, none⟩ = some (.int .i64 (s.ent : Int)) ∧ w'.cell? ⟨gr, 9, none⟩ = some (.int .i64 (s.ret : Int)) ∧ w'.cell? ⟨gq, 1, none⟩ = some (Value.slice P s.ls.length pc)) := fun w' V => by
                obtain ⟨a0, a1, a2, -⟩ := row3 ((V.block xb (lt_row h0)).trans h0)
                obtain ⟨c0, -, c2, -, -, -, -, -, c8, c9, -⟩ := (hv.below V).cells
                exact ⟨a0, a1, a2, c0, c2, c8, c9, (V.cell (p := ⟨gq, 1, none⟩) hgq).trans cq0⟩
              have HKP := Lib.hid (fun W (U : Below (w7.alloc (.cells #[.int .i64 (s.ent : Int), .int .i64 (s.ret : Int), .int .u64 (s.r : Int)] 51)).heap.size (w7.alloc (.cells #[.int .i64 (s.ent : Int), .int .i64 (s.ret : Int), .int .u64 (s.r : Int)] 51)) W) => C.kept ga gs s W _ ((C.holds _ _ _).below HT8.out.p1 U))
              have HQR := Lib.hid (fun W (U : Below (w7.alloc (.cells #[.int .i64 (s.ent : Int), .int .i64 (s.ret : Int), .int .u64 (s.r : Int)] 51)).heap.size (w7.alloc (.cells #[.int .i64 (s.ent : Int), .int .i64 (s.ret : Int), .int .u64 (s.r : Int)] 51)) W) => cqR.below U)
              have n1 : ((s.ent : Int) != (s.ent : Int)) = false := by simp
              have n2 : ((s.ret : Int) != (s.ret : Int)) = false := by simp
              have n3 : ((s.r : Int) != (s.r : Int)) = false := by simp
              obtain ⟨N, hN⟩ : ∃ N, s.ls.length = N := ⟨_, rfl⟩
              rw [hN] at K HQR
              clear hv eY cq0 cqR hgq h0 hN HS HT2
              go_wp2_with (fail)
              generalize w7.alloc (.cells #[.int .i64 (s.ent : Int), .int .i64 (s.ret : Int), .int .u64 (s.r : Int)] 51) = W0 at *
              have P0 := Below.refl W0.heap.size W0
              go_region_held3 (fun w' => w'.cell? ⟨xb, 0, none⟩ = some (.int .i64 (s.ent : Int)) ∧ w'.cell? ⟨xb, 1, none⟩ = some (.int .i64 (s.ret : Int)) ∧ w'.cell? ⟨xb, 2, none⟩ = some (.int .u64 (s.r : Int)) ∧ w'.cell? ⟨gr, 0, none⟩ = some (.pointer (some ⟨gq, 0, none⟩)) ∧ w'.cell? ⟨gr, 2, none⟩ = some (.int .u64 (s.r : Int)) ∧ w'.cell? ⟨gr, 8, none⟩ = some (.int .i64 (s.ent : Int)) ∧ w'.cell? ⟨gr, 9, none⟩ = some (.int .i64 (s.ret : Int)) ∧ w'.cell? ⟨gq, 1, none⟩ = some (Value.slice P N pc)) (first | exact K.out _ P0 | exact K.out _ P0.drew | exact K.out _ Z1 | exact K.out _ Z2)
                (first
                  | (go_at_call 21; (with_reducible refine (HKP.out _ (by first | exact P0 | exact P0.drew)).mono ?_); rintro e w8 ⟨P2, m2, d2, rfl, rf2, V1⟩; have Z1 := nxt (by first | exact P0 | exact P0.drew) V1; have RF := Lib.hid rf2.rws)
                  | (go_at_call 20; (with_reducible refine (sameall_true _ _ _ _ _ _ s.ls _ RF.out (HQR.out _ Z1)).mono ?_); rintro e w9 ⟨rfl, V3⟩; have Z2 := nxt Z1 V3))
              all_goals
                have HT9 := Lib.hid (HT8.out.below (C.holds _ _ _) (RG.holds _ _) Z2)
                have hb9 := nxt hb8 Z2
                clear K HKP HQR HT8 RF rf2
                go_wp2
                go_roundw
                case rel => exact ⟨j + 1, _, _, _, by omega, by go_num, HF2.out.more, HT9.out, hb9⟩
                case measure => simp [intOf]; omega
        · have d0 : decide ((j : Int) < (n : Int)) = false := by simp; omega
          go_wp2_with (fail)
          refine (HL.out _).mono ?_
          rintro e w4 ⟨rfl, T4⟩
          have T4 := nxt hbel T4
          go_wp2
          go_ret
          exact ⟨rfl, T4⟩
end Go.Proofs.Ytoajbocpebfjoaa
