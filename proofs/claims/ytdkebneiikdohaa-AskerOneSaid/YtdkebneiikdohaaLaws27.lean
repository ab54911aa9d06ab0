/- The walk of layer 27's AskerOne, over the contracts of asker and nonce. -/
import Derived.Test.YtdkebneiikdohaaAsO
import Derived.Deep.RegionHeld3
import Derived.Deep.CutRange
import Derived.Deep.QuietTactic
import Derived.BigQuiet
import Derived.IntWalk
namespace Go.Proofs.Ytdkebneiikdohaa
open Go.RowKit
set_option maxRecDepth 20000

theorem OneAt.turnb {B : Nat} {P : World → (Nat → Prop) → Prop} {X X' : Nat → Prop} {w w' : World} (h : OneAt B P X w) (T : Turns X X' w w') : Below B w w' := T.off.below h.2.1 h.2.2
/-- New answers an error, or none, and turns nothing but what is its own -/
theorem AsC.new_e {S : Nat → List Nat → Nat → World → (Nat → Prop) → Prop} {A : Nat → Nat → Ass → World → (Nat → Prop) → Prop} (C : AsC S A) (c : Cfg) (gs : Nat) (l : List Nat) (k : Nat) (w : World) (Xs : Nat → Prop) (h : CfI c) (hS : S gs l k w Xs) (hl : ∀ x ∈ l, x < 18446744073709551616) :
    Calls Try.prog 4 #[cfgV c, .pointer (some ⟨gs, 0, none⟩)] w fun e w' => ∃ p, e = .returned (.tuple #[.pointer p, .int .i64 (asNew c)]) ∧ ∃ X, Turns Xs X w w' := by
  by_cases h0 : asNew c = 0
  · refine (C.new_yes c gs l k w Xs h h0 hS hl).mono ?_
    rintro e w' ⟨g, X, rfl, _, T⟩
    exact ⟨_, by rw [h0], X, T⟩
  · refine (C.new_no c gs l k w Xs h h0 hS).mono ?_
    rintro e w' ⟨rfl, T⟩
    exact ⟨_, rfl, Xs, Turns.of_below T⟩
set_option maxHeartbeats 32000000 in
theorem walk_AskerOne {S : Nat → List Nat → Nat → World → (Nat → Prop) → Prop} (NC : NoC S) {A : Nat → Nat → Ass → World → (Nat → Prop) → Prop} (C : AsC S A) (cfg : Cfg) (Ad : Option Addr) (nd cd : Nat) (ld : List Nat) (Ap : Option Addr) (n c : Nat) (l : List Act27) (w : World) (hcf : CfI cfg) (hUd : Us w Ad nd cd ld) (hld : ∀ x ∈ ld, x < 18446744073709551616) (hnd : nd ≤ 17592186043904) (hR : Recs rdAct27 8 w Ap n c l) :
    Calls Try.prog 3 #[cfgV cfg, .slice Ad nd cd, .slice Ap n c] w fun e w' => e = .returned (.bool true) ∧ Below w.heap.size w w' := by
  have HL := Lib.hid (fun W => live27_any NC C W)
  have HU := Lib.hid (fun W (U : Below w.heap.size w W) => huge27_any Ap n c l Ad nd cd W (hR.below keeps27 U))
  have HN := Lib.hid num27_any
  have hlen := hR.1
  have hnc := hR.2.1
  have hcmx := hR.2.2.1
  unfold maxLen at hcmx
  have HC := Lib.hid hR.2.2.2
  have HLN := Lib.hid hlen
  have HFW := Lib.hid (fun h => huge27_few (l := l) (m := nd) h)
  have HNW := Lib.hid (fun W (U : Below w.heap.size w W) => NC.new Ad nd cd ld W (Vals.below hUd U) hld hnd)
  have GE := Lib.hid (fun gs W Xs h => C.new_e cfg gs ld 0 W Xs hcf h hld)
  have GY := Lib.hid (fun h0 gs W Xs h => C.new_yes cfg gs ld 0 W Xs hcf h0 h hld)
  have GN := Lib.hid (fun h0 gs W Xs h => C.new_no cfg gs ld 0 W Xs hcf h0 h)
  have HF0 := Lib.hid (fun h0 : asNew cfg = 0 => (⟨AsOk.new h0 hld (Nat.zero_le _), Nat.le_refl _, Nat.le_refl _⟩ : AsFew 0 (as0 cfg ld 0)))
  clear hR hlen hUd hld hnd hcf
  generalize asNew cfg = ce at *
  generalize as0 cfg ld 0 = s0 at *
  unfold cfgV at *
  obtain ⟨eng, cw, cm, cl, cb, room, beg⟩ := cfg
  simp only at GE GY GN
  have T0 := (Below.refl _ w).alloc (Nat.le_refl _) (.cells #[.int .i64 eng, .int .i64 cw, .int .i64 cm, .int .i64 cl, .int .i64 cb, .int .i64 room, .int .u64 (beg : Int)] 24)
  have h0 := heap_alloc_new w (.cells #[.int .i64 eng, .int .i64 cw, .int .i64 cm, .int .i64 cl, .int .i64 cb, .int .i64 room, .int .u64 (beg : Int)] 24)
  obtain ⟨W0, hW0⟩ : ∃ W0, w.alloc (.cells #[.int .i64 eng, .int .i64 cw, .int .i64 cm, .int .i64 cl, .int .i64 cb, .int .i64 room, .int .u64 (beg : Int)] 24) = W0 := ⟨_, rfl⟩
  have HW0 := Lib.hid hW0
  rw [hW0] at T0 h0
  clear hW0
  obtain ⟨cb0, hcb0⟩ : ∃ cb0, w.heap.size = cb0 := ⟨_, rfl⟩
  have KC : Hid (∀ W, Below W0.heap.size W0 W → W.cell? ⟨cb0, 0, none⟩ = some (.int .i64 eng) ∧ W.cell? ⟨cb0, 1, none⟩ = some (.int .i64 cw) ∧ W.cell? ⟨cb0, 2, none⟩ = some (.int .i64 cm) ∧ W.cell? ⟨cb0, 3, none⟩ = some (.int .i64 cl) ∧ W.cell? ⟨cb0, 4, none⟩ = some (.int .i64 cb) ∧ W.cell? ⟨cb0, 5, none⟩ = some (.int .i64 room) ∧ W.cell? ⟨cb0, 6, none⟩ = some (.int .u64 (beg : Int))) := fun W U => by
    rw [← hcb0]
    exact row7 ((U.block w.heap.size (obrow_lt h0)).trans h0)
  have HT0 := Lib.hid T0
  have P0 := Below.refl W0.heap.size W0
  clear T0 h0
  generalize huge27 l nd = hu at *
  cases hu with
  | true =>
    go_enter Try.func3, Try.ntmps3
    go_wp2_with (fail)
    rw [HW0.out]
    go_region_held3 (fun w' => w'.cell? ⟨cb0, 0, none⟩ = some (.int .i64 eng) ∧ w'.cell? ⟨cb0, 1, none⟩ = some (.int .i64 cw) ∧ w'.cell? ⟨cb0, 2, none⟩ = some (.int .i64 cm) ∧ w'.cell? ⟨cb0, 3, none⟩ = some (.int .i64 cl) ∧ w'.cell? ⟨cb0, 4, none⟩ = some (.int .i64 cb) ∧ w'.cell? ⟨cb0, 5, none⟩ = some (.int .i64 room) ∧ w'.cell? ⟨cb0, 6, none⟩ = some (.int .u64 (beg : Int))) (first | exact KC.out _ P0 | exact KC.out _ P0.drew | exact KC.out _ V1 | exact KC.out _ V2)
      (first
        | (go_at_call 5; (with_reducible refine (HNW.out _ (by first | exact HT0.out | exact HT0.out.drew)).mono ?_); rintro e w1 ⟨gs, Xs, rfl, q1, x1, T1⟩; have V1 : Below W0.heap.size W0 w1 := (by first | exact T1 | exact undrew T1); have y1 : ∀ k, Xs k → W0.heap.size ≤ k := (by first | exact x1); have O1 : Hid (OneAt w.heap.size (S gs ld 0) Xs w1) := ⟨q1, fun k hk => Nat.le_trans HT0.out.size (y1 k hk), (nxt HT0.out V1).size⟩; have U1 := nxt HT0.out V1)
        | (go_at_call 4; (with_reducible refine (GE.out gs _ Xs O1.out.p).mono ?_); rintro e w2 ⟨p2, rfl, X2, t2⟩; have V2 := V1.trans ((t2.off.below (B := W0.heap.size) y1 V1.size)); have U2 := U1.trans (O1.out.turnb t2)))
    all_goals
      go_wp2_with (fail)
      refine (HU.out _ U2).mono ?_
      rintro e w3 ⟨rfl, T3⟩
      have U3 := nxt U2 T3
      go_wp2_with (fail)
      refine (HL.out _).mono ?_
      rintro e w9 ⟨rfl, T9⟩
      have U9 := nxt U3 T9
      go_wp2
      go_ret
      exact ⟨rfl, U9⟩
  | false =>
    have hn100 : n ≤ 100 := by have := (HFW.out rfl).1.1; rw [HLN.out] at this; exact this
    clear HFW GE
    by_cases hce : ce = 0
    · have G1 := Lib.hid (GY.out hce)
      have HFS := Lib.hid (HF0.out hce)
      clear HF0
      subst hce
      clear GY GN
      go_enter Try.func3, Try.ntmps3
      go_wp2_with (fail)
      rw [HW0.out]
      go_region_held3 (fun w' => w'.cell? ⟨cb0, 0, none⟩ = some (.int .i64 eng) ∧ w'.cell? ⟨cb0, 1, none⟩ = some (.int .i64 cw) ∧ w'.cell? ⟨cb0, 2, none⟩ = some (.int .i64 cm) ∧ w'.cell? ⟨cb0, 3, none⟩ = some (.int .i64 cl) ∧ w'.cell? ⟨cb0, 4, none⟩ = some (.int .i64 cb) ∧ w'.cell? ⟨cb0, 5, none⟩ = some (.int .i64 room) ∧ w'.cell? ⟨cb0, 6, none⟩ = some (.int .u64 (beg : Int))) (first | exact KC.out _ P0 | exact KC.out _ P0.drew | exact KC.out _ V1 | exact KC.out _ V2)
        (first
          | (go_at_call 5; (with_reducible refine (HNW.out _ (by first | exact HT0.out | exact HT0.out.drew)).mono ?_); rintro e w1 ⟨gs, Xs, rfl, q1, x1, T1⟩; have V1 : Below W0.heap.size W0 w1 := (by first | exact T1 | exact undrew T1); have y1 : ∀ k, Xs k → W0.heap.size ≤ k := (by first | exact x1); have O1 : Hid (OneAt w.heap.size (S gs ld 0) Xs w1) := ⟨q1, fun k hk => Nat.le_trans HT0.out.size (y1 k hk), (nxt HT0.out V1).size⟩; have U1 := nxt HT0.out V1)
          | (go_at_call 4; (with_reducible refine (G1.out gs _ Xs O1.out.p).mono ?_); rintro e w2 ⟨ga, X0, rfl, q2, t2⟩; have k2 := O1.out.turn q2 t2; have HO2 := Lib.hid k2.1; have V2 := V1.trans ((t2.off.below (B := W0.heap.size) y1 V1.size)); have U2 := U1.trans k2.2))
      all_goals
        go_wp2_with (fail)
        refine (HU.out _ U2).mono ?_
        rintro e w3 ⟨rfl, T3⟩
        have O3 := Lib.hid (HO2.out.below (C.holds _ _ _) T3)
        have U3 := nxt U2 T3
        go_wp2_with (fail)
        refine (HN.out _ _).mono ?_
        rintro e w4 ⟨rfl, rfl⟩
        clear KC V1 V2 O1 U1 U2 HO2 k2 q1 q2 x1 y1 t2 T1 T3 P0
        go_wp2_with (fail)
        go_loopw [9] (fun v9 wr => ∃ (j : Nat) (s : Ass) (X : Nat → Prop), j ≤ n ∧ v9 = .int .i64 (j : Int) ∧ Hid (AsFew j s) ∧ Hid (OneAt w.heap.size (A ga gs s) X wr) ∧ Below w.heap.size w wr) (fun v9 _ => n - (intOf v9).toNat)
        case atStart => exact ⟨0, _, X0, Nat.zero_le _, rfl, HFS, O3, U3⟩
        case round =>
          clear O3 U3 HFS
          obtain ⟨j, s, X, hj, rfl, HF, HO, hbel⟩ := hrel
          by_cases hlt : j < n
          · have d0 : decide ((j : Int) < (n : Int)) = true := by simp; omega
            have d0n : decide (j < n) = true := by simp; omega
            have hjl : j < l.length := by rw [HLN.out]; exact hlt
            obtain ⟨b, o, rfl, hb, hc⟩ := HC.out (by omega)
            obtain ⟨⟨hxk, hxn, hpk, hpT, hpC, hpR⟩, Mp, cM, D', d', q0, q1, q2, qM, q3, q4, q5, q6, q7, qD⟩ := hc j hjl
            have hjn : (j : Int) < (n : Int) := by omega
            have HROUND := Lib.hid (asRound HF.out.1 l[j])
            have HF2 := Lib.hid (HF.out.act (by omega) l[j] hpR)
            have hact0 : l[j].1 = 0 → asAct s l[j] = asSend s l[j].2.2.1 ∧ asActL s l[j] = [] := fun h => ⟨by unfold asAct; rw [if_pos h], by unfold asActL; rw [if_neg (by omega), if_neg (by omega)]⟩
            have hact1 : l[j].1 = 1 → asAct s l[j] = asTick s ∧ asActL s l[j] = asTickL s := fun h => ⟨by unfold asAct; rw [if_neg (by omega), if_pos h], by unfold asActL; rw [if_pos h]⟩
            have hact2 : l[j].1 = 2 → asAct s l[j] = asTake s l[j].2.2.2.1 l[j].2.2.2.2.1 l[j].2.2.2.2.2.2.1 ∧ asActL s l[j] = asTakeL s l[j].2.2.2.1 l[j].2.2.2.2.1 l[j].2.2.2.2.2.1 l[j].2.2.2.2.2.2.1 := fun h => ⟨by unfold asAct; rw [if_neg (by omega), if_neg (by omega), if_pos h], by unfold asActL; rw [if_neg (by omega), if_pos h]⟩
            have hact3 : l[j].1 ≠ 0 → l[j].1 ≠ 1 → l[j].1 ≠ 2 → asAct s l[j] = s ∧ asActL s l[j] = [] := fun h h' h'' => ⟨by unfold asAct; rw [if_neg h, if_neg h', if_neg h''], by unfold asActL; rw [if_neg h', if_neg h'']⟩
            unfold AsR at HROUND
            generalize asAct s l[j] = s2 at *
            generalize asActL s l[j] = lo at *
            clear hc
            generalize l[j] = x at *
            obtain ⟨xk, xn, xm, pk, pT, pC, pR, pd⟩ := x
            simp only at hxk hxn hpk hpT hpC hpR q0 q1 q2 q3 q4 q5 q6 q7 qM qD hact0 hact1 hact2 hact3 HROUND
            obtain ⟨M, hM⟩ : ∃ M, xm.length = M := ⟨_, rfl⟩
            obtain ⟨L, hL⟩ : ∃ L, pd.length = L := ⟨_, rfl⟩
            rw [hM] at q2 qM
            rw [hL] at q7 qD
            clear hM hL
            have DM := Lib.hid (fun W (U : Below w.heap.size w W) => And.intro (qM.below U) (qD.below U))
            have hav : ∀ Z : Nat → Prop, (∀ k, Z k → w.heap.size ≤ k) → Av Z M Mp ∧ Av Z L D' := fun Z hZ => ⟨fun hn p e hx => by
              obtain ⟨b9, o9, e', hb9, _⟩ := qM.at_ hn
              rw [e] at e'
              injection e' with e'
              subst e'
              have : w.heap.size ≤ b9 := hZ _ hx
              omega, fun hn p e hx => by
              obtain ⟨b9, o9, e', hb9, _⟩ := qD.at_ hn
              rw [e] at e'
              injection e' with e'
              subst e'
              have : w.heap.size ≤ b9 := hZ _ hx
              omega⟩
            have HAV := Lib.hid hav
            have KX := Lib.hid (fun W (U : Below w.heap.size w W) => And.intro ((U.cell (p := ⟨b, o + j * 8, none⟩) hb).trans q0) (And.intro ((U.cell (p := ⟨b, o + j * 8 + 1, none⟩) hb).trans q1) (And.intro ((U.cell (p := ⟨b, o + j * 8 + 2, none⟩) hb).trans q2) (And.intro ((U.cell (p := ⟨b, o + j * 8 + 3, none⟩) hb).trans q3) (And.intro ((U.cell (p := ⟨b, o + j * 8 + 4, none⟩) hb).trans q4) (And.intro ((U.cell (p := ⟨b, o + j * 8 + 5, none⟩) hb).trans q5) (And.intro ((U.cell (p := ⟨b, o + j * 8 + 6, none⟩) hb).trans q6) ((U.cell (p := ⟨b, o + j * 8 + 7, none⟩) hb).trans q7))))))))
            clear q0 q1 q2 q3 q4 q5 q6 q7 qM qD hav
            obtain ⟨a1, ha1⟩ : ∃ a1, asAcc s = a1 := ⟨_, rfl⟩
            obtain ⟨d1, hd1⟩ : ∃ d1, s.told.length = d1 := ⟨_, rfl⟩
            obtain ⟨t1, ht1⟩ : ∃ t1, s.t = t1 := ⟨_, rfl⟩
            obtain ⟨r1, hr1⟩ : ∃ r1, s.r = r1 := ⟨_, rfl⟩
            obtain ⟨b1, hb1⟩ : ∃ b1, s.bound = b1 := ⟨_, rfl⟩
            have hst := C.state ga gs s _ X HO.out.p HF.out.1
            rw [ha1, hd1, ht1, hr1, hb1] at hst
            have HD1 := Lib.hid hd1
            have hd6 : d1 ≤ 1000000 := by have := HF.out.1.done; omega
            have HS := Lib.hid hst
            have HRD := HROUND
            rw [ht1, hr1, hb1] at HRD
            clear hst ha1 hd1 ht1 hr1 hb1 HROUND
            go_wp2_with (fail)
            refine HS.out.mono ?_
            rintro e w5 ⟨rfl, T5⟩
            have U6 := (nxt hbel T5).alloc (Nat.le_trans HO.out.2.2 T5.size) (.cells #[.int .i64 (a1 : Int), .int .i64 (d1 : Int), .int .u64 (t1 : Int), .int .u64 (r1 : Int), .bool b1] 37)
            obtain ⟨g7, bb7⟩ := Kp.start (Z1 := (.cells #[.int .i64 (a1 : Int), .int .i64 (d1 : Int), .int .u64 (t1 : Int), .int .u64 (r1 : Int), .bool b1] 37)) (Z2 := (.cells #[.int .i64 xk, .int .i64 xn, .slice Mp M cM, .int .i64 pk, .int .u64 (pT : Int), .int .u64 (pC : Int), .int .u64 (pR : Int), .slice D' L d'] 43)) (C.holds _ _ _) (HO.out.below (C.holds _ _ _) T5)
            have HK7 := Lib.hid g7
            have U7 := (nxt hbel T5).trans bb7
            obtain ⟨k0, k1, k2, k3, k4, k5, k6, k7⟩ := KX.out _ U6
            clear g7 bb7 T5 HO hbel HS
            go_upto_region 9 with (fail)
            go_step
            go_step
            go_step
            go_step
            go_step
            go_step
            go_step
            go_step
            generalize (w5.alloc (.cells #[.int .i64 (a1 : Int), .int .i64 (d1 : Int), .int .u64 (t1 : Int), .int .u64 (r1 : Int), .bool b1] 37)).alloc (.cells #[.int .i64 xk, .int .i64 xn, .slice Mp M cM, .int .i64 pk, .int .u64 (pT : Int), .int .u64 (pC : Int), .int .u64 (pR : Int), .slice D' L d'] 43) = W7 at *
            generalize w5.heap.size + 1 = xx at *
            generalize w5.heap.size = xb at *
            obtain ⟨SZ, hSZ⟩ : ∃ SZ, W7.heap.size = SZ := ⟨_, rfl⟩
            have HA0 := Lib.hid hact0
            have HA1 := Lib.hid hact1
            have HA2 := Lib.hid hact2
            have HA3 := Lib.hid hact3
            clear k0 k1 k2 k3 k4 k5 k6 k7 U6 hact0 hact1 hact2 hact3
            go_cut [12] from 33 to 190 (fun v12 wx => ∃ X2 A2 n2 c2, v12 = .slice A2 n2 c2 ∧ Hid (Tks wx (fun _ => False) A2 n2 c2 lo) ∧ Hid (Kp w.heap.size (A ga gs s2) X2 xb (.cells #[.int .i64 (a1 : Int), .int .i64 (d1 : Int), .int .u64 (t1 : Int), .int .u64 (r1 : Int), .bool b1] 37) xx (.cells #[.int .i64 xk, .int .i64 xn, .slice Mp M cM, .int .i64 pk, .int .u64 (pT : Int), .int .u64 (pC : Int), .int .u64 (pR : Int), .slice D' L d'] 43) wx) ∧ Below w.heap.size w wx)
            case first =>
              have hxr := HK7.out.2.2.1
              have x0 : W7.cell? ⟨xx, 0, none⟩ = some (.int .i64 xk) := cell_of_row _ _ _ _ _ _ hxr
              by_cases hk0 : xk = 0
              · have dk0 : (xk == 0) = true := by simpa using hk0
                obtain ⟨f1, f2⟩ := HA0.out hk0
                have HT := Lib.hid (C.send ga gs s Mp M cM xm _ X HK7.out.1.1 HF.out.1 (by have := HF.out.2.1; omega) (DM.out _ U7).1 (HAV.out X HK7.out.1.2.1).1)
                rw [← f1] at HT
                have x2 : W7.cell? ⟨xx, 2, none⟩ = some (.slice Mp M cM) := cell_of_row _ _ _ _ _ _ hxr
                clear hk0 f1
                go_wp2_with (fail)
                refine HT.out.mono ?_
                rintro e w8 ⟨B8, m8, d8, X2, rfl, -, g8, t8⟩
                have q8 := HK7.out.turn g8 t8
                have HK8 := Lib.hid q8.1
                have U8 := U7.trans q8.2
                clear g8 t8 q8 HT x2
                go_wp2_with (fail)
                go_meet
                rw [f2]
                exact ⟨X2, none, 0, 0, rfl, Tks.nil _ _, HK8, U8⟩
              · have dk0 : (xk == 0) = false := by simpa using hk0
                by_cases hk1 : xk = 1
                · have dk1 : (xk == 1) = true := by simpa using hk1
                  obtain ⟨f1, f2⟩ := HA1.out hk1
                  have HT := Lib.hid (C.tick ga gs s _ X HK7.out.1.1 HF.out.1)
                  rw [← f1, ← f2] at HT
                  clear hk0 hk1 f1 f2
                  go_wp2_with (fail)
                  refine HT.out.mono ?_
                  rintro e w8 ⟨B8, m8, d8, X2, rfl, p8, g8, t8⟩
                  have q8 := HK7.out.turn g8 t8
                  have HK8 := Lib.hid q8.1
                  have HP8 := Lib.hid (p8.imp (Y' := fun _ => False) (fun _ _ h => h.elim))
                  have U8 := U7.trans q8.2
                  clear g8 t8 q8 p8 HT
                  go_wp2_with (fail)
                  go_meet
                  exact ⟨X2, B8, m8, d8, rfl, HP8, HK8, U8⟩
                · have dk1 : (xk == 1) = false := by simpa using hk1
                  by_cases hk2 : xk = 2
                  · have dk2 : (xk == 2) = true := by simpa using hk2
                    obtain ⟨f1, f2⟩ := HA2.out hk2
                    have HT := Lib.hid (C.take ga gs s pk pT pC pR D' L d' pd _ X HK7.out.1.1 HF.out.1 (by have := HF.out.2.1; omega) (by have := HF.out.2.2; omega) hpk hpT hpC hpR (DM.out _ U7).2 (HAV.out X HK7.out.1.2.1).2)
                    rw [← f1, ← f2] at HT
                    have x3 : W7.cell? ⟨xx, 3, none⟩ = some (.int .i64 pk) := cell_of_row _ _ _ _ _ _ hxr
                    have x4 : W7.cell? ⟨xx, 4, none⟩ = some (.int .u64 (pT : Int)) := cell_of_row _ _ _ _ _ _ hxr
                    have x5 : W7.cell? ⟨xx, 5, none⟩ = some (.int .u64 (pC : Int)) := cell_of_row _ _ _ _ _ _ hxr
                    have x6 : W7.cell? ⟨xx, 6, none⟩ = some (.int .u64 (pR : Int)) := cell_of_row _ _ _ _ _ _ hxr
                    have x7 : W7.cell? ⟨xx, 7, none⟩ = some (.slice D' L d') := cell_of_row _ _ _ _ _ _ hxr
                    clear hk0 hk1 hk2 f1 f2
                    go_wp2_with (fail)
                    refine HT.out.mono ?_
                    rintro e w8 ⟨B8, m8, d8, X2, rfl, p8, g8, t8⟩
                    have q8 := HK7.out.turn g8 t8
                    have HK8 := Lib.hid q8.1
                    have HP8 := Lib.hid (p8.imp (Y' := fun _ => False) (fun _ _ h => h.elim))
                    have U8 := U7.trans q8.2
                    clear g8 t8 q8 p8 HT x3 x4 x5 x6 x7
                    go_wp2_with (fail)
                    go_meet
                    exact ⟨X2, B8, m8, d8, rfl, HP8, HK8, U8⟩
                  · have dk2 : (xk == 2) = false := by simpa using hk2
                    obtain ⟨f1, f2⟩ := HA3.out hk0 hk1 hk2
                    clear hk0 hk1 hk2
                    go_wp2_with (fail)
                    go_meet
                    rw [f1, f2]
                    exact ⟨X, none, 0, 0, rfl, Tks.nil _ _, HK7, U7⟩
            case rest =>
              obtain ⟨X2, A2, n2, c2, rfl, HP2, HK2, U2⟩ := hcut
              clear HK7 U7 HA0 HA1 HA2 HA3 HAV DM KX
              obtain ⟨a2, ha2⟩ : ∃ a2, asAcc s2 = a2 := ⟨_, rfl⟩
              obtain ⟨d2, hd2⟩ : ∃ d2, s2.told.length = d2 := ⟨_, rfl⟩
              obtain ⟨t2, ht2⟩ : ∃ t2, s2.t = t2 := ⟨_, rfl⟩
              obtain ⟨r2, hr2⟩ : ∃ r2, s2.r = r2 := ⟨_, rfl⟩
              obtain ⟨b2, hb2⟩ : ∃ b2, s2.bound = b2 := ⟨_, rfl⟩
              have hst := C.state ga gs s2 _ X2 HK2.out.1.1 HF2.out.1
              rw [ha2, hd2, ht2, hr2, hb2] at hst
              rw [hr2, hb2] at HRD
              have HD2 := Lib.hid hd2
              have HA2 := Lib.hid ha2
              have hd26 : d2 ≤ 1000000 := by have := HF2.out.1.done; omega
              have HS := Lib.hid hst
              clear hst ha2 hd2 ht2 hr2 hb2
              go_wp2_with (fail)
              refine HS.out.mono ?_
              rintro e w8 ⟨rfl, T8⟩
              have T9 := (Below.refl _ w8).alloc (Nat.le_refl _) (.cells #[.int .i64 (a2 : Int), .int .i64 (d2 : Int), .int .u64 (t2 : Int), .int .u64 (r2 : Int), .bool b2] 37)
              have HK9 := Lib.hid ((HK2.out.below (C.holds _ _ _) T8).below (C.holds _ _ _) T9)
              have HP9 := Lib.hid ((HP2.out.below T8).below T9)
              have U9 := nxt (nxt U2 T8) T9
              have hz9 := heap_alloc_new w8 (.cells #[.int .i64 (a2 : Int), .int .i64 (d2 : Int), .int .u64 (t2 : Int), .int .u64 (r2 : Int), .bool b2] 37)
              obtain ⟨yb, hyb⟩ : ∃ yb, w8.heap.size = yb := ⟨_, rfl⟩
              rw [hyb] at hz9
              clear HK2 HP2 U2 T8 T9 HS
              go_upto_region 18 with (fail)
              generalize w8.alloc (.cells #[.int .i64 (a2 : Int), .int .i64 (d2 : Int), .int .u64 (t2 : Int), .int .u64 (r2 : Int), .bool b2] 37) = W9 at *
              have KW := Lib.hid (fun W (V : Below W9.heap.size W9 W) => And.intro ((V.block xb (obrow_lt HK9.out.2.1.1)).trans HK9.out.2.1.1) (And.intro ((V.block xx (obrow_lt HK9.out.2.2.1)).trans HK9.out.2.2.1) ((V.block yb (obrow_lt hz9)).trans hz9)))
              clear hyb hz9
              have hcc := HP9.out.2.1
              have hcm3 := HP9.out.2.2.1
              unfold maxLen at hcm3
              go_wp2_with (fail)
              go_loopw [14] (fun v14 wy => ∃ q : Nat, q ≤ n2 ∧ v14 = .int .i64 (q : Int) ∧ Below W9.heap.size W9 wy) (fun v14 _ => n2 - (intOf v14).toNat)
              case atStart => exact ⟨0, Nat.zero_le _, rfl, Below.refl _ _⟩
              case round =>
                rename World => wy
                obtain ⟨q, hq, rfl, V⟩ := hrel
                obtain ⟨rb, rx, ry⟩ := KW.out _ V
                have HV := Lib.hid V
                by_cases hlt2 : q < n2
                · have f0 : decide ((q : Int) < (n2 : Int)) = true := by simp; omega
                  have f0n : decide (q < n2) = true := by simp; omega
                  have hqn : (q : Int) < (n2 : Int) := by omega
                  have hql : q < lo.length := by rw [HP9.out.len]; exact hlt2
                  obtain ⟨bo, oo, rfl, hbo, g⟩ := (HP9.out.below V).at_ (by omega)
                  obtain ⟨Py, dy, ⟨y0, y1, y2, y3, y4⟩, -⟩ := g q hql
                  have hchk := HRD.out.2.1 lo[q] (List.getElem_mem hql)
                  clear g V
                  generalize lo[q] = t at *
                  obtain ⟨tk, tT, tC, tR, td⟩ := t
                  simp only at y0 y1 y2 hchk
                  have n0 : wy.cell? ⟨xb, 2, none⟩ = some (.int .u64 (t1 : Int)) := cell_of_row _ _ _ _ _ _ rb
                  have n1 : wy.cell? ⟨xb, 3, none⟩ = some (.int .u64 (r1 : Int)) := cell_of_row _ _ _ _ _ _ rb
                  have n2' : wy.cell? ⟨xb, 4, none⟩ = some (.bool b1) := cell_of_row _ _ _ _ _ _ rb
                  have n3 : wy.cell? ⟨xx, 0, none⟩ = some (.int .i64 xk) := cell_of_row _ _ _ _ _ _ rx
                  have n4 : wy.cell? ⟨xx, 5, none⟩ = some (.int .u64 (pC : Int)) := cell_of_row _ _ _ _ _ _ rx
                  have n5 : wy.cell? ⟨xx, 6, none⟩ = some (.int .u64 (pR : Int)) := cell_of_row _ _ _ _ _ _ rx
                  have n6 : wy.cell? ⟨yb, 3, none⟩ = some (.int .u64 (r2 : Int)) := cell_of_row _ _ _ _ _ _ ry
                  have n7 : wy.cell? ⟨yb, 4, none⟩ = some (.bool b2) := cell_of_row _ _ _ _ _ _ ry
                  clear rb rx ry y3 y4
                  by_cases h2 : tk = 2
                  · obtain ⟨g1, g2, g3, g4, g5, g6⟩ := hchk h2
                    have z0 : (tk == 2) = true := by simpa using h2
                    have z1 : ((tT : Int) != (t1 : Int)) = false := by simp; omega
                    have z2 : (xk != 2) = false := by simp [g2]
                    have z3 : ((tC : Int) != (pC : Int)) = false := by simp; omega
                    have z6 : ((r2 : Int) != (pR : Int)) = false := by simp; omega
                    rw [g5] at n7
                    cases b1 with
                    | true =>
                      have z4 : ((r1 : Int) != (pR : Int)) = false := by have := g4 rfl; simp; omega
                      clear hchk h2 g1 g2 g3 g4 g5 g6
                      go_wp2_with (fail)
                      go_quiet (fail)
                      have V2 := below_drewN' HV.out nq
                      go_wp2
                      go_roundw
                      case rel => exact ⟨q + 1, by omega, by go_num, V2⟩
                      case measure => simp [intOf]; omega
                    | false =>
                      clear hchk h2 g1 g2 g3 g4 g5 g6
                      go_wp2_with (fail)
                      go_quiet (fail)
                      have V2 := below_drewN' HV.out nq
                      go_wp2
                      go_roundw
                      case rel => exact ⟨q + 1, by omega, by go_num, V2⟩
                      case measure => simp [intOf]; omega
                  · have z0 : (tk == 2) = false := by simpa using h2
                    clear hchk h2
                    go_wp2_with (fail)
                    go_quiet (fail)
                    have V2 := below_drewN' HV.out nq
                    go_wp2
                    go_roundw
                    case rel => exact ⟨q + 1, by omega, by go_num, V2⟩
                    case measure => simp [intOf]; omega
                · have f0 : decide ((q : Int) < (n2 : Int)) = false := by simp; omega
                  have f0n : decide (q < n2) = false := by simp; omega
                  have HK10 := Lib.hid (HK9.out.below (C.holds _ _ _) V)
                  have U10 := nxt U9 V
                  have m1 : wy.cell? ⟨xb, 1, none⟩ = some (.int .i64 (d1 : Int)) := cell_of_row _ _ _ _ _ _ rb
                  have m2 : wy.cell? ⟨yb, 1, none⟩ = some (.int .i64 (d2 : Int)) := cell_of_row _ _ _ _ _ _ ry
                  have j0 : decide ((d2 : Int) < (d1 : Int)) = false ∧ decide (d2 < d1) = false ∧ decide ((d1 : Int) + 1 < (d2 : Int)) = false := by
                    rcases HRD.out.2.2 with h | ⟨oo, h, -⟩
                    · have h' := congrArg List.length h
                      rw [HD1.out, HD2.out] at h'
                      exact ⟨by simp; omega, by simp; omega, by simp; omega⟩
                    · have h' := congrArg List.length h
                      simp only [List.length_append, List.length_cons, List.length_nil] at h'
                      rw [HD1.out, HD2.out] at h'
                      exact ⟨by simp; omega, by simp; omega, by simp; omega⟩
                  obtain ⟨j0, j0n, j1⟩ := j0
                  rcases HRD.out.2.2 with h | ⟨oo, h, hoo⟩
                  · have h' := congrArg List.length h
                    rw [HD1.out, HD2.out] at h'
                    have j2 : decide ((d1 : Int) < (d2 : Int)) = false := by simp; omega
                    have j2n : decide (d1 < d2) = false := by simp; omega
                    have HO2 := Lib.hid HK10.out.1
                    clear h h' V HV
                    go_wp2
                    go_roundw
                    case rel => exact ⟨j + 1, s2, X2, by omega, by go_num, HF2, HO2, U10⟩
                    case measure => simp [intOf]; omega
                  · have h' := congrArg List.length h
                    simp only [List.length_append, List.length_cons, List.length_nil] at h'
                    rw [HD1.out, HD2.out] at h'
                    have j2 : decide ((d1 : Int) < (d2 : Int)) = true := by simp; omega
                    have j2n : decide (d1 < d2) = true := by simp; omega
                    have hp := C.poll ga gs s2 (d1 : Int) _ X2 HK10.out.1.1 HF2.out.1 ⟨by omega, by omega⟩
                    have hp1 : asPoll s2 (d1 : Int) = oo := by
                      unfold asPoll
                      rw [if_neg (by omega), h]
                      show (s.told ++ [oo]).getD d1 0 = oo
                      rw [← HD1.out]
                      simp
                    have hp2 : asPollE s2 (d1 : Int) = 0 := by
                      unfold asPollE asAcc
                      rw [if_neg (by rw [HD2.out]; omega)]
                    rw [hp1, hp2] at hp
                    have HPL := Lib.hid hp
                    have x3 := Lib.hid (fun W (V : Below wy.heap.size wy W) => And.intro ((V.block xb (obrow_lt rb)).trans rb) ((V.block xx (obrow_lt rx)).trans rx))
                    clear hp hp1 hp2 h h' V HV rb rx ry
                    go_wp2_with (fail)
                    refine HPL.out.mono ?_
                    rintro e w11 ⟨rfl, T11⟩
                    have HO2 := Lib.hid (HK10.out.1.below (C.holds _ _ _) T11)
                    have U11 := nxt U10 T11
                    obtain ⟨rb, rx⟩ := x3.out _ T11
                    have n0 : w11.cell? ⟨xb, 2, none⟩ = some (.int .u64 (t1 : Int)) := cell_of_row _ _ _ _ _ _ rb
                    have n1 : w11.cell? ⟨xb, 3, none⟩ = some (.int .u64 (r1 : Int)) := cell_of_row _ _ _ _ _ _ rb
                    have n2' : w11.cell? ⟨xb, 4, none⟩ = some (.bool b1) := cell_of_row _ _ _ _ _ _ rb
                    have n3 : w11.cell? ⟨xx, 3, none⟩ = some (.int .i64 pk) := cell_of_row _ _ _ _ _ _ rx
                    have n4 : w11.cell? ⟨xx, 4, none⟩ = some (.int .u64 (pT : Int)) := cell_of_row _ _ _ _ _ _ rx
                    have n5 : w11.cell? ⟨xx, 6, none⟩ = some (.int .u64 (pR : Int)) := cell_of_row _ _ _ _ _ _ rx
                    clear rb rx HPL x3 m1 m2 T11
                    go_wp2_with (fail)
                    refine (HN.out _ _).mono ?_
                    rintro e w12 ⟨rfl, rfl⟩
                    rcases hoo with rfl | ⟨rfl, g1, g2, g3, g4⟩
                    · go_wp2
                      go_roundw
                      case rel => exact ⟨j + 1, s2, X2, by omega, by go_num, HF2, HO2, U11⟩
                      case measure => simp [intOf]; omega
                    · have z1 : (pk != 1) = false := by simp [g1]
                      have z2 : ((r1 : Int) == (pR : Int)) = false := by simp; omega
                      have z3 : ((t1 : Int) != (pT : Int)) = false := by simp; omega
                      subst g2
                      clear g1 g3 g4
                      go_wp2
                      go_roundw
                      case rel => exact ⟨j + 1, s2, X2, by omega, by go_num, HF2, HO2, U11⟩
                      case measure => simp [intOf]; omega
          · have d0 : decide ((j : Int) < (n : Int)) = false := by simp; omega
            have d0n : decide (j < n) = false := by simp; omega
            go_wp2_with (fail)
            refine (HL.out _).mono ?_
            rintro e w9 ⟨rfl, T9⟩
            have U9 := nxt hbel T9
            go_wp2
            go_ret
            exact ⟨rfl, U9⟩
    · have G1 := Lib.hid (GN.out hce)
      have dce : (ce != 0) = true := by simpa using hce
      clear GY GN hce HF0
      go_enter Try.func3, Try.ntmps3
      go_wp2_with (fail)
      rw [HW0.out]
      go_region_held3 (fun w' => w'.cell? ⟨cb0, 0, none⟩ = some (.int .i64 eng) ∧ w'.cell? ⟨cb0, 1, none⟩ = some (.int .i64 cw) ∧ w'.cell? ⟨cb0, 2, none⟩ = some (.int .i64 cm) ∧ w'.cell? ⟨cb0, 3, none⟩ = some (.int .i64 cl) ∧ w'.cell? ⟨cb0, 4, none⟩ = some (.int .i64 cb) ∧ w'.cell? ⟨cb0, 5, none⟩ = some (.int .i64 room) ∧ w'.cell? ⟨cb0, 6, none⟩ = some (.int .u64 (beg : Int))) (first | exact KC.out _ P0 | exact KC.out _ P0.drew | exact KC.out _ V1 | exact KC.out _ V2)
        (first
          | (go_at_call 5; (with_reducible refine (HNW.out _ (by first | exact HT0.out | exact HT0.out.drew)).mono ?_); rintro e w1 ⟨gs, Xs, rfl, q1, x1, T1⟩; have V1 : Below W0.heap.size W0 w1 := (by first | exact T1 | exact undrew T1); have y1 : ∀ k, Xs k → W0.heap.size ≤ k := (by first | exact x1); have O1 : Hid (OneAt w.heap.size (S gs ld 0) Xs w1) := ⟨q1, fun k hk => Nat.le_trans HT0.out.size (y1 k hk), (nxt HT0.out V1).size⟩; have U1 := nxt HT0.out V1)
          | (go_at_call 4; (with_reducible refine (G1.out gs _ Xs O1.out.p).mono ?_); rintro e w2 ⟨rfl, T2⟩; have V2 := nxt V1 T2; have U2 := nxt U1 T2))
      all_goals
        go_wp2_with (fail)
        refine (HU.out _ U2).mono ?_
        rintro e w3 ⟨rfl, T3⟩
        have U3 := nxt U2 T3
        go_wp2_with (fail)
        refine (HN.out _ _).mono ?_
        rintro e w4 ⟨rfl, rfl⟩
        go_wp2_with (fail)
        refine (HL.out _).mono ?_
        rintro e w9 ⟨rfl, T9⟩
        have U9 := nxt U3 T9
        go_wp2
        go_ret
        exact ⟨rfl, U9⟩
end Go.Proofs.Ytdkebneiikdohaa
