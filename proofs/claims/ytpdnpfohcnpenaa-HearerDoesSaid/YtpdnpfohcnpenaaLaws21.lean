/- The walk of layer 21's HearerDoes, over the contracts of hearer. -/
import Derived.Test.YtpdnpfohcnpenaaHeD
import Derived.Deep.RegionHeld3
import Derived.IntWalk
namespace Go.Proofs.Ytpdnpfohcnpenaa
open Go.RowKit
set_option maxRecDepth 20000

theorem rhtick_he (g : Nat) (s : Hs) (w : World) (X : Nat → Prop) (h : RHe g s w X) (hok : HeOk s) :
    Calls Try.prog 14 #[.pointer (some ⟨g, 0, none⟩)] w (GivesPks (RHe g (heTick s)) X (heTickL s) w) := by
  obtain ⟨gq, gl, gt, Xq, Xt, hv, rfl⟩ := h
  exact rhtick_any g gq gl gt s Xq Xt w hv hok
theorem rhtake_he (g : Nat) (s : Hs) (kd lb : Int) (A : Option Addr) (n c : Nat) (d : List UInt8) (w : World) (X : Nat → Prop) (h : RHe g s w X) (hok : HeOk s) (hl : s.al.length < 1000) (hcnt : alCount s.al lb d < 1000000) (hent : s.ent < 1000000) (hB : Bys w A n c d) (hA : Av X n A) (hnb : n ≤ 140737488355328) :
    Calls Try.prog 16 #[.pointer (some ⟨g, 0, none⟩), .agg #[.int .i64 kd, .int .i64 lb, .slice A n c]] w (GivesPks (RHe g (heTake s kd lb d)) X (heTakeL s kd) w) := by
  obtain ⟨gq, gl, gt, Xq, Xt, hv, rfl⟩ := h
  exact rhtake_any g gq gl gt s Xq Xt kd lb A n c d w hv hok hB hA hl hcnt hnb hent
theorem rhrecv_he (g : Nat) (s : Hs) (w : World) (X : Nat → Prop) (h : RHe g s w X) (hok : HeOk s) (hent : s.ent < 1000000) (hret : s.ret < 1000000) :
    Calls Try.prog 18 #[.pointer (some ⟨g, 0, none⟩)] w (GivesRv (RHe g (heRecv s)) X (s.ls.headD []) (!s.ls.isEmpty) w) := by
  obtain ⟨gq, gl, gt, Xq, Xt, hv, rfl⟩ := h
  by_cases h0 : s.ls = []
  · have e : heRecv s = s := by unfold heRecv; rw [if_pos h0]
    rw [e, h0]
    exact rhrecv_no g gq gl gt s Xq Xt w hv h0
  · have e : (!s.ls.isEmpty) = true := by
      cases hl : s.ls with
      | nil => exact absurd hl h0
      | cons a r => rfl
    rw [e]
    exact rhrecv_yes g gq gl gt s Xq Xt w hv h0 hok hent hret
set_option maxHeartbeats 16000000 in
theorem walk_HearerDoes {F : Nat → Hs → World → (Nat → Prop) → Prop} (C : HeC F) (r : Int) (b0 : Nat) (A : Option Addr) (n c : Nat) (l : List Act21) (w : World) (hr : I64 r) (hb0 : b0 < 18446744073709551616) (hR : Recs rdAct21 4 w A n c l) :
    Calls Try.prog 3 #[.int .i64 r, .int .u64 (b0 : Int), .slice A n c] w fun e w' => e = .returned (.bool true) ∧ Below w.heap.size w w' := by
  have HL := Lib.hid (fun W => live21_any C W)
  have HU := Lib.hid (huge21_any A n c l w hR)
  have HN := Lib.hid num21_any
  have hlen := hR.1
  have hnc := hR.2.1
  have hcm := hR.2.2.1
  unfold maxLen at hcm
  have HC := Lib.hid hR.2.2.2
  have HLN := Lib.hid hlen
  have HFW := Lib.hid (fun h => huge21_few (l := l) h)
  clear hR hlen
  generalize huge21 l = hu at *
  cases hu with
  | true =>
    go_enter Try.func3, Try.ntmps3
    go_wp2_with (fail)
    refine HU.out.mono ?_
    rintro e w1 ⟨rfl, T1⟩
    go_wp2_with (fail)
    refine (HL.out _).mono ?_
    rintro e w2 ⟨rfl, T2⟩
    have T2 := nxt T1 T2
    go_wp2
    go_ret
    exact ⟨rfl, T2⟩
  | false =>
    have hn100 : n ≤ 100 := by have := (HFW.out rfl).1; rw [HLN.out] at this; exact this
    have HSH := Lib.hid (HFW.out rfl).2
    clear HFW
    by_cases hrr : r < 1 ∨ 16 < r
    · have G1 := Lib.hid (fun W => C.new_no r b0 W hr hb0 hrr)
      have G2 := Lib.hid (fun W => rhnew_no r b0 W hrr)
      clear hrr
      go_enter Try.func3, Try.ntmps3
      go_wp2_with (fail)
      refine HU.out.mono ?_
      rintro e w1 ⟨rfl, T1⟩
      go_wp2_with (fail)
      refine (G1.out _).mono ?_
      rintro e w2 ⟨rfl, T2⟩
      have T2 := nxt T1 T2
      go_wp2_with (fail)
      refine (G2.out _).mono ?_
      rintro e w3 ⟨rfl, rfl⟩
      go_wp2_with (fail)
      refine (HN.out _ _).mono ?_
      rintro e w3 ⟨rfl, rfl⟩
      go_wp2_with (fail)
      go_loopw [11] (fun i wr => i = .int .i64 0 ∧ Below w.heap.size w wr) (fun _ _ => 0)
      case atStart => exact ⟨rfl, T2⟩
      case round =>
        obtain ⟨rfl, hbel⟩ := hrel
        by_cases h0 : n = 0
        · have d0 : ¬ ((0 : Int) < (n : Int)) := by omega
          have d1 : decide ((0 : Int) < (n : Int)) = false := by simpa using d0
          clear h0
          go_wp2_with (fail)
          refine (HL.out _).mono ?_
          rintro e w4 ⟨rfl, T4⟩
          have T4 := nxt hbel T4
          go_wp2
          go_ret
          exact ⟨rfl, T4⟩
        · have d1 : decide ((0 : Int) < (n : Int)) = true := by simp; omega
          have d0 : (0 : Int) < (n : Int) := by omega
          clear h0
          go_wp2_with (fail)
          refine (HL.out _).mono ?_
          rintro e w4 ⟨rfl, T4⟩
          have T4 := nxt hbel T4
          go_wp2
          go_ret
          exact ⟨rfl, T4⟩
    · obtain ⟨room, rfl⟩ := Int.eq_ofNat_of_zero_le (show 0 ≤ r by omega)
      have hr1 : 1 ≤ room := by omega
      have hr2 : room ≤ 16 := by omega
      have G1 := Lib.hid (fun W => C.new_yes room b0 W hr1 hr2 hb0)
      have G2 := Lib.hid (fun W => rhnew_yes room b0 W hr1 hr2)
      have HF0 := Lib.hid (HeFew.new room b0 hr1 hr2 hb0)
      clear hrr
      go_enter Try.func3, Try.ntmps3
      go_wp2_with (fail)
      refine HU.out.mono ?_
      rintro e w1 ⟨rfl, T1⟩
      go_wp2_with (fail)
      refine (G1.out _).mono ?_
      rintro e w2 ⟨ga, X0, rfl, q2, x2, T2⟩
      have T2w := nxt T1 T2
      have hx2 : ∀ k, X0 k → w.heap.size ≤ k := fun k hk => Nat.le_trans T1.size (x2 k hk)
      have Q2 := Lib.hid q2
      clear q2 x2
      go_wp2_with (fail)
      refine (G2.out _).mono ?_
      rintro e w3 ⟨gr, Y0, rfl, r3, y3, T3⟩
      have HTW := Lib.hid (TwoAt.mk (C.holds _ _) (RHe.holds _ _) Q2.out hx2 T2w.size T3 r3 y3)
      have T3w := nxt T2w T3
      clear r3 hx2 T2w T2 T1 T3 y3
      go_wp2_with (fail)
      refine (HN.out _ _).mono ?_
      rintro e w4 ⟨rfl, rfl⟩
      go_wp2_with (fail)
      go_loopw [11] (fun i wr => ∃ (j : Nat) (s : Hs) (X Y : Nat → Prop), j ≤ n ∧ i = .int .i64 (j : Int) ∧ Hid (HeFew j s) ∧ Hid (TwoAt w.heap.size (F ga s) (RHe gr s) X Y wr) ∧ Below w.heap.size w wr) (fun i _ => n - (intOf i).toNat)
      case atStart => exact ⟨0, _, X0, Y0, Nat.zero_le _, rfl, HF0, HTW, T3w⟩
      case round =>
        clear HTW T3w
        obtain ⟨j, s, X, Y, hj, rfl, HF, HT, hbel⟩ := hrel
        by_cases hlt : j < n
        · have d0 : decide ((j : Int) < (n : Int)) = true := by simp; omega
          have hjl : j < l.length := by rw [HLN.out]; exact hlt
          obtain ⟨b, o, rfl, hb, hc⟩ := HC.out (by omega)
          obtain ⟨⟨hxk, hpk, hpl⟩, D', d', q0, q1, q2, q3, qD⟩ := hc j hjl
          have hsh := HSH.out l[j] (List.getElem_mem hjl)
          have c0 := (hbel.cell (p := ⟨b, o + j * 4, none⟩) hb).trans q0
          have hjn : (j : Int) < (n : Int) := by omega
          clear hc q0
          generalize l[j] = x at *
          obtain ⟨xk, pk, pl, pd⟩ := x
          simp only at hxk hpk hpl c0 q1 q2 q3 qD hsh
          have HPD := Lib.hid (show pd.length ≤ 140737488355328 by omega)
          obtain ⟨M, hM⟩ : ∃ M, pd.length = M := ⟨_, rfl⟩
          rw [hM] at q3 qD hsh
          clear hM
          have DM := Lib.hid (fun W (U : Below w.heap.size w W) => qD.below U)
          have hav : ∀ Z : Nat → Prop, (∀ k, Z k → w.heap.size ≤ k) → Av Z M D' := fun Z hZ hn p e hx => by
            obtain ⟨b9, o9, e', hb9, _⟩ := qD.at_ hn
            rw [e] at e'
            injection e' with e'
            subst e'
            have : w.heap.size ≤ b9 := hZ _ hx
            omega
          have HAV := Lib.hid (hav X HT.out.2.2.1)
          have HAW := Lib.hid (hav Y HT.out.2.2.2.1)
          clear qD hav
          by_cases hk0 : xk = 0
          · have dk0 : (xk == 0) = true := by simpa using hk0
            have dk1 : (xk == 1) = false := by subst hk0; rfl
            have dk2 : (xk == 2) = false := by subst hk0; rfl
            clear hk0
            have F1 := fun W h => C.tick ga s W X h HF.out.1
            have R1 := fun W h => rhtick_he gr s W Y h HF.out.1
            have HF2 := Lib.hid HF.out.tick
            generalize heTickL s = pks at *
            generalize heTick s = s2 at *
            have F1 := Lib.hid F1
            have R1 := Lib.hid R1
            go_wp2_with (fail)
            refine (F1.out _ HT.out.p1).mono ?_
            rintro e w1 ⟨Ap, np, cp, X1, rfl, pA, q1, t1⟩
            obtain ⟨k1, kb1⟩ := HT.out.left (C.holds _ _) (RHe.holds _ _) q1 t1
            have hy1 := HT.out.2.2.2.2.2.2.1
            have HT1 := Lib.hid k1
            have hb1 := hbel.trans kb1
            have HPA := Lib.hid pA
            clear q1 t1 k1 kb1 pA
            go_wp2_with (fail)
            refine (R1.out _ HT1.out.p2).mono ?_
            rintro e w2 ⟨Bp, mp, dp, Y1, rfl, pB, q2, t2⟩
            obtain ⟨k2, kb2⟩ := HT1.out.right (C.holds _ _) (RHe.holds _ _) q2 t2
            have HT2a := Lib.hid k2
            have hb2a := hb1.trans kb2
            have HSA := Lib.hid (rsameall13 _ _ _ _ _ _ _ _ _ _ (HPA.out.turn t2 (fun k _ hk => .inr (hy1 k hk))) pB)
            clear q2 t2 k2 kb2 pB HPA hy1
            go_wp2_with (fail)
            refine HSA.out.mono ?_
            rintro e w3 ⟨rfl, T3⟩
            have HT2 := Lib.hid (HT2a.out.below (C.holds _ _) (RHe.holds _ _) T3)
            have hb2 := nxt hb2a T3
            clear T3 HT2a
            go_wp2_with (fail)
            refine (alike21_any C ga gr _ _ _ _ HT2.out.p1 HT2.out.p2).mono ?_
            rintro e w8 ⟨rfl, T8⟩
            have HT8 := Lib.hid (HT2.out.below (C.holds _ _) (RHe.holds _ _) T8)
            have hb8 := nxt hb2 T8
            clear T8 HT2
            go_wp2
            go_roundw
            case rel => exact ⟨j + 1, _, _, _, by omega, by go_num, HF2.out, HT8.out, hb8⟩
            case measure => simp [intOf]; omega
          · have dk0 : (xk == 0) = false := by simpa using hk0
            clear hk0
            by_cases hk1 : xk = 1
            · have dk1 : (xk == 1) = true := by simpa using hk1
              have dk2 : (xk == 2) = false := by subst hk1; rfl
              clear hk1
              have F1 := fun W h (U : Below w.heap.size w W) => C.take ga s pk pl D' M d' pd W X h HF.out.1 (by have := HF.out.2.1; omega) (by have := alCount_le HF.out.2.2.1 pl pd; omega) (by have := HF.out.2.2.2.1; omega) hpk hpl (DM.out W U) HAV.out (fun _ => by omega)
              have R1 := fun W h (U : Below w.heap.size w W) => rhtake_he gr s pk pl D' M d' pd W Y h HF.out.1 (by have := HF.out.2.1; omega) (by have := alCount_le HF.out.2.2.1 pl pd; omega) (by have := HF.out.2.2.2.1; omega) (DM.out W U) HAW.out (by omega)
              have HF2 := Lib.hid (HF.out.take (by omega) pk pl pd HPD.out)
              generalize heTakeL s pk = pks at *
              generalize heTake s pk pl pd = s2 at *
              have F1 := Lib.hid F1
              have R1 := Lib.hid R1
              have hy0 := Lib.hid HT.out.2.2.2.2.2.2.1
              have K0 : Hid (∀ W, Below w.heap.size w W → W.cell? ⟨b, o + j * 4 + 1, none⟩ = some (.int .i64 pk) ∧ W.cell? ⟨b, o + j * 4 + 2, none⟩ = some (.int .i64 pl) ∧ W.cell? ⟨b, o + j * 4 + 3, none⟩ = some (Value.slice D' M d')) := fun W U => ⟨(U.cell (p := ⟨b, o + j * 4 + 1, none⟩) hb).trans q1, (U.cell (p := ⟨b, o + j * 4 + 2, none⟩) hb).trans q2, (U.cell (p := ⟨b, o + j * 4 + 3, none⟩) hb).trans q3⟩
              clear q1 q2 q3
              go_wp2_with (fail)
              go_region_held3 (fun w' => w'.cell? ⟨b, o + j * 4 + 1, none⟩ = some (.int .i64 pk) ∧ w'.cell? ⟨b, o + j * 4 + 2, none⟩ = some (.int .i64 pl) ∧ w'.cell? ⟨b, o + j * 4 + 3, none⟩ = some (Value.slice D' M d')) (first | exact K0.out _ hbel | exact K0.out _ hbel.drew | exact K0.out _ hb1 | exact K0.out _ hb2a | exact K0.out _ hb2)
                (first
                  | (go_at_call 15; (with_reducible refine (F1.out _ (by first | exact HT.out.p1 | exact (C.holds _ _).below HT.out.p1 (Below.refl _ _).drew) (by first | exact hbel | exact hbel.drew)).mono ?_); rintro e w1 ⟨Ap, np, cp, X1, rfl, pA, q1, t1⟩; have t1' : Turns X X1 wr w1 := (by first | exact t1 | exact t1.undrew); have k1 := HT.out.left (C.holds _ _) (RHe.holds _ _) q1 t1'; have HT1 := Lib.hid k1.1; have hb1 := hbel.trans k1.2; have HPA := Lib.hid pA)
                  | (go_at_call 16; (with_reducible refine (R1.out _ HT1.out.p2 hb1).mono ?_); rintro e w2 ⟨Bp, mp, dp, Y1, rfl, pB, q2, t2⟩; have k2 := HT1.out.right (C.holds _ _) (RHe.holds _ _) q2 t2; have HT2a := Lib.hid k2.1; have hb2a := hb1.trans k2.2; have HSA := Lib.hid (rsameall13 _ _ _ _ _ _ _ _ _ _ (HPA.out.turn t2 (fun k _ hk => .inr (hy0.out k hk))) pB))
                  | (go_at_call 12; (with_reducible refine (HSA.out).mono ?_); rintro e w3 ⟨rfl, T3⟩; have HT2 := Lib.hid (HT2a.out.below (C.holds _ _) (RHe.holds _ _) T3); have hb2 := nxt hb2a T3))
              all_goals
                go_wp2_with (fail)
                refine (alike21_any C ga gr _ _ _ _ HT2.out.p1 HT2.out.p2).mono ?_
                rintro e w8 ⟨rfl, T8⟩
                have HT8 := Lib.hid (HT2.out.below (C.holds _ _) (RHe.holds _ _) T8)
                have hb8 := nxt hb2 T8
                clear T8 HT2
                go_wp2
                go_roundw
                case rel => exact ⟨j + 1, _, _, _, by omega, by go_num, HF2.out, HT8.out, hb8⟩
                case measure => simp [intOf]; omega
            · have dk1 : (xk == 1) = false := by simpa using hk1
              clear hk1
              by_cases hk2 : xk = 2
              · have dk2 : (xk == 2) = true := by simpa using hk2
                clear hk2
                have F1 := fun W h => C.recv ga s W X h HF.out.1 (by have := HF.out.2.2.2.1; omega) (by have := HF.out.2.2.2.2; omega)
                have R1 := fun W h => rhrecv_he gr s W Y h HF.out.1 (by have := HF.out.2.2.2.1; omega) (by have := HF.out.2.2.2.2; omega)
                have HF2 := Lib.hid (HF.out.recv (by omega))
                generalize s.ls.headD [] = tm at *
                generalize (!s.ls.isEmpty) = tb at *
                generalize heRecv s = s2 at *
                have n1 : (tb != tb) = false := by simp
                have F1 := Lib.hid F1
                have R1 := Lib.hid R1
                go_wp2_with (fail)
                refine (F1.out _ HT.out.p1).mono ?_
                rintro e w1 ⟨Am, nm, cm, X1, rfl, bm, -, am, q1, t1⟩
                have av := Lib.hid (HT.out.told am)
                obtain ⟨k1, kb1⟩ := HT.out.left (C.holds _ _) (RHe.holds _ _) q1 t1
                have hy1 := HT.out.2.2.2.2.2.2.1
                have HT1 := Lib.hid k1
                have hb1 := hbel.trans kb1
                have BM := Lib.hid bm
                clear q1 t1 k1 kb1 bm am hy1
                go_wp2_with (fail)
                refine (R1.out _ HT1.out.p2).mono ?_
                rintro e w2 ⟨Bm, mm, dm, Y1, rfl, bm2, -, q2, t2⟩
                obtain ⟨k2, kb2⟩ := HT1.out.right (C.holds _ _) (RHe.holds _ _) q2 t2
                have HT2a := Lib.hid k2
                have hb2a := hb1.trans kb2
                have HSA := Lib.hid (same_true _ _ _ _ _ _ _ _ (BM.out.off av.out t2.off) bm2)
                clear q2 t2 k2 kb2 bm2 BM
                go_wp2_with (fail)
                refine HSA.out.mono ?_
                rintro e w3 ⟨rfl, T3⟩
                have HT2 := Lib.hid (HT2a.out.below (C.holds _ _) (RHe.holds _ _) T3)
                have hb2 := nxt hb2a T3
                clear T3 HT2a
                go_wp2_with (fail)
                refine (alike21_any C ga gr _ _ _ _ HT2.out.p1 HT2.out.p2).mono ?_
                rintro e w8 ⟨rfl, T8⟩
                have HT8 := Lib.hid (HT2.out.below (C.holds _ _) (RHe.holds _ _) T8)
                have hb8 := nxt hb2 T8
                clear T8 HT2
                go_wp2
                go_roundw
                case rel => exact ⟨j + 1, _, _, _, by omega, by go_num, HF2.out, HT8.out, hb8⟩
                case measure => simp [intOf]; omega
              · have dk2 : (xk == 2) = false := by simpa using hk2
                clear hk2
                have HT2 := HT
                have hb2 := hbel
                go_wp2_with (fail)
                refine (alike21_any C ga gr _ _ _ _ HT2.out.p1 HT2.out.p2).mono ?_
                rintro e w8 ⟨rfl, T8⟩
                have HT8 := Lib.hid (HT2.out.below (C.holds _ _) (RHe.holds _ _) T8)
                have hb8 := nxt hb2 T8
                clear T8 HT2
                go_wp2
                go_roundw
                case rel => exact ⟨j + 1, _, _, _, by omega, by go_num, HF.out.more, HT8.out, hb8⟩
                case measure => simp [intOf]; omega
        · have d0 : decide ((j : Int) < (n : Int)) = false := by simp; omega
          go_wp2_with (fail)
          refine (HL.out _).mono ?_
          rintro e w4 ⟨rfl, T4⟩
          have T4 := nxt hbel T4
          go_wp2
          go_ret
          exact ⟨rfl, T4⟩
end Go.Proofs.Ytpdnpfohcnpenaa
