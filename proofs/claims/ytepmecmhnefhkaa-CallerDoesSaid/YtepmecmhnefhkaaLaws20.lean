/- The walk of layer 20's CallerDoes, over the contracts of caller. -/
import Derived.Test.YtepmecmhnefhkaaCaD
import Derived.Deep.RegionHeld3
import Derived.IntWalk
namespace Go.Proofs.Ytepmecmhnefhkaa
open Go.RowKit
set_option maxRecDepth 20000

theorem rcsend_ca (g : Nat) (s : Cs) (A : Option Addr) (n c : Nat) (m : List UInt8) (w : World) (X : Nat → Prop) (h : RCa g s w X) (hok : CaOk s) (hB : Bys w A n c m) (hacc : s.acc < 1000000) :
    Calls Try.prog 11 #[.pointer (some ⟨g, 0, none⟩), .slice A n c] w fun e w' => e = .returned (.tuple #[.int .i64 (caSendN s n : Nat), .int .i64 (caSendE s n : Nat)]) ∧ ∃ X', RCa g (caSend s m) w' X' ∧ Turns X X' w w' := by
  obtain ⟨gq, gl, Xq, hv, rfl⟩ := h
  exact (rcsend_any g gq gl s Xq A n c m w hv hok hB hacc).mono fun _ _ ⟨h1, Xq', h2, h3⟩ => ⟨h1, _, ⟨gq, gl, Xq', h2, rfl⟩, h3⟩
theorem rcpoll_ca (g : Nat) (s : Cs) (i : Int) (w : World) (X : Nat → Prop) (h : RCa g s w X) :
    Calls Try.prog 18 #[.pointer (some ⟨g, 0, none⟩), .int .i64 i] w fun e w' => e = .returned (.tuple #[.int .i64 (caPoll s i : Nat), .int .i64 (caPollE s i : Nat)]) ∧ w = w' := by
  obtain ⟨gq, gl, Xq, hv, rfl⟩ := h
  exact rcpoll_any g gq gl s Xq i w hv
theorem rctick_ca (g : Nat) (s : Cs) (w : World) (X : Nat → Prop) (h : RCa g s w X) (hok : CaOk s) :
    Calls Try.prog 14 #[.pointer (some ⟨g, 0, none⟩)] w (GivesPks (RCa g (caTick s)) X (caTickL s) w) := by
  obtain ⟨gq, gl, Xq, hv, rfl⟩ := h
  exact rctick_any g gq gl s Xq w hv hok
theorem rctake_ca (g : Nat) (s : Cs) (kd lb : Int) (A : Option Addr) (n c : Nat) (w : World) (X : Nat → Prop) (h : RCa g s w X) (hok : CaOk s) (hacks : s.acks < 1000000) :
    Calls Try.prog 16 #[.pointer (some ⟨g, 0, none⟩), .agg #[.int .i64 kd, .int .i64 lb, .slice A n c]] w (GivesPks (RCa g (caTake s kd lb)) X (caTakeL s kd) w) := by
  obtain ⟨gq, gl, Xq, hv, rfl⟩ := h
  exact rctake_any g gq gl s Xq kd lb A n c w hv hok hacks
set_option maxHeartbeats 16000000 in
theorem walk_CallerDoes {F : Nat → Cs → World → (Nat → Prop) → Prop} (C : CaC F) (r : Int) (b0 : Nat) (A : Option Addr) (n c : Nat) (l : List Act20) (w : World) (hr : I64 r) (hb0 : b0 < 18446744073709551616) (hR : Recs rdAct20 6 w A n c l) :
    Calls Try.prog 3 #[.int .i64 r, .int .u64 (b0 : Int), .slice A n c] w fun e w' => e = .returned (.bool true) ∧ Below w.heap.size w w' := by
  have HL := Lib.hid (fun W => live20_any C W)
  have HU := Lib.hid (huge20_any A n c l w hR)
  have HN := Lib.hid num20_any
  have hlen := hR.1
  have hnc := hR.2.1
  have hcm := hR.2.2.1
  unfold maxLen at hcm
  have HC := Lib.hid hR.2.2.2
  have HLN := Lib.hid hlen
  have HFW := Lib.hid (fun h => huge20_few (l := l) h)
  clear hR hlen
  generalize huge20 l = hu at *
  cases hu with
  | true =>
    go_enter Try.func3, Try.ntmps3
    go_wp2_with (fail)
    refine HU.out.mono ?_
    rintro e w1 ⟨rfl, T1⟩
    go_wp2_with (fail)
    refine (HL.out _).mono ?_
    rintro e w2 ⟨rfl, T2⟩
    have T2 := nxt T1 T2
    go_wp2
    go_ret
    exact ⟨rfl, T2⟩
  | false =>
    have hn100 : n ≤ 100 := by have := HFW.out rfl; rw [HLN.out] at this; exact this
    clear HFW
    by_cases hrr : r < 1 ∨ 16 < r
    · have G1 := Lib.hid (fun W => C.new_no r b0 W hr hb0 hrr)
      have G2 := Lib.hid (fun W => rcnew_no r b0 W hrr)
      clear hrr
      go_enter Try.func3, Try.ntmps3
      go_wp2_with (fail)
      refine HU.out.mono ?_
      rintro e w1 ⟨rfl, T1⟩
      go_wp2_with (fail)
      refine (G1.out _).mono ?_
      rintro e w2 ⟨rfl, T2⟩
      have T2 := nxt T1 T2
      go_wp2_with (fail)
      refine (G2.out _).mono ?_
      rintro e w3 ⟨rfl, rfl⟩
      go_wp2_with (fail)
      refine (HN.out _ _).mono ?_
      rintro e w3 ⟨rfl, rfl⟩
      go_wp2_with (fail)
      go_loopw [11] (fun i wr => i = .int .i64 0 ∧ Below w.heap.size w wr) (fun _ _ => 0)
      case atStart => exact ⟨rfl, T2⟩
      case round =>
        obtain ⟨rfl, hbel⟩ := hrel
        by_cases h0 : n = 0
        · have d0 : ¬ ((0 : Int) < (n : Int)) := by omega
          have d1 : decide ((0 : Int) < (n : Int)) = false := by simpa using d0
          clear h0
          go_wp2_with (fail)
          refine (HL.out _).mono ?_
          rintro e w4 ⟨rfl, T4⟩
          have T4 := nxt hbel T4
          go_wp2
          go_ret
          exact ⟨rfl, T4⟩
        · have d1 : decide ((0 : Int) < (n : Int)) = true := by simp; omega
          have d0 : (0 : Int) < (n : Int) := by omega
          clear h0
          go_wp2_with (fail)
          refine (HL.out _).mono ?_
          rintro e w4 ⟨rfl, T4⟩
          have T4 := nxt hbel T4
          go_wp2
          go_ret
          exact ⟨rfl, T4⟩
    · obtain ⟨room, rfl⟩ := Int.eq_ofNat_of_zero_le (show 0 ≤ r by omega)
      have hr1 : 1 ≤ room := by omega
      have hr2 : room ≤ 16 := by omega
      have G1 := Lib.hid (fun W => C.new_yes room b0 W hr1 hr2 hb0)
      have G2 := Lib.hid (fun W => rcnew_yes room b0 W hr1 hr2)
      have HF0 := Lib.hid (CaFew.new room b0 hr1 hr2 hb0)
      clear hrr
      go_enter Try.func3, Try.ntmps3
      go_wp2_with (fail)
      refine HU.out.mono ?_
      rintro e w1 ⟨rfl, T1⟩
      go_wp2_with (fail)
      refine (G1.out _).mono ?_
      rintro e w2 ⟨ga, X0, rfl, q2, x2, T2⟩
      have T2w := nxt T1 T2
      have hx2 : ∀ k, X0 k → w.heap.size ≤ k := fun k hk => Nat.le_trans T1.size (x2 k hk)
      have Q2 := Lib.hid q2
      clear q2 x2
      go_wp2_with (fail)
      refine (G2.out _).mono ?_
      rintro e w3 ⟨gr, Y0, rfl, r3, y3, T3⟩
      have HTW := Lib.hid (TwoAt.mk (C.holds _ _) (RCa.holds _ _) Q2.out hx2 T2w.size T3 r3 y3)
      have T3w := nxt T2w T3
      clear r3 hx2 T2w T2 T1 T3 y3
      go_wp2_with (fail)
      refine (HN.out _ _).mono ?_
      rintro e w4 ⟨rfl, rfl⟩
      go_wp2_with (fail)
      go_loopw [11] (fun i wr => ∃ (j : Nat) (s : Cs) (X Y : Nat → Prop), j ≤ n ∧ i = .int .i64 (j : Int) ∧ Hid (CaFew j s) ∧ Hid (TwoAt w.heap.size (F ga s) (RCa gr s) X Y wr) ∧ Below w.heap.size w wr) (fun i _ => n - (intOf i).toNat)
      case atStart => exact ⟨0, _, X0, Y0, Nat.zero_le _, rfl, HF0, HTW, T3w⟩
      case round =>
        clear HTW T3w
        obtain ⟨j, s, X, Y, hj, rfl, HF, HT, hbel⟩ := hrel
        by_cases hlt : j < n
        · have d0 : decide ((j : Int) < (n : Int)) = true := by simp; omega
          have hjl : j < l.length := by rw [HLN.out]; exact hlt
          obtain ⟨b, o, rfl, hb, hc⟩ := HC.out (by omega)
          obtain ⟨⟨hxk, hxn, hpk, hpl⟩, A', c', D', d', q0, q1, q2, q3, q4, q5, qB, qD⟩ := hc j hjl
          have c0 := (hbel.cell (p := ⟨b, o + j * 6, none⟩) hb).trans q0
          have c1 := (hbel.cell (p := ⟨b, o + j * 6 + 1, none⟩) hb).trans q1
          have c2 := (hbel.cell (p := ⟨b, o + j * 6 + 2, none⟩) hb).trans q2
          have c3 := (hbel.cell (p := ⟨b, o + j * 6 + 3, none⟩) hb).trans q3
          have c4 := (hbel.cell (p := ⟨b, o + j * 6 + 4, none⟩) hb).trans q4
          have c5 := (hbel.cell (p := ⟨b, o + j * 6 + 5, none⟩) hb).trans q5
          have hjn : (j : Int) < (n : Int) := by omega
          clear hc q0 q1 q2 q3 q4 q5
          generalize l[j] = x at *
          obtain ⟨xk, xn, xm, pk, pl, pd⟩ := x
          simp only at hxk hxn hpk hpl c0 c1 c2 c3 c4 c5 qB qD
          obtain ⟨L, hL⟩ : ∃ L, xm.length = L := ⟨_, rfl⟩
          obtain ⟨M, hM⟩ : ∃ M, pd.length = M := ⟨_, rfl⟩
          rw [hL] at c2 qB
          rw [hM] at c5 qD
          clear hL hM
          have BM := Lib.hid (fun W (U : Below w.heap.size w W) => qB.below U)
          have DM := Lib.hid (fun W (U : Below w.heap.size w W) => qD.below U)
          have HAV : Hid (Av X L A') := fun hn p e hx => by
            obtain ⟨b9, o9, e', hb9, _⟩ := qB.at_ hn
            rw [e] at e'
            injection e' with e'
            subst e'
            have : w.heap.size ≤ b9 := HT.out.2.2.1 _ hx
            omega
          obtain ⟨xb, hxb⟩ : ∃ xb, wr.heap.size = xb := ⟨_, rfl⟩
          have T0 := (Below.refl _ wr).alloc (Nat.le_refl _) (.cells #[.int .i64 xk, .int .i64 xn, .slice A' L c', .int .i64 pk, .int .i64 pl, .slice D' M d'] 38)
          have HTa := Lib.hid (HT.out.below (C.holds _ _) (RCa.holds _ _) T0)
          have hba := hbel.alloc hbel.size (.cells #[.int .i64 xk, .int .i64 xn, .slice A' L c', .int .i64 pk, .int .i64 pl, .slice D' M d'] 38)
          have KA0 := heap_alloc_new wr (.cells #[.int .i64 xk, .int .i64 xn, .slice A' L c', .int .i64 pk, .int .i64 pl, .slice D' M d'] 38)
          have hxy : ¬ X wr.heap.size ∧ ¬ Y wr.heap.size ∧ wr.heap.size < (wr.alloc (.cells #[.int .i64 xk, .int .i64 xn, .slice A' L c', .int .i64 pk, .int .i64 pl, .slice D' M d'] 38)).heap.size := ⟨fun h => by have := HT.out.2.2.2.2.2.1 _ h; omega, fun h => by have := HT.out.2.2.2.2.2.2.1 _ h; omega, by simp⟩
          rw [hxb] at KA0 hxy
          have KA := Lib.hid KA0
          have HXB := Lib.hid hxy
          clear KA0 hxy T0 qB qD HT
          by_cases hk0 : xk = 0
          · have dk0 : (xk == 0) = true := by simpa using hk0
            have dk1 : (xk == 1) = false := by subst hk0; rfl
            have dk2 : (xk == 2) = false := by subst hk0; rfl
            have dk3 : (xk == 3) = false := by subst hk0; rfl
            clear hk0
            have F1 := fun W h (U : Below w.heap.size w W) => C.send ga s A' L c' xm W X h HF.out.1 (BM.out W U) HAV.out (by have := HF.out.2.1; omega)
            have R1 := fun W h (U : Below w.heap.size w W) => rcsend_ca gr s A' L c' xm W Y h HF.out.1 (BM.out W U) (by have := HF.out.2.1; omega)
            have HF2 := Lib.hid (HF.out.send (by omega) xm)
            generalize caSendN s L = sn at *
            generalize caSendE s L = se at *
            generalize caSend s xm = s2 at *
            have n1 : ((sn : Int) != (sn : Int)) = false := by simp
            have n2 : ((se : Int) != (se : Int)) = false := by simp
            have F1 := Lib.hid F1
            have R1 := Lib.hid R1
            go_wp2_with (fail)
            generalize hwa : wr.alloc (.cells #[.int .i64 xk, .int .i64 xn, .slice A' L c', .int .i64 pk, .int .i64 pl, .slice D' M d'] 38) = wa at *
            clear hwa hxb c0 c1 c2 c3 c4 c5
            refine (F1.out _ HTa.out.p1 hba).mono ?_
            rintro e w1 ⟨rfl, X1, q1, t1⟩
            obtain ⟨k1, kb1⟩ := HTa.out.left (C.holds _ _) (RCa.holds _ _) q1 t1
            have hy1 := HTa.out.2.2.2.2.2.2.1
            have HT1 := Lib.hid k1
            have hb1 := hba.trans kb1
            have K1 := Lib.hid ((t1.off.block xb HXB.out.2.2 HXB.out.1).trans KA.out)
            obtain ⟨r0, r1, r2, r3, r4, r5⟩ := row6 K1.out
            clear q1 t1 k1 kb1 hy1
            go_wp2_with (fail)
            refine (R1.out _ HT1.out.p2 hb1).mono ?_
            rintro e w2 ⟨rfl, Y1, q2, t2⟩
            obtain ⟨k2, kb2⟩ := HT1.out.right (C.holds _ _) (RCa.holds _ _) q2 t2
            have HT2 := Lib.hid k2
            have hb2 := hb1.trans kb2
            clear q2 t2 k2 kb2 r0 r1 r2 r3 r4 r5
            go_wp2_with (fail)
            refine (HN.out _ _).mono ?_
            rintro e w3 ⟨rfl, rfl⟩
            go_wp2_with (fail)
            refine (alike20_any C ga gr _ _ _ _ HT2.out.p1 HT2.out.p2).mono ?_
            rintro e w8 ⟨rfl, T8⟩
            have HT8 := Lib.hid (HT2.out.below (C.holds _ _) (RCa.holds _ _) T8)
            have hb8 := nxt hb2 T8
            clear T8 HT2
            go_wp2
            go_roundw
            case rel => exact ⟨j + 1, _, _, _, by omega, by go_num, HF2.out, HT8.out, hb8⟩
            case measure => simp [intOf]; omega
          · have dk0 : (xk == 0) = false := by simpa using hk0
            clear hk0
            by_cases hk1 : xk = 1
            · have dk1 : (xk == 1) = true := by simpa using hk1
              have dk2 : (xk == 2) = false := by subst hk1; rfl
              have dk3 : (xk == 3) = false := by subst hk1; rfl
              clear hk1
              have F1 := fun W h => C.tick ga s W X h HF.out.1
              have R1 := fun W h => rctick_ca gr s W Y h HF.out.1
              have HF2 := Lib.hid HF.out.tick
              generalize caTickL s = pks at *
              generalize caTick s = s2 at *
              have F1 := Lib.hid F1
              have R1 := Lib.hid R1
              go_wp2_with (fail)
              generalize hwa : wr.alloc (.cells #[.int .i64 xk, .int .i64 xn, .slice A' L c', .int .i64 pk, .int .i64 pl, .slice D' M d'] 38) = wa at *
              clear hwa hxb c0 c1 c2 c3 c4 c5
              refine (F1.out _ HTa.out.p1).mono ?_
              rintro e w1 ⟨Ap, np, cp, X1, rfl, pA, q1, t1⟩
              obtain ⟨k1, kb1⟩ := HTa.out.left (C.holds _ _) (RCa.holds _ _) q1 t1
              have hy1 := HTa.out.2.2.2.2.2.2.1
              have HT1 := Lib.hid k1
              have hb1 := hba.trans kb1
              have K1 := Lib.hid ((t1.off.block xb HXB.out.2.2 HXB.out.1).trans KA.out)
              have HPA := Lib.hid pA
              clear q1 t1 k1 kb1 pA
              go_wp2_with (fail)
              refine (R1.out _ HT1.out.p2).mono ?_
              rintro e w2 ⟨Bp, mp, dp, Y1, rfl, pB, q2, t2⟩
              obtain ⟨k2, kb2⟩ := HT1.out.right (C.holds _ _) (RCa.holds _ _) q2 t2
              have HT2a := Lib.hid k2
              have hb2a := hb1.trans kb2
              have HSA := Lib.hid (rsameall13 _ _ _ _ _ _ _ _ _ _ (HPA.out.turn t2 (fun k _ hk => .inr (hy1 k hk))) pB)
              clear q2 t2 k2 kb2 pB HPA hy1
              go_wp2_with (fail)
              refine HSA.out.mono ?_
              rintro e w3 ⟨rfl, T3⟩
              have HT2 := Lib.hid (HT2a.out.below (C.holds _ _) (RCa.holds _ _) T3)
              have hb2 := nxt hb2a T3
              clear T3 HT2a
              go_wp2_with (fail)
              refine (alike20_any C ga gr _ _ _ _ HT2.out.p1 HT2.out.p2).mono ?_
              rintro e w8 ⟨rfl, T8⟩
              have HT8 := Lib.hid (HT2.out.below (C.holds _ _) (RCa.holds _ _) T8)
              have hb8 := nxt hb2 T8
              clear T8 HT2
              go_wp2
              go_roundw
              case rel => exact ⟨j + 1, _, _, _, by omega, by go_num, HF2.out, HT8.out, hb8⟩
              case measure => simp [intOf]; omega
            · have dk1 : (xk == 1) = false := by simpa using hk1
              clear hk1
              by_cases hk2 : xk = 2
              · have dk2 : (xk == 2) = true := by simpa using hk2
                have dk3 : (xk == 3) = false := by subst hk2; rfl
                clear hk2
                have F1 := fun W h (U : Below w.heap.size w W) => C.take ga s pk pl D' M d' pd W X h HF.out.1 (by have := HF.out.2.2.2; omega) (by have := HF.out.2.2.1; omega) hpk hpl (DM.out W U)
                have R1 := fun W h => rctake_ca gr s pk pl D' M d' W Y h HF.out.1 (by have := HF.out.2.2.2; omega)
                have HF2 := Lib.hid (HF.out.take (by omega) pk pl)
                generalize caTakeL s pk = pks at *
                generalize caTake s pk pl = s2 at *
                have F1 := Lib.hid F1
                have R1 := Lib.hid R1
                go_wp2_with (fail)
                generalize hwa : wr.alloc (.cells #[.int .i64 xk, .int .i64 xn, .slice A' L c', .int .i64 pk, .int .i64 pl, .slice D' M d'] 38) = wa at *
                clear hwa hxb c0 c1 c2 c3 c4 c5
                have K0 : Hid (wa.cell? ⟨xb, 3, none⟩ = some (.int .i64 pk) ∧ wa.cell? ⟨xb, 4, none⟩ = some (.int .i64 pl) ∧ wa.cell? ⟨xb, 5, none⟩ = some (.slice D' M d')) := ⟨(row6 KA.out).2.2.2.1, (row6 KA.out).2.2.2.2.1, (row6 KA.out).2.2.2.2.2⟩
                have hy0 := Lib.hid HTa.out.2.2.2.2.2.2.1
                have hX0 := Lib.hid HTa.out.2.2.2.1
                go_region_held3 (fun w' => w'.cell? ⟨xb, 3, none⟩ = some (.int .i64 pk) ∧ w'.cell? ⟨xb, 4, none⟩ = some (.int .i64 pl) ∧ w'.cell? ⟨xb, 5, none⟩ = some (Value.slice D' M d')) (first | exact K0.out | exact K1.out | exact K2.out | exact K3.out)
                  (first
                    | (go_at_call 15; (with_reducible refine (F1.out _ (by first | exact HTa.out.p1 | exact (C.holds _ _).below HTa.out.p1 (Below.refl _ _).drew) (by first | exact hba | exact hba.drew)).mono ?_); rintro e w1 ⟨Ap, np, cp, X1, rfl, pA, q1, t1⟩; have t1' : Turns X X1 wa w1 := (by first | exact t1 | exact t1.undrew); have k1 := HTa.out.left (C.holds _ _) (RCa.holds _ _) q1 t1'; have HT1 := Lib.hid k1.1; have hb1 := hba.trans k1.2; have KB := Lib.hid ((t1'.off.block xb HXB.out.2.2 HXB.out.1).trans KA.out); have K1 := Lib.hid (And.intro (row6 KB.out).2.2.2.1 (And.intro (row6 KB.out).2.2.2.2.1 (row6 KB.out).2.2.2.2.2)); have HPA := Lib.hid pA; have hsz : wa.heap.size ≤ w1.heap.size := t1'.off.size)
                    | (go_at_call 16; (with_reducible refine (R1.out _ HT1.out.p2).mono ?_); rintro e w2 ⟨Bp, mp, dp, Y1, rfl, pB, q2, t2⟩; have k2 := HT1.out.right (C.holds _ _) (RCa.holds _ _) q2 t2; have HT2a := Lib.hid k2.1; have hb2a := hb1.trans k2.2; have KC := Lib.hid ((t2.off.block xb (Nat.lt_of_lt_of_le HXB.out.2.2 hsz) HXB.out.2.1).trans KB.out); have K2 := Lib.hid (And.intro (row6 KC.out).2.2.2.1 (And.intro (row6 KC.out).2.2.2.2.1 (row6 KC.out).2.2.2.2.2)); have HSA := Lib.hid (rsameall13 _ _ _ _ _ _ _ _ _ _ (HPA.out.turn t2 (fun k _ hk => .inr (hy0.out k hk))) pB))
                    | (go_at_call 12; (with_reducible refine (HSA.out).mono ?_); rintro e w3 ⟨rfl, T3⟩; have HT2 := Lib.hid (HT2a.out.below (C.holds _ _) (RCa.holds _ _) T3); have hb2 := nxt hb2a T3; have KD := Lib.hid ((T3.block xb (lt_row KC.out)).trans KC.out); have K3 := Lib.hid (And.intro (row6 KD.out).2.2.2.1 (And.intro (row6 KD.out).2.2.2.2.1 (row6 KD.out).2.2.2.2.2))))
                all_goals
                  go_wp2_with (fail)
                  refine (alike20_any C ga gr _ _ _ _ HT2.out.p1 HT2.out.p2).mono ?_
                  rintro e w8 ⟨rfl, T8⟩
                  have HT8 := Lib.hid (HT2.out.below (C.holds _ _) (RCa.holds _ _) T8)
                  have hb8 := nxt hb2 T8
                  clear T8 HT2
                  go_wp2
                  go_roundw
                  case rel => exact ⟨j + 1, _, _, _, by omega, by go_num, HF2.out, HT8.out, hb8⟩
                  case measure => simp [intOf]; omega
              · have dk2 : (xk == 2) = false := by simpa using hk2
                clear hk2
                by_cases hk3 : xk = 3
                · have dk3 : (xk == 3) = true := by simpa using hk3
                  clear hk3
                  have F1 := fun W h => C.poll ga s xn W X h hxn
                  have R1 := fun W h => rcpoll_ca gr s xn W Y h
                  generalize caPoll s xn = sn at *
                  generalize caPollE s xn = se at *
                  have n1 : ((sn : Int) != (sn : Int)) = false := by simp
                  have n2 : ((se : Int) != (se : Int)) = false := by simp
                  have F1 := Lib.hid F1
                  have R1 := Lib.hid R1
                  go_wp2_with (fail)
                  generalize hwa : wr.alloc (.cells #[.int .i64 xk, .int .i64 xn, .slice A' L c', .int .i64 pk, .int .i64 pl, .slice D' M d'] 38) = wa at *
                  clear hwa hxb c0 c1 c2 c3 c4 c5
                  refine (F1.out _ HTa.out.p1).mono ?_
                  rintro e w1 ⟨rfl, T1⟩
                  have HT2 := Lib.hid (HTa.out.below (C.holds _ _) (RCa.holds _ _) T1)
                  have hb2 := nxt hba T1
                  have K1 := Lib.hid ((T1.block xb HXB.out.2.2).trans KA.out)
                  obtain ⟨r0, r1, r2, r3, r4, r5⟩ := row6 K1.out
                  clear T1
                  go_wp2_with (fail)
                  refine (R1.out _ HT2.out.p2).mono ?_
                  rintro e w2 ⟨rfl, rfl⟩
                  go_wp2_with (fail)
                  refine (HN.out _ _).mono ?_
                  rintro e w3 ⟨rfl, rfl⟩
                  clear r0 r1 r2 r3 r4 r5
                  go_wp2_with (fail)
                  refine (alike20_any C ga gr _ _ _ _ HT2.out.p1 HT2.out.p2).mono ?_
                  rintro e w8 ⟨rfl, T8⟩
                  have HT8 := Lib.hid (HT2.out.below (C.holds _ _) (RCa.holds _ _) T8)
                  have hb8 := nxt hb2 T8
                  clear T8 HT2
                  go_wp2
                  go_roundw
                  case rel => exact ⟨j + 1, _, _, _, by omega, by go_num, HF.out.more, HT8.out, hb8⟩
                  case measure => simp [intOf]; omega
                · have dk3 : (xk == 3) = false := by simpa using hk3
                  clear hk3
                  go_wp2_with (fail)
                  generalize hwa : wr.alloc (.cells #[.int .i64 xk, .int .i64 xn, .slice A' L c', .int .i64 pk, .int .i64 pl, .slice D' M d'] 38) = wa at *
                  clear hwa hxb c0 c1 c2 c3 c4 c5
                  have HT2 := HTa
                  have hb2 := hba
                  refine (alike20_any C ga gr _ _ _ _ HT2.out.p1 HT2.out.p2).mono ?_
                  rintro e w8 ⟨rfl, T8⟩
                  have HT8 := Lib.hid (HT2.out.below (C.holds _ _) (RCa.holds _ _) T8)
                  have hb8 := nxt hb2 T8
                  clear T8 HT2
                  go_wp2
                  go_roundw
                  case rel => exact ⟨j + 1, _, _, _, by omega, by go_num, HF.out.more, HT8.out, hb8⟩
                  case measure => simp [intOf]; omega
        · have d0 : decide ((j : Int) < (n : Int)) = false := by simp; omega
          go_wp2_with (fail)
          refine (HL.out _).mono ?_
          rintro e w4 ⟨rfl, T4⟩
          have T4 := nxt hbel T4
          go_wp2
          go_ret
          exact ⟨rfl, T4⟩
end Go.Proofs.Ytepmecmhnefhkaa
