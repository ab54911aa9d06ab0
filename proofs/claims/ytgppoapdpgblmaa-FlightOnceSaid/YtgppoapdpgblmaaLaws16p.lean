/- The walk of layer 16's FlightOnce with a life, over the contracts of flight. -/
import Derived.Test.YtgppoapdpgblmaaFliO3
import Derived.Deep.RegionHeld3
import Derived.IntWalk
import Derived.Deep.QuietTactic
import Derived.BigQuiet
namespace Go.Proofs.Ytgppoapdpgblmaa
open Go.RowKit
set_option maxRecDepth 20000

theorem row5z {w : World} {g : Nat} {a b c d e : Value} {t : TypeId} (h : w.heap[g]? = some (.cells #[a, b, c, d, e] t (0, 0))) : w.cell? ⟨g, 0, none⟩ = some a := cell_of_row _ _ _ _ _ _ h
theorem same_self (A A' : Option Addr) (n c n' c' : Nat) (l : List UInt8) (w : World) (h : Bys w A n c l) (h' : Bys w A' n' c' l) : Calls Try.prog 20 #[.slice A n c, .slice A' n' c'] w fun e w' => e = .returned (.bool true) ∧ ∃ k, w' = w.drewN k := by
  have := same_any A A' n c n' c' l l w h h'
  rw [sameB_self] at this
  exact this
set_option maxHeartbeats 16000000 in
theorem once_pos {F : Nat → Fs → World → (Nat → Prop) → Prop} (C : FliC F) (lf : Nat) (A : Option Addr) (n c : Nat) (l : List Act16) (w : World) (hlf : lf ≤ 4096) (hR : Recs rdAct16 5 w A n c l) (hfw : few16 l = true) (hl0 : 0 < lf) :
    Calls Try.prog 4 #[.int .i64 (lf : Int), .slice A n c] w fun e w' => e = .returned (.bool true) ∧ Below w.heap.size w w' := by
  have HL := Lib.hid (fun W => live16_any C W)
  have HN := Lib.hid num16_any
  have HU := Lib.hid (fun W (U : Below w.heap.size w W) => few16_any A n c l W (hR.below keeps16 U))
  have hlen := hR.1
  have hnc := hR.2.1
  have hcm := hR.2.2.1
  unfold maxLen at hcm
  have HC := Lib.hid hR.2.2.2
  have HLN := Lib.hid hlen
  have HFW := Lib.hid (fun h => few16_of (l := l) h)
  have hmm := @run_makeMap Try.prog
  clear hR hlen
  have G1 := Lib.hid (C.new_yes lf w hlf)
  rw [hfw] at HU
  have hn60 : n ≤ 60 := by have := (HFW.out hfw).1; rw [HLN.out] at this; exact this
  have HFW2 := Lib.hid (HFW.out hfw).2
  clear HFW hfw
  have dl : decide ((0 : Int) < (lf : Int)) = true := by simp; omega
  go_enter Try.func4, Try.ntmps4
  go_wp2_with (fail)
  refine G1.out.mono ?_
  rintro e w1 ⟨ga, X0, rfl, q1, x1, T1⟩
  have Q1 := Lib.hid q1
  have HX1 := Lib.hid x1
  clear q1 x1
  go_wp2_with (fail)
  refine (HU.out _ T1).mono ?_
  rintro e w2 ⟨rfl, T2⟩
  have T2w := nxt T1 T2
  have hmk := On.mk0 (C.holds _ _) ((C.holds _ _).below Q1.out T2) HX1.out T2w.size
  have HMK := Lib.hid hmk.1
  have T3w := nxt T2w hmk.2
  clear hmk T1 T2 Q1 HX1
  go_wp2_with (fail)
  refine (HN.out _ _).mono ?_
  rintro e w3 ⟨rfl, rfl⟩
  go_wp2_with (fail)
  generalize w2.heap.size = mb at *
  go_loopw [7, 9] (fun v i wr => ∃ (j : Nat) (s : Fs) (ps : List (List UInt8)) (nm : Nat) (T : Int → Bool) (X : Nat → Prop), j ≤ n ∧ ps.length ≤ j ∧ nm ≤ j ∧ i = .int .i64 (j : Int) ∧ Hid (SOk j s) ∧ Hid (OInv lf ps T s) ∧ Hid (On (F ga s) w.heap.size v ps mb nm T X wr) ∧ Below w.heap.size w wr) (fun _ i _ => n - (intOf i).toNat)
  case atStart => exact ⟨0, _, [], 0, _, X0, Nat.zero_le _, Nat.le_refl _, Nat.le_refl _, rfl, SOk.new lf, OInv.new lf, HMK, T3w⟩
  case round =>
    clear HMK T3w T2w
    obtain ⟨j, s, ps, nm, T, X, hj, hpl, hnm, rfl, HOK, HI, HOn, hbel⟩ := hrel
    obtain ⟨Pv, cv, hv, hv1, hv2, -, -⟩ := HOn.out.l.shape
    subst hv
    unfold maxLen at hv2
    obtain ⟨np, hnp⟩ : ∃ np, ps.length = np := ⟨_, rfl⟩
    rw [hnp] at HOn hv1 hpl
    have HNP := Lib.hid hnp
    rw [hnp]
    clear hnp
    by_cases hlt : j < n
    · have d0 : decide ((j : Int) < (n : Int)) = true := by simp; omega
      have hjl : j < l.length := by rw [HLN.out]; exact hlt
      obtain ⟨b, o, rfl, hb, hc⟩ := HC.out (by omega)
      obtain ⟨⟨hxk, hxd, hxa⟩, A', c', E', ce', q0, q1, q2, q3, q4, qB, qE⟩ := hc j hjl
      have hxe := HFW2.out j hjl
      have c0 := (hbel.cell (p := ⟨b, o + j * 5, none⟩) hb).trans q0
      have c1 := (hbel.cell (p := ⟨b, o + j * 5 + 1, none⟩) hb).trans q1
      have c2 := (hbel.cell (p := ⟨b, o + j * 5 + 2, none⟩) hb).trans q2
      have c3 := (hbel.cell (p := ⟨b, o + j * 5 + 3, none⟩) hb).trans q3
      have c4 := (hbel.cell (p := ⟨b, o + j * 5 + 4, none⟩) hb).trans q4
      have hjn : (j : Int) < (n : Int) := by omega
      clear hc q0 q1 q2 q3 q4
      generalize l[j] = x at *
      obtain ⟨xk, xd, xa, xw, xe⟩ := x
      simp only at hxk hxd hxa hxe c0 c1 c2 c3 c4 qB qE
      obtain ⟨L, hL⟩ : ∃ L, xw.length = L := ⟨_, rfl⟩
      obtain ⟨M, hM⟩ : ∃ M, xe.length = M := ⟨_, rfl⟩
      rw [hL] at c3 qB
      rw [hM] at c4 qE hxe
      have HLW := Lib.hid hL
      clear hL hM
      have BM := Lib.hid (fun W (U : Below w.heap.size w W) => qB.below U)
      have EM := Lib.hid (fun W (U : Below w.heap.size w W) => qE.below U)
      obtain ⟨xb, hxb⟩ : ∃ xb, wr.heap.size = xb := ⟨_, rfl⟩
      have T0 := (Below.refl _ wr).alloc (Nat.le_refl _) (.cells #[.int .i64 xk, .int .i64 xd, .int .i64 xa, .slice A' L c', .slice E' M ce'] 36)
      have HOa := Lib.hid (HOn.out.below (C.holds _ _) T0)
      have hba := hbel.alloc hbel.size (.cells #[.int .i64 xk, .int .i64 xd, .int .i64 xa, .slice A' L c', .slice E' M ce'] 36)
      have KA0 := heap_alloc_new wr (.cells #[.int .i64 xk, .int .i64 xd, .int .i64 xa, .slice A' L c', .slice E' M ce'] 36)
      have hxy : ¬ X wr.heap.size ∧ wr.heap.size < (wr.alloc (.cells #[.int .i64 xk, .int .i64 xd, .int .i64 xa, .slice A' L c', .slice E' M ce'] 36)).heap.size := ⟨fun h => by have := (HOn.out.lt _ h).2; omega, by simp⟩
      rw [hxb] at KA0 hxy
      have KA := Lib.hid KA0
      have HXB := Lib.hid hxy
      have HAV := Lib.hid (av_in qB (fun k hk => (HOn.out.lt k hk).1))
      have HLX : Hid (∀ k, (Value.slice Pv np cv).ownBlock = some k → k < xb) := fun k hk => by have := (HOn.out.l.lt k hk).2; omega
      have HMX : Hid (mb < xb) := by have := HOn.out.m.lt; show _ < _; omega
      clear KA0 hxy T0
      clear qB qE
      by_cases hk0 : xk = 0
      · have dk0 : (xk == 0) = true := by simpa using hk0
        have dk1 : (xk == 1) = false := by subst hk0; rfl
        have dk2 : (xk == 2) = false := by subst hk0; rfl
        clear hk0
        have F1 := fun W h (U : Below w.heap.size w W) => C.put ga s 0 A' L c' xw W X h ⟨by omega, by omega⟩ (BM.out W U) HAV.out (by have := HOK.out.1; omega) (by have := HOK.out.2.1; omega) (by have := HOK.out.2.2; have := HOK.out.1; have := HOK.out.2.1; omega)
        have HOK2 := Lib.hid (HOK.out.put 0 xw)
        by_cases hE : fsPutE s 0 L = 0
        · have hL5 : L ≤ 512 := by
            unfold fsPutE at hE
            rw [if_neg (by omega)] at hE
            rcases Nat.lt_or_ge 512 L with h | h
            · rw [if_pos h] at hE; cases hE
            · exact h
          have hput : fsPut s 0 xw = fsPut0 s xw := by unfold fsPut; rw [HLW.out, if_pos hE]; rfl
          rw [hput] at HOK2
          rw [hE] at F1
          simp only [hput] at F1
          have HI2 := Lib.hid (HI.out.put xw)
          have F1 := Lib.hid F1
          clear hput hE
          generalize fsPut0 s xw = s2 at *
          go_wp2_with (fail)
          generalize hwa : wr.alloc (.cells #[.int .i64 xk, .int .i64 xd, .int .i64 xa, .slice A' L c', .slice E' M ce'] 36) = wa at *
          clear hwa hxb
          clear c0 c1 c2 c3 c4
          refine (F1.out _ HOa.out.q hba).mono ?_
          rintro e w1 ⟨rfl, X2, q1, t1⟩
          obtain ⟨k1, k2⟩ := HOa.out.turn (C.holds _ _) q1 t1
          have HO1 := Lib.hid k1
          have hb1 := hba.trans k2
          have K1 := (t1.off.block _ HXB.out.2 HXB.out.1).trans KA.out
          have c9 := row5z K1
          obtain ⟨c10, c11, c12, c13⟩ := row5c K1
          have HK1 := Lib.hid K1
          clear q1 t1 k1 k2 K1
          go_wp2_with (fail)
          refine (HN.out _ _).mono ?_
          rintro e w1' ⟨rfl, rfl⟩
          have HCP := Lib.hid (rcopy_any A' L c' xw w1 (BM.out _ hb1) (by omega))
          go_wp2_with (fail)
          refine HCP.out.mono ?_
          rintro e w2 ⟨v2, rfl, hw2, U2⟩
          rw [HLW.out] at hw2
          obtain ⟨A2, cA2, rfl⟩ := own_shape hw2
          have HW2 := Lib.hid hw2
          have hb2 := nxt hb1 U2
          have HLIT := Lib.hid (lit_text (Z' := (· < w1.heap.size)) hw2 HLW.out (fun j h1 _ h => absurd h (Nat.not_lt.2 h1)))
          have K2 := hp_old ((U2.block _ (lt_row HK1.out)).trans HK1.out) (.cells #[.slice A2 L cA2] 33)
          have HK2 := Lib.hid K2
          have hs2 := U2.size
          have hs1 := hb1.size
          have T2a := U2.alloc U2.size (.cells #[.slice A2 L cA2] 33)
          have HOW := Lib.hid (HO1.out.l.below T2a)
          have HT2a := Lib.hid T2a
          clear hw2 K2 T2a c9 c10 c11 c12 c13
          go_wp2_with ((refine app_rwy _ rfl (.tmp 52) (.tmp 56) rfl w.heap.size (fun k => X2 k ∨ k = mb) (.slice Pv np cv) ps rfl ?_ (· < w1.heap.size) (some ⟨w2.heap.size, 0, none⟩) 1 1 [xw] rfl rfl ?_ ?_ ?_ ?_ ?_ ?_); (exact HOW.out); (exact HLIT.out); (rw [HNP.out]; omega); (simp; omega); (exact fun k _ hz => hz.elim (fun h => (HO1.out.lt k h).2) (fun h => by subst h; exact HO1.out.m.lt)); (exact fun k hk => (HO1.out.l.lt k hk).2); intro v3 w3 hown3 hgrow3 hwhere3; have K3 := (hgrow3.block xb (lt_row HK2.out) (fun e => by have := HLX.out xb e.symm; omega)).trans HK2.out; have c9 := row5z K3; obtain ⟨c10, c11, c12, c13⟩ := row5c K3; have HG3 := Lib.hid (And.intro hown3 (And.intro hgrow3 hwhere3)); clear hown3 hgrow3 hwhere3 K3)
          obtain ⟨k1, k2⟩ := HO1.out.listed (C.holds _ _) HT2a.out HG3.out.1 HG3.out.2.1 HG3.out.2.2
          obtain ⟨Pv2, cv2, hv2', hv3', hv4', -, -⟩ := HG3.out.1.shape
          subst hv2'
          obtain ⟨ps2, hps2⟩ : ∃ x, ps ++ [xw] = x := ⟨_, rfl⟩
          have hl2 : ps2.length = np + 1 := by rw [← hps2, List.length_append, HNP.out]; rfl
          rw [hps2] at k1 HI2 hv3' ⊢
          obtain ⟨np2, hnp2⟩ : ∃ np2, ps2.length = np2 := ⟨_, rfl⟩
          rw [hnp2] at k1 hl2 hv3' ⊢
          have HNP2 := Lib.hid hnp2
          have hpl2 : np2 ≤ j + 1 := by omega
          clear hl2
          unfold maxLen at hv4'
          have HOz := Lib.hid k1
          have hbz := hb1.trans k2
          clear k1 k2 c9 c10 c11 c12 c13 HG3 HT2a HOW HLIT HW2 hv3' hv4' hps2
          generalize w3 = wz at *
          have E1 := fun W h => C.len ga s2 0 W X2 h ⟨by omega, by omega⟩
          have E2 := Lib.hid (fun k (hk : I64 k) W h => C.at_ ga s2 0 k W X2 h ⟨by omega, by omega⟩ hk)
          obtain ⟨N, hN⟩ : ∃ N, s2.l0.length = N := ⟨_, rfl⟩
          have HNL := Lib.hid hN
          rw [show fsLen s2 0 = s2.l0.length from rfl, hN] at E1
          have E1 := Lib.hid E1
          have hN97 : N ≤ 1000 := by have := HOK2.out.2.2; have := HOK2.out.1; have := HOK2.out.2.1; omega
          have KO := Lib.hid (fun W (U : Below wz.heap.size wz W) => HOz.out.below (C.holds _ _) U)
          have dn0 : N ≤ lf := hN ▸ HI2.out.few hl0
          have dn : decide ((lf : Int) < (N : Int)) = false := by simp; omega
          have dnp : ¬ ((lf : Int) < (N : Int)) := by omega
          have dnn : decide (lf < N) = false := by simp; omega
          clear hN
          go_wp2_with (fail)
          refine (E1.out _ HOz.out.q).mono ?_
          rintro e wy ⟨rfl, PZ⟩
          go_wp2_with (fail)
          go_loopw [13] (fun k wr2 => ∃ q : Nat, q ≤ N ∧ k = .int .i64 (q : Int) ∧ Below wz.heap.size wz wr2) (fun k _ => N - (intOf k).toNat)
          case atStart => exact ⟨0, Nat.zero_le _, rfl, PZ⟩
          case round =>
            clear PZ
            obtain ⟨q, hq, rfl, hbq⟩ := hrel
            go_wp2_with (fail)
            refine (E1.out _ (KO.out _ hbq).q).mono ?_
            rintro e w5 ⟨rfl, T5⟩
            have U5 := nxt hbq T5
            by_cases hqN : q < N
            · have d5 : decide ((q : Int) < (N : Int)) = true := by simp; omega
              have hqL : q < s2.l0.length := by rw [HNL.out]; exact hqN
              obtain ⟨f1, f2, f3, f4⟩ := HI2.out.num s2.l0[q] (List.getElem_mem hqL)
              have hy := fun h => HI2.out.young h s2.l0[q] (List.getElem_mem hqL)
              have he : fsAt s2 0 (q : Int) = (s2.l0[q], 0) := by
                show flAt s2.l0 (q : Int) = _
                unfold flAt
                rw [if_pos (by omega), Int.toNat_natCast, List.getD_eq_getElem?_getD, List.getElem?_eq_getElem hqL]
                rfl
              have E3 := E2.out (q : Int) ⟨by omega, by omega⟩
              rw [he] at E3
              have E3 := Lib.hid E3
              rw [HNP2.out] at f2 hy
              clear he f3
              generalize s2.l0[q] = f at *
              obtain ⟨fn, fa, fb⟩ := f
              simp only at f1 f2 f4 hy
              obtain ⟨df, hdf⟩ : ∃ df, np2 - fn = df := ⟨_, rfl⟩
              rw [hdf] at hy
              have edf : (np2 : Int) - (fn : Int) = (df : Int) := by omega
              have dq0 := hy hl0
              have dq2 : decide ((lf : Int) ≤ (df : Int)) = false := by simp; omega
              have dq3 : ¬ ((lf : Int) ≤ (df : Int)) := by omega
              have dq4 : decide (lf ≤ df) = false := by simp; omega
              go_wp2_with (fail)
              refine (E3.out _ (KO.out _ U5).q).mono ?_
              rintro e w6 ⟨A1, c1, A2, c2, rfl, -, -, T6⟩
              simp only
              generalize fa.length = m1
              generalize fb.length = m2
              have U6 := nxt U5 T6
              have U6a := U6.alloc U6.size (.cells #[.int .i64 (fn : Int), .slice A1 m1 c1, .slice A2 m2 c2] 40)
              obtain ⟨r0, r1, r2⟩ := eq3 (heap_alloc_new w6 (.cells #[.int .i64 (fn : Int), .slice A1 m1 c1, .slice A2 m2 c2] 40))
              have look := (KO.out _ U6a).m.look (fn : Int) ⟨by omega, by omega⟩
              rw [f4] at look
              have dq1 : decide ((np2 : Int) < (fn : Int)) = false := by simp; omega
              clear r1 r2 hy hdf T6 U6 T5 f4
              go_wp2_with (fail)
              refine (HN.out _ _).mono ?_
              rintro e w7 ⟨rfl, rfl⟩
              go_wp2
              go_roundw
              case rel => exact ⟨q + 1, by omega, by go_num, U6a⟩
              case measure => simp [intOf]; omega
            · have d5 : decide ((q : Int) < (N : Int)) = false := by simp; omega
              have HOn := Lib.hid (KO.out _ U5)
              have hbn := hbz.trans (U5.mono hbz.size)
              go_wp2
              go_roundw
              case rel => exact ⟨j + 1, s2, ps2, _, _, X2, by omega, by rw [HNP2.out]; omega, by omega, by go_num, HOK2, HI2, HOn, hbn⟩
              case measure => simp [intOf]; omega
        · have hput : fsPut s 0 xw = s := by unfold fsPut; rw [HLW.out, if_neg hE]
          obtain ⟨pe, hpe⟩ : ∃ pe, fsPutE s 0 L = pe := ⟨_, rfl⟩
          rw [hpe] at F1 hE
          simp only [hput] at F1
          have dpe : ((pe : Int) == 0) = false := by simp; omega
          have F1 := Lib.hid F1
          have HOK2 := Lib.hid (SOk.more HOK.out)
          have HI2 := HI
          clear hput hE hpe
          go_wp2_with (fail)
          generalize hwa : wr.alloc (.cells #[.int .i64 xk, .int .i64 xd, .int .i64 xa, .slice A' L c', .slice E' M ce'] 36) = wa at *
          clear hwa hxb
          clear c0 c1 c2 c3 c4
          refine (F1.out _ HOa.out.q hba).mono ?_
          rintro e w1 ⟨rfl, X2, q1, t1⟩
          obtain ⟨k1, k2⟩ := HOa.out.turn (C.holds _ _) q1 t1
          have HOz := Lib.hid k1
          have hbz := hba.trans k2
          have K1 := (t1.off.block _ HXB.out.2 HXB.out.1).trans KA.out
          have c9 := row5z K1
          obtain ⟨c10, c11, c12, c13⟩ := row5c K1
          clear q1 t1 k1 k2 K1
          go_wp2_with (fail)
          refine (HN.out _ _).mono ?_
          rintro e wz ⟨rfl, rfl⟩
          obtain ⟨s2, hs2⟩ : ∃ x, x = s := ⟨_, rfl⟩
          rw [← hs2] at HOz HOK2 HI2
          clear hs2
          have wzsd : w1 = w1 := rfl
          clear wzsd
          generalize w1 = wz at *
          go_wp2_with (fail)
          clear c9 c10 c11 c12 c13
          have E1 := fun W h => C.len ga s2 0 W X2 h ⟨by omega, by omega⟩
          have E2 := Lib.hid (fun k (hk : I64 k) W h => C.at_ ga s2 0 k W X2 h ⟨by omega, by omega⟩ hk)
          obtain ⟨N, hN⟩ : ∃ N, s2.l0.length = N := ⟨_, rfl⟩
          have HNL := Lib.hid hN
          rw [show fsLen s2 0 = s2.l0.length from rfl, hN] at E1
          have E1 := Lib.hid E1
          have hN97 : N ≤ 1000 := by have := HOK2.out.2.2; have := HOK2.out.1; have := HOK2.out.2.1; omega
          have KO := Lib.hid (fun W (U : Below wz.heap.size wz W) => HOz.out.below (C.holds _ _) U)
          have dn0 : N ≤ lf := hN ▸ HI2.out.few hl0
          have dn : decide ((lf : Int) < (N : Int)) = false := by simp; omega
          have dnp : ¬ ((lf : Int) < (N : Int)) := by omega
          have dnn : decide (lf < N) = false := by simp; omega
          clear hN
          go_wp2_with (fail)
          refine (E1.out _ HOz.out.q).mono ?_
          rintro e wy ⟨rfl, PZ⟩
          go_wp2_with (fail)
          go_loopw [13] (fun k wr2 => ∃ q : Nat, q ≤ N ∧ k = .int .i64 (q : Int) ∧ Below wz.heap.size wz wr2) (fun k _ => N - (intOf k).toNat)
          case atStart => exact ⟨0, Nat.zero_le _, rfl, PZ⟩
          case round =>
            clear PZ
            obtain ⟨q, hq, rfl, hbq⟩ := hrel
            go_wp2_with (fail)
            refine (E1.out _ (KO.out _ hbq).q).mono ?_
            rintro e w5 ⟨rfl, T5⟩
            have U5 := nxt hbq T5
            by_cases hqN : q < N
            · have d5 : decide ((q : Int) < (N : Int)) = true := by simp; omega
              have hqL : q < s2.l0.length := by rw [HNL.out]; exact hqN
              obtain ⟨f1, f2, f3, f4⟩ := HI2.out.num s2.l0[q] (List.getElem_mem hqL)
              have hy := fun h => HI2.out.young h s2.l0[q] (List.getElem_mem hqL)
              have he : fsAt s2 0 (q : Int) = (s2.l0[q], 0) := by
                show flAt s2.l0 (q : Int) = _
                unfold flAt
                rw [if_pos (by omega), Int.toNat_natCast, List.getD_eq_getElem?_getD, List.getElem?_eq_getElem hqL]
                rfl
              have E3 := E2.out (q : Int) ⟨by omega, by omega⟩
              rw [he] at E3
              have E3 := Lib.hid E3
              rw [HNP.out] at f2 hy
              clear he f3
              generalize s2.l0[q] = f at *
              obtain ⟨fn, fa, fb⟩ := f
              simp only at f1 f2 f4 hy
              obtain ⟨df, hdf⟩ : ∃ df, np - fn = df := ⟨_, rfl⟩
              rw [hdf] at hy
              have edf : (np : Int) - (fn : Int) = (df : Int) := by omega
              have dq0 := hy hl0
              have dq2 : decide ((lf : Int) ≤ (df : Int)) = false := by simp; omega
              have dq3 : ¬ ((lf : Int) ≤ (df : Int)) := by omega
              have dq4 : decide (lf ≤ df) = false := by simp; omega
              go_wp2_with (fail)
              refine (E3.out _ (KO.out _ U5).q).mono ?_
              rintro e w6 ⟨A1, c1, A2, c2, rfl, -, -, T6⟩
              simp only
              generalize fa.length = m1
              generalize fb.length = m2
              have U6 := nxt U5 T6
              have U6a := U6.alloc U6.size (.cells #[.int .i64 (fn : Int), .slice A1 m1 c1, .slice A2 m2 c2] 40)
              obtain ⟨r0, r1, r2⟩ := eq3 (heap_alloc_new w6 (.cells #[.int .i64 (fn : Int), .slice A1 m1 c1, .slice A2 m2 c2] 40))
              have look := (KO.out _ U6a).m.look (fn : Int) ⟨by omega, by omega⟩
              rw [f4] at look
              have dq1 : decide ((np : Int) < (fn : Int)) = false := by simp; omega
              clear r1 r2 hy hdf T6 U6 T5 f4
              go_wp2_with (fail)
              refine (HN.out _ _).mono ?_
              rintro e w7 ⟨rfl, rfl⟩
              go_wp2
              go_roundw
              case rel => exact ⟨q + 1, by omega, by go_num, U6a⟩
              case measure => simp [intOf]; omega
            · have d5 : decide ((q : Int) < (N : Int)) = false := by simp; omega
              have HOn := Lib.hid (KO.out _ U5)
              have hbn := hbz.trans (U5.mono hbz.size)
              go_wp2
              go_roundw
              case rel => exact ⟨j + 1, s2, ps, _, _, X2, by omega, by rw [HNP.out]; omega, by omega, by go_num, HOK2, HI2, HOn, hbn⟩
              case measure => simp [intOf]; omega
      · have dk0 : (xk == 0) = false := by simpa using hk0
        clear hk0
        by_cases hk2 : xk = 2
        · have dk2 : (xk == 2) = true := by simpa using hk2
          have dk1 : (xk == 1) = false := by subst hk2; rfl
          clear hk2
          have F1 := Lib.hid (fun W h (U : Below w.heap.size w W) => C.spoil ga s 0 xa E' M ce' xe W X h ⟨by omega, by omega⟩ hxa (EM.out W U) (by omega))
          have HOK2 := Lib.hid (HOK.out.spoil 0 xa xe)
          have HI2 := Lib.hid (HI.out.spoil xa xe)
          generalize fsSpoil s 0 xa xe = s2 at *
          go_wp2_with (fail)
          generalize hwa : wr.alloc (.cells #[.int .i64 xk, .int .i64 xd, .int .i64 xa, .slice A' L c', .slice E' M ce'] 36) = wa at *
          clear hwa hxb
          clear c0 c1 c2 c3 c4
          refine (F1.out _ HOa.out.q hba).mono ?_
          rintro e wz ⟨rfl, X2, q1, t1⟩
          obtain ⟨k1, k2⟩ := HOa.out.turn (C.holds _ _) q1 t1
          have HOz := Lib.hid k1
          have hbz := hba.trans k2
          have K1 := (t1.off.block _ HXB.out.2 HXB.out.1).trans KA.out
          have c9 := row5z K1
          clear q1 t1 k1 k2 K1
          go_wp2_with (fail)
          clear c9
          have E1 := fun W h => C.len ga s2 0 W X2 h ⟨by omega, by omega⟩
          have E2 := Lib.hid (fun k (hk : I64 k) W h => C.at_ ga s2 0 k W X2 h ⟨by omega, by omega⟩ hk)
          obtain ⟨N, hN⟩ : ∃ N, s2.l0.length = N := ⟨_, rfl⟩
          have HNL := Lib.hid hN
          rw [show fsLen s2 0 = s2.l0.length from rfl, hN] at E1
          have E1 := Lib.hid E1
          have hN97 : N ≤ 1000 := by have := HOK2.out.2.2; have := HOK2.out.1; have := HOK2.out.2.1; omega
          have KO := Lib.hid (fun W (U : Below wz.heap.size wz W) => HOz.out.below (C.holds _ _) U)
          have dn0 : N ≤ lf := hN ▸ HI2.out.few hl0
          have dn : decide ((lf : Int) < (N : Int)) = false := by simp; omega
          have dnp : ¬ ((lf : Int) < (N : Int)) := by omega
          have dnn : decide (lf < N) = false := by simp; omega
          clear hN
          go_wp2_with (fail)
          refine (E1.out _ HOz.out.q).mono ?_
          rintro e wy ⟨rfl, PZ⟩
          go_wp2_with (fail)
          go_loopw [13] (fun k wr2 => ∃ q : Nat, q ≤ N ∧ k = .int .i64 (q : Int) ∧ Below wz.heap.size wz wr2) (fun k _ => N - (intOf k).toNat)
          case atStart => exact ⟨0, Nat.zero_le _, rfl, PZ⟩
          case round =>
            clear PZ
            obtain ⟨q, hq, rfl, hbq⟩ := hrel
            go_wp2_with (fail)
            refine (E1.out _ (KO.out _ hbq).q).mono ?_
            rintro e w5 ⟨rfl, T5⟩
            have U5 := nxt hbq T5
            by_cases hqN : q < N
            · have d5 : decide ((q : Int) < (N : Int)) = true := by simp; omega
              have hqL : q < s2.l0.length := by rw [HNL.out]; exact hqN
              obtain ⟨f1, f2, f3, f4⟩ := HI2.out.num s2.l0[q] (List.getElem_mem hqL)
              have hy := fun h => HI2.out.young h s2.l0[q] (List.getElem_mem hqL)
              have he : fsAt s2 0 (q : Int) = (s2.l0[q], 0) := by
                show flAt s2.l0 (q : Int) = _
                unfold flAt
                rw [if_pos (by omega), Int.toNat_natCast, List.getD_eq_getElem?_getD, List.getElem?_eq_getElem hqL]
                rfl
              have E3 := E2.out (q : Int) ⟨by omega, by omega⟩
              rw [he] at E3
              have E3 := Lib.hid E3
              rw [HNP.out] at f2 hy
              clear he f3
              generalize s2.l0[q] = f at *
              obtain ⟨fn, fa, fb⟩ := f
              simp only at f1 f2 f4 hy
              obtain ⟨df, hdf⟩ : ∃ df, np - fn = df := ⟨_, rfl⟩
              rw [hdf] at hy
              have edf : (np : Int) - (fn : Int) = (df : Int) := by omega
              have dq0 := hy hl0
              have dq2 : decide ((lf : Int) ≤ (df : Int)) = false := by simp; omega
              have dq3 : ¬ ((lf : Int) ≤ (df : Int)) := by omega
              have dq4 : decide (lf ≤ df) = false := by simp; omega
              go_wp2_with (fail)
              refine (E3.out _ (KO.out _ U5).q).mono ?_
              rintro e w6 ⟨A1, c1, A2, c2, rfl, -, -, T6⟩
              simp only
              generalize fa.length = m1
              generalize fb.length = m2
              have U6 := nxt U5 T6
              have U6a := U6.alloc U6.size (.cells #[.int .i64 (fn : Int), .slice A1 m1 c1, .slice A2 m2 c2] 40)
              obtain ⟨r0, r1, r2⟩ := eq3 (heap_alloc_new w6 (.cells #[.int .i64 (fn : Int), .slice A1 m1 c1, .slice A2 m2 c2] 40))
              have look := (KO.out _ U6a).m.look (fn : Int) ⟨by omega, by omega⟩
              rw [f4] at look
              have dq1 : decide ((np : Int) < (fn : Int)) = false := by simp; omega
              clear r1 r2 hy hdf T6 U6 T5 f4
              go_wp2_with (fail)
              refine (HN.out _ _).mono ?_
              rintro e w7 ⟨rfl, rfl⟩
              go_wp2
              go_roundw
              case rel => exact ⟨q + 1, by omega, by go_num, U6a⟩
              case measure => simp [intOf]; omega
            · have d5 : decide ((q : Int) < (N : Int)) = false := by simp; omega
              have HOn := Lib.hid (KO.out _ U5)
              have hbn := hbz.trans (U5.mono hbz.size)
              go_wp2
              go_roundw
              case rel => exact ⟨j + 1, s2, ps, _, _, X2, by omega, by rw [HNP.out]; omega, by omega, by go_num, HOK2, HI2, HOn, hbn⟩
              case measure => simp [intOf]; omega
        · have dk2 : (xk == 2) = false := by simpa using hk2
          clear hk2
          by_cases hk1 : xk = 1
          · have dk1 : (xk == 1) = true := by simpa using hk1
            clear hk1
            have F1 := fun W h => C.take ga s 0 xa W X h ⟨by omega, by omega⟩ hxa
            by_cases hok : (fsAt s 0 xa).2 = 0
            · obtain ⟨jj, hxj, hjj, hat⟩ : ∃ jj : Nat, xa = (jj : Int) ∧ ∃ h : jj < s.l0.length, fsAt s 0 xa = (s.l0[jj], 0) := by
                rcases fsAt_ok hok with ⟨_, jj, h1, h2, h3⟩ | ⟨h0, _⟩
                · exact ⟨jj, h1, h2, h3⟩
                · omega
              have hst : fsTake s 0 xa = { s with l0 := s.l0.eraseIdx jj } := by unfold fsTake; rw [if_pos hok, if_pos rfl, hxj, Int.toNat_natCast]
              have HOK2 := Lib.hid (HOK.out.take 0 xa)
              have hi2 := HI.out.take jj hjj
              obtain ⟨f1, f2, f3, f4⟩ := HI.out.num s.l0[jj] (List.getElem_mem hjj)
              rw [← hst] at hi2
              rw [hat] at F1
              clear hok hat
              generalize fsTake s 0 xa = s2 at *
              clear hst
              generalize s.l0[jj] = fr at *
              obtain ⟨fn, fa, fb⟩ := fr
              simp only at f1 f2 f3 f4 hi2
              rw [HNP.out] at f2
              have HI2 := Lib.hid hi2
              have F1 := Lib.hid F1
              obtain ⟨f0, hf0⟩ : ∃ f0, fn - 1 = f0 := ⟨_, rfl⟩
              rw [hf0] at f3
              have hpf : ∃ h : f0 < ps.length, ps[f0] = fb := ⟨by rw [HNP.out]; omega, Option.some.inj ((List.getElem?_eq_getElem (by rw [HNP.out]; omega)).symm.trans f3)⟩
              have HPF := Lib.hid hpf
              have e0 : (fn : Int) - 1 = (f0 : Int) := by omega
              have hin : (f0 : Int) < (np : Int) := by omega
              have hf00 : (0 : Int) ≤ (f0 : Int) := by omega
              have hinn : f0 < np := by omega
              have hind : decide (f0 < np) = true := by simp; omega
              have hinD : decide ((f0 : Int) < (np : Int)) = true := by simp; omega
              have hw1 : IntKind.i64.wrap ((fn : Int) - 1) = (f0 : Int) := by rw [e0]; exact IntWalk.i64_in (f0 : Int) ⟨by omega, by omega⟩
              have hw2 : wrap64 ((fn : Int) - 1) = (f0 : Int) := by rw [e0]; exact IntWalk.wrap64_in (f0 : Int) ⟨by omega, by omega⟩
              have dfn : decide ((fn : Int) < 1) = false := by simp; omega
              have dfnn : ¬ ((fn : Int) < 1) := by omega
              have dfq : decide ((np : Int) < (fn : Int)) = false := by simp; omega
              have dfqn : ¬ ((np : Int) < (fn : Int)) := by omega
              have dfq2 : decide (np < fn) = false := by simp; omega
              have dfq3 : decide (fn < 1) = false := by simp; omega
              have hfi : I64k (fn : Int) := ⟨by omega, by omega⟩
              have HF4 := Lib.hid f4
              clear hxj hi2 hjj hf0 f3 hpf f4
              go_wp2_with (fail)
              generalize hwa : wr.alloc (.cells #[.int .i64 xk, .int .i64 xd, .int .i64 xa, .slice A' L c', .slice E' M ce'] 36) = wa at *
              clear hwa hxb
              clear c0 c1 c2 c3 c4
              refine (F1.out _ HOa.out.q).mono ?_
              rintro e w1 ⟨A1, d1', A2, d2', X2, rfl, -, g2, -, -, q1, t1⟩
              simp only at g2 ⊢
              obtain ⟨k1, k2⟩ := HOa.out.turn (C.holds _ _) q1 t1
              have HO1 := Lib.hid k1
              have hb1 := hba.trans k2
              have g2 := g2.1
              obtain ⟨m1, hm1⟩ : ∃ m, fa.length = m := ⟨_, rfl⟩
              obtain ⟨m2, hm2⟩ : ∃ m, fb.length = m := ⟨_, rfl⟩
              rw [hm2] at g2
              rw [hm1, hm2]
              have ba := (Below.refl _ w1).alloc (Nat.le_refl _) (.cells #[.int .i64 (fn : Int), .slice A1 m1 d1', .slice A2 m2 d2'] 40)
              have bF := g2.below ba
              have HO2 := Lib.hid (HO1.out.below (C.holds _ _) ba)
              have hb2 := hb1.alloc hb1.size (.cells #[.int .i64 (fn : Int), .slice A1 m1 d1', .slice A2 m2 d2'] 40)
              have G2 := heap_alloc_new w1 (.cells #[.int .i64 (fn : Int), .slice A1 m1 d1', .slice A2 m2 d2'] 40)
              obtain ⟨fx, hfx⟩ : ∃ fx, w1.heap.size = fx := ⟨_, rfl⟩
              rw [hfx] at G2
              have HG2 := Lib.hid G2
              obtain ⟨Pv', cv', hv', -, -, -, hcell⟩ := HO2.out.l.shape
              obtain ⟨b3, vs, hP, -, hb3, hvl, hvc, hRv⟩ := hcell (by rw [HNP.out]; omega)
              injection hv' with e1 e2 e3
              subst e1
              obtain ⟨hpl0, hpe⟩ := HPF.out
              have cL := hvc f0 (by omega)
              obtain ⟨A3, d3', kk1, kB, -⟩ := hRv.2 f0 (by omega) hpl0
              rw [kk1, hpe, hm2] at cL
              rw [hpe, hm2] at kB
              subst hP
              have HSQ := Lib.hid (fun k => same_self A2 A3 m2 d2' m2 d3' fb ((w1.alloc (.cells #[.int .i64 (fn : Int), .slice A1 m1 d1', .slice A2 m2 d2'] 40)).drewN k) (bF.drewN k) (kB.drewN k))
              have K := Lib.hid (fun W (U : Below (w1.alloc (.cells #[.int .i64 (fn : Int), .slice A1 m1 d1', .slice A2 m2 d2'] 40)).heap.size (w1.alloc (.cells #[.int .i64 (fn : Int), .slice A1 m1 d1', .slice A2 m2 d2'] 40)) W) => And.intro (eq3 ((U.block _ (lt_row HG2.out)).trans HG2.out)).1 (And.intro (eq3 ((U.block _ (lt_row HG2.out)).trans HG2.out)).2.2 ((U.cell (p := ⟨b3, f0, none⟩) hb3).trans cL)))
              have HLK := Lib.hid (fun W (U : Below (w1.alloc (.cells #[.int .i64 (fn : Int), .slice A1 m1 d1', .slice A2 m2 d2'] 40)).heap.size (w1.alloc (.cells #[.int .i64 (fn : Int), .slice A1 m1 d1', .slice A2 m2 d2'] 40)) W) => (show (Instr.lookup 51 (.map (some mb)) (.int .i64 (fn : Int)) false).run Try.prog W = .ok (.bool false) W from by
                have h := (HO2.out.below (C.holds _ _) U).m.look (fn : Int) hfi
                rw [HF4.out] at h
                exact h))
              clear q1 t1 k1 k2 g2 ba bF G2 hcell hvl hvc hRv kk1 kB cL e2 e3 hm1 hm2 hpe hpl0 F1 HO1 hb1
              go_wp2_with (fail)
              generalize hwf : w1.alloc (.cells #[.int .i64 (fn : Int), .slice A1 m1 d1', .slice A2 m2 d2'] 40) = wf at *
              clear hwf hfx
              refine (HN.out _ _).mono ?_
              rintro e w2 ⟨rfl, rfl⟩
              have P0 := (Below.refl wf.heap.size wf)
              have lk := fun k => HLK.out _ (below_drewN' P0 k)
              obtain ⟨cf0, cf2, cb3⟩ := K.out _ P0
              go_wp2_with (fail)
              go_quiet ((go_at_call 20; refine Calls.quiet_of (HSQ.out _)))
              have Z1 := below_drewN' P0 nq
              all_goals
                have HO3 := Lib.hid (HO2.out.below (C.holds _ _) Z1)
                obtain ⟨w3, hrun, hset, hgr⟩ := HO3.out.m.put (by unfold maxLen; omega) (fn : Int) hfi
                obtain ⟨k1, k2⟩ := HO3.out.marked (C.holds _ _) hset hgr
                have HOz := Lib.hid k1
                have hbz := (hb2.trans (Z1.mono hb2.size)).trans k2
                have cf := (K.out _ Z1).1
                clear hset hgr k1 k2 lk P0 cf0 cf2 cb3
                go_wp2_with (fail)
                clear hrun cf Z1 HSQ K HLK HO2 HO3 HG2
                generalize w3 = wz at *
                have E1 := fun W h => C.len ga s2 0 W X2 h ⟨by omega, by omega⟩
                have E2 := Lib.hid (fun k (hk : I64 k) W h => C.at_ ga s2 0 k W X2 h ⟨by omega, by omega⟩ hk)
                obtain ⟨N, hN⟩ : ∃ N, s2.l0.length = N := ⟨_, rfl⟩
                have HNL := Lib.hid hN
                rw [show fsLen s2 0 = s2.l0.length from rfl, hN] at E1
                have E1 := Lib.hid E1
                have hN97 : N ≤ 1000 := by have := HOK2.out.2.2; have := HOK2.out.1; have := HOK2.out.2.1; omega
                have KO := Lib.hid (fun W (U : Below wz.heap.size wz W) => HOz.out.below (C.holds _ _) U)
                have dn0 : N ≤ lf := hN ▸ HI2.out.few hl0
                have dn : decide ((lf : Int) < (N : Int)) = false := by simp; omega
                have dnp : ¬ ((lf : Int) < (N : Int)) := by omega
                have dnn : decide (lf < N) = false := by simp; omega
                clear hN
                go_wp2_with (fail)
                refine (E1.out _ HOz.out.q).mono ?_
                rintro e wy ⟨rfl, PZ⟩
                go_wp2_with (fail)
                go_loopw [13] (fun k wr2 => ∃ q : Nat, q ≤ N ∧ k = .int .i64 (q : Int) ∧ Below wz.heap.size wz wr2) (fun k _ => N - (intOf k).toNat)
                case atStart => exact ⟨0, Nat.zero_le _, rfl, PZ⟩
                case round =>
                  clear PZ
                  obtain ⟨q, hq, rfl, hbq⟩ := hrel
                  go_wp2_with (fail)
                  refine (E1.out _ (KO.out _ hbq).q).mono ?_
                  rintro e w5 ⟨rfl, T5⟩
                  have U5 := nxt hbq T5
                  by_cases hqN : q < N
                  · have d5 : decide ((q : Int) < (N : Int)) = true := by simp; omega
                    have hqL : q < s2.l0.length := by rw [HNL.out]; exact hqN
                    obtain ⟨f1, f2, f3, f4⟩ := HI2.out.num s2.l0[q] (List.getElem_mem hqL)
                    have hy := fun h => HI2.out.young h s2.l0[q] (List.getElem_mem hqL)
                    have he : fsAt s2 0 (q : Int) = (s2.l0[q], 0) := by
                      show flAt s2.l0 (q : Int) = _
                      unfold flAt
                      rw [if_pos (by omega), Int.toNat_natCast, List.getD_eq_getElem?_getD, List.getElem?_eq_getElem hqL]
                      rfl
                    have E3 := E2.out (q : Int) ⟨by omega, by omega⟩
                    rw [he] at E3
                    have E3 := Lib.hid E3
                    rw [HNP.out] at f2 hy
                    clear he f3
                    generalize s2.l0[q] = f at *
                    obtain ⟨fn, fa, fb⟩ := f
                    simp only at f1 f2 f4 hy
                    obtain ⟨df, hdf⟩ : ∃ df, np - fn = df := ⟨_, rfl⟩
                    rw [hdf] at hy
                    have edf : (np : Int) - (fn : Int) = (df : Int) := by omega
                    have dq0 := hy hl0
                    have dq2 : decide ((lf : Int) ≤ (df : Int)) = false := by simp; omega
                    have dq3 : ¬ ((lf : Int) ≤ (df : Int)) := by omega
                    have dq4 : decide (lf ≤ df) = false := by simp; omega
                    go_wp2_with (fail)
                    refine (E3.out _ (KO.out _ U5).q).mono ?_
                    rintro e w6 ⟨A1, c1, A2, c2, rfl, -, -, T6⟩
                    simp only
                    generalize fa.length = m1
                    generalize fb.length = m2
                    have U6 := nxt U5 T6
                    have U6a := U6.alloc U6.size (.cells #[.int .i64 (fn : Int), .slice A1 m1 c1, .slice A2 m2 c2] 40)
                    obtain ⟨r0, r1, r2⟩ := eq3 (heap_alloc_new w6 (.cells #[.int .i64 (fn : Int), .slice A1 m1 c1, .slice A2 m2 c2] 40))
                    have look := (KO.out _ U6a).m.look (fn : Int) ⟨by omega, by omega⟩
                    rw [f4] at look
                    have dq1 : decide ((np : Int) < (fn : Int)) = false := by simp; omega
                    clear r1 r2 hy hdf T6 U6 T5 f4
                    go_wp2_with (fail)
                    refine (HN.out _ _).mono ?_
                    rintro e w7 ⟨rfl, rfl⟩
                    go_wp2
                    go_roundw
                    case rel => exact ⟨q + 1, by omega, by go_num, U6a⟩
                    case measure => simp [intOf]; omega
                  · have d5 : decide ((q : Int) < (N : Int)) = false := by simp; omega
                    have HOn := Lib.hid (KO.out _ U5)
                    have hbn := hbz.trans (U5.mono hbz.size)
                    go_wp2
                    go_roundw
                    case rel => exact ⟨j + 1, s2, ps, _, _, X2, by omega, by rw [HNP.out]; omega, by omega, by go_num, HOK2, HI2, HOn, hbn⟩
                    case measure => simp [intOf]; omega
            · have hst : fsTake s 0 xa = s := by unfold fsTake; rw [if_neg hok]
              simp only [hst] at F1
              have HOK2 := Lib.hid (SOk.more HOK.out)
              have HI2 := HI
              have dpe : (((fsAt s 0 xa).2 : Int) == 0) = false := by simp; omega
              clear hst hok
              generalize fsAt s 0 xa = r at *
              obtain ⟨⟨fn, fa, fb⟩, re⟩ := r
              simp only at dpe
              have F1 := Lib.hid F1
              go_wp2_with (fail)
              generalize hwa : wr.alloc (.cells #[.int .i64 xk, .int .i64 xd, .int .i64 xa, .slice A' L c', .slice E' M ce'] 36) = wa at *
              clear hwa hxb
              clear c0 c1 c2 c3 c4
              refine (F1.out _ HOa.out.q).mono ?_
              rintro e w1 ⟨A1, d1', A2, d2', X2, rfl, -, -, -, -, q1, t1⟩
              simp only
              generalize fa.length = m1
              generalize fb.length = m2
              obtain ⟨k1, k2⟩ := HOa.out.turn (C.holds _ _) q1 t1
              have ba := (Below.refl _ w1).alloc (Nat.le_refl _) (.cells #[.int .i64 (fn : Int), .slice A1 m1 d1', .slice A2 m2 d2'] 40)
              have HOz := Lib.hid (k1.below (C.holds _ _) ba)
              have hb1 := hba.trans k2
              have hbz := hb1.alloc hb1.size (.cells #[.int .i64 (fn : Int), .slice A1 m1 d1', .slice A2 m2 d2'] 40)
              clear q1 t1 k1 k2 ba
              go_wp2_with (fail)
              refine (HN.out _ _).mono ?_
              rintro e w2 ⟨rfl, rfl⟩
              generalize w1.alloc (.cells #[.int .i64 (fn : Int), .slice A1 m1 d1', .slice A2 m2 d2'] 40) = wz at *
              obtain ⟨s2, hs2⟩ : ∃ x, x = s := ⟨_, rfl⟩
              rw [← hs2] at HOz HOK2 HI2
              clear hs2
              go_wp2_with (fail)
              have E1 := fun W h => C.len ga s2 0 W X2 h ⟨by omega, by omega⟩
              have E2 := Lib.hid (fun k (hk : I64 k) W h => C.at_ ga s2 0 k W X2 h ⟨by omega, by omega⟩ hk)
              obtain ⟨N, hN⟩ : ∃ N, s2.l0.length = N := ⟨_, rfl⟩
              have HNL := Lib.hid hN
              rw [show fsLen s2 0 = s2.l0.length from rfl, hN] at E1
              have E1 := Lib.hid E1
              have hN97 : N ≤ 1000 := by have := HOK2.out.2.2; have := HOK2.out.1; have := HOK2.out.2.1; omega
              have KO := Lib.hid (fun W (U : Below wz.heap.size wz W) => HOz.out.below (C.holds _ _) U)
              have dn0 : N ≤ lf := hN ▸ HI2.out.few hl0
              have dn : decide ((lf : Int) < (N : Int)) = false := by simp; omega
              have dnp : ¬ ((lf : Int) < (N : Int)) := by omega
              have dnn : decide (lf < N) = false := by simp; omega
              clear hN
              go_wp2_with (fail)
              refine (E1.out _ HOz.out.q).mono ?_
              rintro e wy ⟨rfl, PZ⟩
              go_wp2_with (fail)
              go_loopw [13] (fun k wr2 => ∃ q : Nat, q ≤ N ∧ k = .int .i64 (q : Int) ∧ Below wz.heap.size wz wr2) (fun k _ => N - (intOf k).toNat)
              case atStart => exact ⟨0, Nat.zero_le _, rfl, PZ⟩
              case round =>
                clear PZ
                obtain ⟨q, hq, rfl, hbq⟩ := hrel
                go_wp2_with (fail)
                refine (E1.out _ (KO.out _ hbq).q).mono ?_
                rintro e w5 ⟨rfl, T5⟩
                have U5 := nxt hbq T5
                by_cases hqN : q < N
                · have d5 : decide ((q : Int) < (N : Int)) = true := by simp; omega
                  have hqL : q < s2.l0.length := by rw [HNL.out]; exact hqN
                  obtain ⟨f1, f2, f3, f4⟩ := HI2.out.num s2.l0[q] (List.getElem_mem hqL)
                  have hy := fun h => HI2.out.young h s2.l0[q] (List.getElem_mem hqL)
                  have he : fsAt s2 0 (q : Int) = (s2.l0[q], 0) := by
                    show flAt s2.l0 (q : Int) = _
                    unfold flAt
                    rw [if_pos (by omega), Int.toNat_natCast, List.getD_eq_getElem?_getD, List.getElem?_eq_getElem hqL]
                    rfl
                  have E3 := E2.out (q : Int) ⟨by omega, by omega⟩
                  rw [he] at E3
                  have E3 := Lib.hid E3
                  rw [HNP.out] at f2 hy
                  clear he f3
                  generalize s2.l0[q] = f at *
                  obtain ⟨fn, fa, fb⟩ := f
                  simp only at f1 f2 f4 hy
                  obtain ⟨df, hdf⟩ : ∃ df, np - fn = df := ⟨_, rfl⟩
                  rw [hdf] at hy
                  have edf : (np : Int) - (fn : Int) = (df : Int) := by omega
                  have dq0 := hy hl0
                  have dq2 : decide ((lf : Int) ≤ (df : Int)) = false := by simp; omega
                  have dq3 : ¬ ((lf : Int) ≤ (df : Int)) := by omega
                  have dq4 : decide (lf ≤ df) = false := by simp; omega
                  go_wp2_with (fail)
                  refine (E3.out _ (KO.out _ U5).q).mono ?_
                  rintro e w6 ⟨A1, c1, A2, c2, rfl, -, -, T6⟩
                  simp only
                  generalize fa.length = m1
                  generalize fb.length = m2
                  have U6 := nxt U5 T6
                  have U6a := U6.alloc U6.size (.cells #[.int .i64 (fn : Int), .slice A1 m1 c1, .slice A2 m2 c2] 40)
                  obtain ⟨r0, r1, r2⟩ := eq3 (heap_alloc_new w6 (.cells #[.int .i64 (fn : Int), .slice A1 m1 c1, .slice A2 m2 c2] 40))
                  have look := (KO.out _ U6a).m.look (fn : Int) ⟨by omega, by omega⟩
                  rw [f4] at look
                  have dq1 : decide ((np : Int) < (fn : Int)) = false := by simp; omega
                  clear r1 r2 hy hdf T6 U6 T5 f4
                  go_wp2_with (fail)
                  refine (HN.out _ _).mono ?_
                  rintro e w7 ⟨rfl, rfl⟩
                  go_wp2
                  go_roundw
                  case rel => exact ⟨q + 1, by omega, by go_num, U6a⟩
                  case measure => simp [intOf]; omega
                · have d5 : decide ((q : Int) < (N : Int)) = false := by simp; omega
                  have HOn := Lib.hid (KO.out _ U5)
                  have hbn := hbz.trans (U5.mono hbz.size)
                  go_wp2
                  go_roundw
                  case rel => exact ⟨j + 1, s2, ps, _, _, X2, by omega, by rw [HNP.out]; omega, by omega, by go_num, HOK2, HI2, HOn, hbn⟩
                  case measure => simp [intOf]; omega
          · have dk1 : (xk == 1) = false := by simpa using hk1
            clear hk1
            go_wp2_with (fail)
            generalize hwa : wr.alloc (.cells #[.int .i64 xk, .int .i64 xd, .int .i64 xa, .slice A' L c', .slice E' M ce'] 36) = wa at *
            clear hwa hxb
            clear c0 c1 c2 c3 c4
            have HOz := HOa
            have hbz := hba
            have HOK2 := Lib.hid (SOk.more HOK.out)
            have HI2 := HI
            obtain ⟨s2, hs2⟩ : ∃ x, x = s := ⟨_, rfl⟩
            rw [← hs2] at HOz HOK2 HI2
            clear hs2
            obtain ⟨X2, hX2⟩ : ∃ x, x = X := ⟨_, rfl⟩
            rw [← hX2] at HOz
            clear hX2
            generalize wa = wz at *
            have E1 := fun W h => C.len ga s2 0 W X2 h ⟨by omega, by omega⟩
            have E2 := Lib.hid (fun k (hk : I64 k) W h => C.at_ ga s2 0 k W X2 h ⟨by omega, by omega⟩ hk)
            obtain ⟨N, hN⟩ : ∃ N, s2.l0.length = N := ⟨_, rfl⟩
            have HNL := Lib.hid hN
            rw [show fsLen s2 0 = s2.l0.length from rfl, hN] at E1
            have E1 := Lib.hid E1
            have hN97 : N ≤ 1000 := by have := HOK2.out.2.2; have := HOK2.out.1; have := HOK2.out.2.1; omega
            have KO := Lib.hid (fun W (U : Below wz.heap.size wz W) => HOz.out.below (C.holds _ _) U)
            have dn0 : N ≤ lf := hN ▸ HI2.out.few hl0
            have dn : decide ((lf : Int) < (N : Int)) = false := by simp; omega
            have dnp : ¬ ((lf : Int) < (N : Int)) := by omega
            have dnn : decide (lf < N) = false := by simp; omega
            clear hN
            go_wp2_with (fail)
            refine (E1.out _ HOz.out.q).mono ?_
            rintro e wy ⟨rfl, PZ⟩
            go_wp2_with (fail)
            go_loopw [13] (fun k wr2 => ∃ q : Nat, q ≤ N ∧ k = .int .i64 (q : Int) ∧ Below wz.heap.size wz wr2) (fun k _ => N - (intOf k).toNat)
            case atStart => exact ⟨0, Nat.zero_le _, rfl, PZ⟩
            case round =>
              clear PZ
              obtain ⟨q, hq, rfl, hbq⟩ := hrel
              go_wp2_with (fail)
              refine (E1.out _ (KO.out _ hbq).q).mono ?_
              rintro e w5 ⟨rfl, T5⟩
              have U5 := nxt hbq T5
              by_cases hqN : q < N
              · have d5 : decide ((q : Int) < (N : Int)) = true := by simp; omega
                have hqL : q < s2.l0.length := by rw [HNL.out]; exact hqN
                obtain ⟨f1, f2, f3, f4⟩ := HI2.out.num s2.l0[q] (List.getElem_mem hqL)
                have hy := fun h => HI2.out.young h s2.l0[q] (List.getElem_mem hqL)
                have he : fsAt s2 0 (q : Int) = (s2.l0[q], 0) := by
                  show flAt s2.l0 (q : Int) = _
                  unfold flAt
                  rw [if_pos (by omega), Int.toNat_natCast, List.getD_eq_getElem?_getD, List.getElem?_eq_getElem hqL]
                  rfl
                have E3 := E2.out (q : Int) ⟨by omega, by omega⟩
                rw [he] at E3
                have E3 := Lib.hid E3
                rw [HNP.out] at f2 hy
                clear he f3
                generalize s2.l0[q] = f at *
                obtain ⟨fn, fa, fb⟩ := f
                simp only at f1 f2 f4 hy
                obtain ⟨df, hdf⟩ : ∃ df, np - fn = df := ⟨_, rfl⟩
                rw [hdf] at hy
                have edf : (np : Int) - (fn : Int) = (df : Int) := by omega
                have dq0 := hy hl0
                have dq2 : decide ((lf : Int) ≤ (df : Int)) = false := by simp; omega
                have dq3 : ¬ ((lf : Int) ≤ (df : Int)) := by omega
                have dq4 : decide (lf ≤ df) = false := by simp; omega
                go_wp2_with (fail)
                refine (E3.out _ (KO.out _ U5).q).mono ?_
                rintro e w6 ⟨A1, c1, A2, c2, rfl, -, -, T6⟩
                simp only
                generalize fa.length = m1
                generalize fb.length = m2
                have U6 := nxt U5 T6
                have U6a := U6.alloc U6.size (.cells #[.int .i64 (fn : Int), .slice A1 m1 c1, .slice A2 m2 c2] 40)
                obtain ⟨r0, r1, r2⟩ := eq3 (heap_alloc_new w6 (.cells #[.int .i64 (fn : Int), .slice A1 m1 c1, .slice A2 m2 c2] 40))
                have look := (KO.out _ U6a).m.look (fn : Int) ⟨by omega, by omega⟩
                rw [f4] at look
                have dq1 : decide ((np : Int) < (fn : Int)) = false := by simp; omega
                clear r1 r2 hy hdf T6 U6 T5 f4
                go_wp2_with (fail)
                refine (HN.out _ _).mono ?_
                rintro e w7 ⟨rfl, rfl⟩
                go_wp2
                go_roundw
                case rel => exact ⟨q + 1, by omega, by go_num, U6a⟩
                case measure => simp [intOf]; omega
              · have d5 : decide ((q : Int) < (N : Int)) = false := by simp; omega
                have HOn := Lib.hid (KO.out _ U5)
                have hbn := hbz.trans (U5.mono hbz.size)
                go_wp2
                go_roundw
                case rel => exact ⟨j + 1, s2, ps, _, _, X2, by omega, by rw [HNP.out]; omega, by omega, by go_num, HOK2, HI2, HOn, hbn⟩
                case measure => simp [intOf]; omega
    · have d0 : decide ((j : Int) < (n : Int)) = false := by simp; omega
      have d1 : ¬ ((j : Int) < (n : Int)) := by omega
      go_wp2_with (fail)
      refine (HL.out _).mono ?_
      rintro e w4 ⟨rfl, T4⟩
      have T4 := nxt hbel T4
      go_wp2
      go_ret
      exact ⟨rfl, T4⟩
end Go.Proofs.Ytgppoapdpgblmaa
