/- The walk of layer 28's GiverOnce, over the contracts of giver and nonce. -/
import Derived.Test.YtoajbocpebfjoaaGiP
import Derived.Deep.RegionHeld3
import Derived.Deep.CutRange
import Derived.IntWalk
namespace Go.Proofs.Ytoajbocpebfjoaa
open Go.RowKit
set_option maxRecDepth 20000

theorem LwR.start {B : Nat} {P : World → (Nat → Prop) → Prop} {X : Nat → Prop} {w : World} (H : Holds P) (h : OneAt B P X w) :
    OneAt B P X ((w.alloc (.map #[] 0)).alloc (.map #[] 0)) ∧ LwR B ((w.alloc (.map #[] 0)).alloc (.map #[] 0)) X w.heap.size (w.heap.size + 1) 0 (fun _ => none) (fun _ => false) (.slice none 0 0) [] ∧ Below B w ((w.alloc (.map #[] 0)).alloc (.map #[] 0)) := by
  have T1 := (Below.refl _ w).alloc (Nat.le_refl _) (.map #[] 0)
  have T2 := (Below.refl _ (w.alloc (.map #[] 0))).alloc (Nat.le_refl _) (.map #[] 0)
  have T := nxt T1 T2
  have hlt := H.lt h.1
  have hs : (w.alloc (.map #[] 0)).heap.size = w.heap.size + 1 := by simp
  have h1 := (MapO.made w).off (X := fun _ => False) (Off.of_below T2) (fun h => h)
  have h2 := MapB.made (w.alloc (.map #[] 0))
  rw [hs] at h2
  exact ⟨h.below H T, ⟨⟨0, Nat.le_refl _, h1⟩, ⟨0, Nat.le_refl _, h2⟩, OwnU.nil _ _, ⟨h.2.2, by have := h.2.2; omega, by omega⟩, fun k hk => (nomatch hk), fun hx => by have := hlt _ hx; omega, fun hx => by have := hlt _ hx; omega, fun k hk => (nomatch hk)⟩, T.mono h.2.2⟩
set_option maxHeartbeats 32000000 in
theorem walk_GiverOnce {S : Nat → List Nat → Nat → World → (Nat → Prop) → Prop} (NC : NoC S) {G : Nat → Nat → Gvs → World → (Nat → Prop) → Prop} (C : GiC S G) (Ad : Option Addr) (nd cd : Nat) (ld : List Nat) (A : Option Addr) (n c : Nat) (l : List Act28) (w : World) (hUd : Us w Ad nd cd ld) (hld : ∀ x ∈ ld, x < 18446744073709551616) (hnd : nd ≤ 17592186043904) (hR : Recs rdAct28 6 w A n c l) :
    Calls Try.prog 4 #[.slice Ad nd cd, .slice A n c] w fun e w' => e = .returned (.bool true) ∧ Below w.heap.size w w' := by
  have HL := Lib.hid (fun W => live28_any NC C W)
  have HU := Lib.hid (fun W (U : Below w.heap.size w W) => huge28_any A n c l Ad nd cd W (hR.below keeps28 U))
  have HN := Lib.hid num28_any
  have hlen := hR.1
  have hnc := hR.2.1
  have hcm := hR.2.2.1
  unfold maxLen at hcm
  have HC := Lib.hid hR.2.2.2
  have HLN := Lib.hid hlen
  have HFW := Lib.hid (fun h => huge28_few (l := l) (m := nd) h)
  have HNW := Lib.hid (NC.new Ad nd cd ld w hUd hld hnd)
  have G1 := Lib.hid (fun gs W Xs h => C.new_yes 3 gs ld 0 W Xs (by omega) (by omega) h hld (by omega))
  have HF0 := Lib.hid (GvFew.new 3 ld (by omega) (by omega) hld)
  have HI0 := Lib.hid (GvI.new 3 ld)
  clear hR hlen hUd hld hnd
  generalize huge28 l nd = hu at *
  cases hu with
  | true =>
    go_enter Try.func4, Try.ntmps4
    go_wp2_with (fail)
    refine HNW.out.mono ?_
    rintro e w1 ⟨gs, Xs, rfl, q1, x1, T1⟩
    have O1 : Hid (OneAt w.heap.size (S gs ld 0) Xs w1) := ⟨q1, x1, T1.size⟩
    clear q1 x1
    go_wp2_with (fail)
    refine (G1.out gs _ Xs O1.out.p).mono ?_
    rintro e w2 ⟨ga, X0, rfl, q2, t2⟩
    have U2 := T1.trans (O1.out.turn q2 t2).2
    clear q2 t2 O1 T1
    go_wp2_with (fail)
    refine (HU.out _ U2).mono ?_
    rintro e w3 ⟨rfl, T3⟩
    have U3 := nxt U2 T3
    go_wp2_with (fail)
    refine (HL.out _).mono ?_
    rintro e w9 ⟨rfl, T9⟩
    have U9 := nxt U3 T9
    go_wp2
    go_ret
    exact ⟨rfl, U9⟩
  | false =>
    have hn100 : n ≤ 100 := by have := (HFW.out rfl).1.1; rw [HLN.out] at this; exact this
    clear HFW
    have hmm := @run_makeMap Try.prog
    go_enter Try.func4, Try.ntmps4
    go_wp2_with (fail)
    refine HNW.out.mono ?_
    rintro e w1 ⟨gs, Xs, rfl, q1, x1, T1⟩
    have O1 : Hid (OneAt w.heap.size (S gs ld 0) Xs w1) := ⟨q1, x1, T1.size⟩
    clear q1 x1
    go_wp2_with (fail)
    refine (G1.out gs _ Xs O1.out.p).mono ?_
    rintro e w2 ⟨ga, X0, rfl, q2, t2⟩
    obtain ⟨o2, b2⟩ := O1.out.turn (P' := G ga gs ⟨3, [], ld, 0 + 1, nx ld 0, false, false, 0, 0, 0, 0, 0⟩) q2 t2
    have O2 := Lib.hid o2
    have U2 := T1.trans b2
    clear q2 t2 O1 T1 o2 b2
    go_wp2_with (fail)
    refine (HU.out _ U2).mono ?_
    rintro e w3 ⟨rfl, T3⟩
    have O3 := Lib.hid (O2.out.below (C.holds _ _ _) T3)
    have U3 := nxt U2 T3
    clear O2 U2 T3
    go_wp2_with (fail)
    refine (HN.out _ _).mono ?_
    rintro e w4 ⟨rfl, rfl⟩
    obtain ⟨k1, k2, k3⟩ := LwR.start (C.holds _ _ _) O3.out
    have HK1 := Lib.hid k1
    have HK2 := Lib.hid k2
    have U4 := U3.trans k3
    clear k1 k2 k3 O3 U3
    go_wp2_with (fail)
    generalize (w3.alloc (.map #[] 0)).alloc (.map #[] 0) = W4 at *
    generalize w3.heap.size + 1 = bu at *
    generalize w3.heap.size = bm at *
    go_loopw [10, 11] (fun v10 v11 wr => ∃ (j : Nat) (s : Gvs) (X : Nat → Prop) (told : Nat → Option Nat) (used : Nat → Bool) (ins : List Nat), j ≤ n ∧ v11 = .int .i64 (j : Int) ∧ Hid (GvFew j s) ∧ Hid (GvI s told used ins) ∧ Hid (OneAt w.heap.size (G ga gs s) X wr) ∧ Hid (LwR w.heap.size wr X bm bu j told used v10 ins) ∧ Below w.heap.size w wr) (fun _ v11 _ => n - (intOf v11).toNat)
    case atStart => exact ⟨0, _, X0, _, _, _, Nat.zero_le _, rfl, HF0, HI0, HK1, HK2, U4⟩
    case round =>
      clear HK1 HK2 U4 HF0 HI0
      obtain ⟨j, s, X, told, used, ins, hj, rfl, HF, HI, HO, HW, hbel⟩ := hrel
      by_cases hlt : j < n
      · have d0 : decide ((j : Int) < (n : Int)) = true := by simp; omega
        have d0n : decide (j < n) = true := by simp; omega
        have hjl : j < l.length := by rw [HLN.out]; exact hlt
        obtain ⟨b, o, rfl, hb, hc⟩ := HC.out (by omega)
        obtain ⟨⟨hxk, hpk, hpT, hpC, hpR⟩, D', d', q0, q1, q2, q3, q4, q5, qD⟩ := hc j hjl
        have hjn : (j : Int) < (n : Int) := by omega
        have HROUND := Lib.hid (fun (hap : Apt (gvAct s l[j]).l (gvAct s l[j]).k) => HI.out.round l[j] hap)
        have HF2 := Lib.hid (HF.out.act (by omega) l[j] hpT)
        have HTO := Lib.hid (gvActL_ok HF.out.1 l[j] hpT (by have := HF.out.2.1; omega))
        have hact0 : l[j].1 = 0 → gvAct s l[j] = gvTake s l[j].2.1 l[j].2.2.1 l[j].2.2.2.1 l[j].2.2.2.2.2 ∧ gvActL s l[j] = gvTakeL s l[j].2.1 l[j].2.2.1 l[j].2.2.2.1 := fun h => ⟨by unfold gvAct; rw [if_pos h], by unfold gvActL; rw [if_pos h]⟩
        have hact1 : l[j].1 = 1 → gvAct s l[j] = gvRecv s ∧ gvActL s l[j] = gvRecvL s := fun h => ⟨by unfold gvAct; rw [if_neg (by omega), if_pos h], by unfold gvActL; rw [if_neg (by omega), if_pos h]⟩
        have hact2 : l[j].1 ≠ 0 → l[j].1 ≠ 1 → gvAct s l[j] = s ∧ gvActL s l[j] = [] := fun h h' => ⟨by unfold gvAct; rw [if_neg h, if_neg h'], by unfold gvActL; rw [if_neg h, if_neg h']⟩
        generalize gvAct s l[j] = s2 at *
        generalize gvActL s l[j] = lo at *
        unfold GvA at HROUND
        clear hc
        generalize l[j] = x at *
        obtain ⟨xk, pk, pT, pC, pR, pd⟩ := x
        simp only at hxk hpk hpT hpC hpR q0 q1 q2 q3 q4 q5 qD hact0 hact1 hact2 HROUND
        obtain ⟨M, hM⟩ : ∃ M, pd.length = M := ⟨_, rfl⟩
        rw [hM] at q5 qD
        clear hM
        have DM := Lib.hid (fun W (U : Below w.heap.size w W) => qD.below U)
        have hav : ∀ Z : Nat → Prop, (∀ k, Z k → w.heap.size ≤ k) → Av Z M D' := fun Z hZ hn p e hx => by
          obtain ⟨b9, o9, e', hb9, _⟩ := qD.at_ hn
          rw [e] at e'
          injection e' with e'
          subst e'
          have : w.heap.size ≤ b9 := hZ _ hx
          omega
        have HAV := Lib.hid hav
        have KX := Lib.hid (fun W (U : Below w.heap.size w W) => And.intro ((U.cell (p := ⟨b, o + j * 6, none⟩) hb).trans q0) (And.intro ((U.cell (p := ⟨b, o + j * 6 + 1, none⟩) hb).trans q1) (And.intro ((U.cell (p := ⟨b, o + j * 6 + 2, none⟩) hb).trans q2) (And.intro ((U.cell (p := ⟨b, o + j * 6 + 3, none⟩) hb).trans q3) (And.intro ((U.cell (p := ⟨b, o + j * 6 + 4, none⟩) hb).trans q4) ((U.cell (p := ⟨b, o + j * 6 + 5, none⟩) hb).trans q5))))))
        obtain ⟨P10, c10, rfl, us10, -⟩ := HW.out.2.2.1.shape
        have huc := us10.le
        obtain ⟨L10, hL10⟩ : ∃ L, ins.length = L := ⟨_, rfl⟩
        have HL10 := Lib.hid hL10
        rw [hL10] at HW huc ⊢
        clear q0 q1 q2 q3 q4 q5 qD hav us10 hL10
        have HS := Lib.hid (C.state ga gs s _ X HO.out.p)
        go_wp2_with (fail)
        refine HS.out.mono ?_
        rintro e w5 ⟨rfl, T5⟩
        obtain ⟨g5, b5⟩ := GoS.start (Z := (.cells #[.int .i64 (s.ent : Int), .int .i64 (s.ret : Int), .int .u64 (s.r : Int)] 51)) (HO.out.below (C.holds _ _ _) T5) (C.holds _ _ _) (HW.out.below T5)
        have HG5 := Lib.hid g5
        have U5 := (nxt hbel T5).trans b5
        obtain ⟨xb, hxb⟩ : ∃ xb, w5.heap.size = xb := ⟨_, rfl⟩
        rw [hxb] at HG5
        have hs5 : xb < (w5.alloc (.cells #[.int .i64 (s.ent : Int), .int .i64 (s.ret : Int), .int .u64 (s.r : Int)] 51)).heap.size := obrow_lt HG5.out.2.2.1
        have hbm5 := HG5.out.2.1.bm_lt
        have hbu5 := HG5.out.2.1.bu_lt
        obtain ⟨SZ, hSZ⟩ : ∃ SZ, (w5.alloc (.cells #[.int .i64 (s.ent : Int), .int .i64 (s.ret : Int), .int .u64 (s.r : Int)] 51)).heap.size = SZ := ⟨_, rfl⟩
        have HSZ := Lib.hid hSZ
        rw [hSZ] at hs5 hbm5 hbu5
        obtain ⟨k0, -⟩ := KX.out _ U5
        clear g5 b5 T5 HO HW hbel HS hSZ
        obtain ⟨s1, lo1, hy1, hn1⟩ : ∃ (s1 : Gvs) (lo1 : List Tok), (xk = 0 → s1 = gvTake s pk pT pC pd ∧ lo1 = gvTakeL s pk pT pC) ∧ (xk ≠ 0 → s1 = s ∧ lo1 = []) := by
          by_cases h : xk = 0
          · exact ⟨_, _, fun _ => ⟨rfl, rfl⟩, fun h' => absurd h h'⟩
          · exact ⟨_, _, fun h' => absurd h' h, fun _ => ⟨rfl, rfl⟩⟩
        have HY1 := Lib.hid hy1
        have HN1 := Lib.hid hn1
        have HA0 := Lib.hid hact0
        have HA1 := Lib.hid hact1
        have HA2 := Lib.hid hact2
        clear hy1 hn1 hact0 hact1 hact2
        go_upto_if 52 with (fail)
        generalize w5.alloc (.cells #[.int .i64 (s.ent : Int), .int .i64 (s.ret : Int), .int .u64 (s.r : Int)] 51) = W5 at *
        go_cut [13] from 39 to 194 (fun v13 wx => ∃ X2 A2 n2 c2, v13 = .slice A2 n2 c2 ∧ Hid (Tks wx (· < SZ) A2 n2 c2 lo1) ∧ Hid (GoS w.heap.size (G ga gs s1) X2 bm bu j told used (.slice P10 L10 c10) ins xb (.cells #[.int .i64 (s.ent : Int), .int .i64 (s.ret : Int), .int .u64 (s.r : Int)] 51) wx) ∧ Below w.heap.size w wx ∧ SZ ≤ wx.heap.size)
        case first =>
          by_cases hk0 : xk = 0
          · have dk0 : (xk == 0) = true := by simpa using hk0
            obtain ⟨e1, e2⟩ := HY1.out hk0
            have HT := Lib.hid (C.take ga gs s pk pT pC pR D' M d' pd _ X HG5.out.1.1 HF.out.1 (by have := HF.out.2.1; omega) (by have := HF.out.2.2.1; omega) hpk hpT hpC hpR (DM.out _ U5) (HAV.out X HG5.out.1.2.1))
            rw [← e1, ← e2] at HT
            obtain ⟨-, p1, p2, p3, p4, p5⟩ := KX.out _ U5
            clear hk0 e1 e2
            go_wp2_with (fail)
            refine HT.out.mono ?_
            rintro e w6 ⟨Ap, np, cp, X2, rfl, pA, g6, t6⟩
            have k6 := HG5.out.turn g6 t6
            have HG6 := Lib.hid k6.1
            have U6 := U5.trans k6.2
            have HPA := Lib.hid (pA.imp (Y' := (· < SZ)) (fun k _ hk => .inr (by rw [HSZ.out]; exact hk)))
            have hz6 : SZ ≤ w6.heap.size := by rw [← HSZ.out]; exact t6.off.size
            clear pA g6 t6 k6 HT p1 p2 p3 p4 p5 k0
            go_wp2_with (fail)
            go_meet
            exact ⟨X2, Ap, np, cp, rfl, HPA, HG6, U6, hz6⟩
          · have dk0 : (xk == 0) = false := by simpa using hk0
            obtain ⟨e1, e2⟩ := HN1.out hk0
            clear hk0
            go_wp2_with (fail)
            go_meet
            rw [e1, e2]
            exact ⟨X, none, 0, 0, rfl, Tks.nil _ _, HG5, U5, Nat.le_of_eq HSZ.out.symm⟩
        case rest =>
          obtain ⟨X2, A2, n2, c2, rfl, HT2, HG2, U2, hz2⟩ := hcut
          clear HG5 U5 k0
          obtain ⟨k0, -⟩ := KX.out _ U2
          go_upto_if 65 with (fail)
          go_cut [13] from 39 to 194 (fun v13 wx => ∃ X2 A2 n2 c2, v13 = .slice A2 n2 c2 ∧ Hid (Tks wx (· < SZ) A2 n2 c2 lo) ∧ Hid (GoS w.heap.size (G ga gs s2) X2 bm bu j told used (.slice P10 L10 c10) ins xb (.cells #[.int .i64 (s.ent : Int), .int .i64 (s.ret : Int), .int .u64 (s.r : Int)] 51) wx) ∧ Below w.heap.size w wx ∧ SZ ≤ wx.heap.size)
          case first =>
            by_cases hk1 : xk = 1
            · have dk1 : (xk == 1) = true := by simpa using hk1
              obtain ⟨e1, e2⟩ := HN1.out (by omega)
              obtain ⟨f1, f2⟩ := HA1.out hk1
              subst e1 f1 f2
              have HT := Lib.hid (C.recv ga gs s1 _ X2 HG2.out.1.1 HF.out.1 (by have := HF.out.2.2.2; omega))
              clear hk1 e2
              go_wp2_with (fail)
              refine HT.out.mono ?_
              rintro e w6 ⟨Am, nm, cm, Ap, np, cp, X3, rfl, -, -, -, pA, g6, t6⟩
              have k6 := HG2.out.turn g6 t6
              have HG6 := Lib.hid k6.1
              have U6 := U2.trans k6.2
              have hz6 : SZ ≤ w6.heap.size := Nat.le_trans hz2 t6.off.size
              have HPA := Lib.hid (pA.imp (Y' := (· < SZ)) (fun k _ hk => .inr (Nat.lt_of_lt_of_le hk hz2)))
              clear pA g6 t6 k6 HT k0
              go_wp2_with (fail)
              go_meet
              exact ⟨X3, Ap, np, cp, rfl, HPA, HG6, U6, hz6⟩
            · have dk1 : (xk == 1) = false := by simpa using hk1
              have hsame : s1 = s2 ∧ lo1 = lo := by
                by_cases hk0 : xk = 0
                · obtain ⟨e1, e2⟩ := HY1.out hk0
                  obtain ⟨f1, f2⟩ := HA0.out hk0
                  exact ⟨e1.trans f1.symm, e2.trans f2.symm⟩
                · obtain ⟨e1, e2⟩ := HN1.out hk0
                  obtain ⟨f1, f2⟩ := HA2.out hk0 hk1
                  exact ⟨e1.trans f1.symm, e2.trans f2.symm⟩
              clear hk1
              go_wp2_with (fail)
              go_meet
              rw [← hsame.1, ← hsame.2]
              exact ⟨X2, A2, n2, c2, rfl, HT2, HG2, U2, hz2⟩
          case rest =>
            obtain ⟨X3, A3, n3, c3, rfl, HT3, HG3, U3, hz3⟩ := hcut
            clear HG2 HT2 U2 hz2 k0 HY1 HN1 HA0 HA1 HA2
            obtain ⟨e2, he2⟩ : ∃ e2, s2.ent = e2 := ⟨_, rfl⟩
            obtain ⟨r2, hr2⟩ : ∃ r2, s2.ret = r2 := ⟨_, rfl⟩
            obtain ⟨i2, hi2⟩ : ∃ i2, s2.r = i2 := ⟨_, rfl⟩
            have hst := C.state ga gs s2 _ X3 HG3.out.1.1
            rw [he2, hr2, hi2] at hst
            have HS2 := Lib.hid hst
            have HE2 := Lib.hid he2
            have HR2 := Lib.hid hr2
            have he6 : e2 ≤ 1000000 := by have := HF2.out.1.2.2.2.2.2.2.2.1; omega
            have hr6 : r2 ≤ 1000000 := by have := HF2.out.1.2.2.2.2.2.2.2.2; omega
            clear hst he2 hr2 hi2
            go_wp2_with (fail)
            refine HS2.out.mono ?_
            rintro e w7 ⟨rfl, T7⟩
            have T8 := (Below.refl _ w7).alloc (Nat.le_refl _) (.cells #[.int .i64 (e2 : Int), .int .i64 (r2 : Int), .int .u64 (i2 : Int)] 51)
            have HG8 := Lib.hid ((HG3.out.below (C.holds _ _ _) T7).below (C.holds _ _ _) T8)
            have HT8 := Lib.hid ((HT3.out.below T7).below T8)
            have U8 := nxt (nxt U3 T7) T8
            have hz8 := heap_alloc_new w7 (.cells #[.int .i64 (e2 : Int), .int .i64 (r2 : Int), .int .u64 (i2 : Int)] 51)
            obtain ⟨xb2, hxb2⟩ : ∃ xb2, w7.heap.size = xb2 := ⟨_, rfl⟩
            rw [hxb2] at hz8
            have hsx : SZ ≤ xb2 := by have := T7.size; omega
            have HZ8 := Lib.hid hz8
            obtain ⟨Xs2, hsrc, -⟩ := C.src ga gs s2 _ X3 HG8.out.1.1
            have HUS := Lib.hid (NC.used gs s2.l s2.k _ Xs2 hsrc)
            clear hz8 hsrc HS2 HG3 HT3 U3 hz3 T7 T8
            go_wp2_with (fail)
            refine HUS.out.mono ?_
            rintro e w9 ⟨A9, n9, c9, rfl, f9, T9⟩
            obtain ⟨rd, hrd⟩ := dup_is (drawn s2.l s2.k)
            have hn9 := f9.1.len
            rw [drawn_len] at hn9
            have HAP := Lib.hid (NC.apart A9 n9 c9 (drawn s2.l s2.k) rd w9 f9.1 (fun x hx => by
              obtain ⟨i, hi, rfl⟩ := List.mem_map.1 hx
              have := HF2.out.1.2.2.1
              exact nx_lt HF2.out.1.2.1 (by have := List.mem_range.1 hi; omega)) (by have := HF2.out.1.2.2.1; omega) hrd)
            have HG9 := Lib.hid (HG8.out.below (C.holds _ _ _) T9)
            have HT9 := Lib.hid (HT8.out.below T9)
            have HZ9 := Lib.hid ((T9.block xb2 (obrow_lt HZ8.out)).trans HZ8.out)
            have U9 := nxt U8 T9
            have HRD := Lib.hid hrd
            clear f9 T9 HG8 HT8 HZ8 U8 hrd HUS hn9
            go_wp2_with (fail)
            refine HAP.out.mono ?_
            rintro e w10 ⟨rfl, T10⟩
            have HG10 := Lib.hid (HG9.out.below (C.holds _ _ _) T10)
            have HT10 := Lib.hid (HT9.out.below T10)
            have HZ10 := Lib.hid ((T10.block xb2 (obrow_lt HZ9.out)).trans HZ9.out)
            have U10 := nxt U9 T10
            clear T10 HG9 HT9 HZ9 U9 HAP
            obtain ⟨bd, hbd⟩ : ∃ bd, rd.2.2 = bd := ⟨_, rfl⟩
            have HBD := Lib.hid hbd
            rw [hbd]
            clear hbd
            cases bd with
            | true =>
              clear HT10 HZ10 HG10
              go_wp2_with (fail)
              refine (HL.out _).mono ?_
              rintro e w11 ⟨rfl, T11⟩
              have U11 := nxt U10 T11
              go_wp2
              go_ret
              exact ⟨rfl, U11⟩
            | false =>
              have HRO := Lib.hid (HROUND.out (apt_of_dup HRD.out HBD.out))
              have hn31 : n3 ≤ 1 := by have := HTO.out.1; rw [HT10.out.len] at this; exact this
              have HACK : Hid (∀ t ∈ lo, t.1 = 3 → t.2.1 ∈ ins.take r2) := by
                rcases HRO.out with h | h
                · exact fun t ht h3 => by have := h.2.1 t ht h3; rw [HR2.out] at this; exact this
                · exact fun t ht _ => by rw [h.2.2.2.1] at ht; cases ht
              clear HROUND HRD HBD
              go_wp2_with (fail)
              go_loopw [15] (fun v15 wy => ∃ q : Nat, q ≤ n3 ∧ v15 = .int .i64 (q : Int) ∧ Hid (GoS w.heap.size (G ga gs s2) X3 bm bu (j + q) (goTold told (lo.take q)) used (.slice P10 L10 c10) ins xb (.cells #[.int .i64 (s.ent : Int), .int .i64 (s.ret : Int), .int .u64 (s.r : Int)] 51) wy) ∧ Hid (wy.heap[xb2]? = some (.cells #[.int .i64 (e2 : Int), .int .i64 (r2 : Int), .int .u64 (i2 : Int)] 51)) ∧ Hid (Tks wy (· < SZ) A3 n3 c3 lo) ∧ Below w.heap.size w wy) (fun v15 _ => n3 - (intOf v15).toNat)
              case atStart => exact ⟨0, Nat.zero_le _, rfl, HG10, HZ10, HT10, U10⟩
              case round =>
                clear HG10 HZ10 HT10 U10
                rename World => wy
                obtain ⟨q, hq, rfl, HG, HZ, HT, U⟩ := hrel
                by_cases hlt2 : q < n3
                · have f0 : decide ((q : Int) < (n3 : Int)) = true := by simp; omega
                  have f0n : decide (q < n3) = true := by simp; omega
                  have hqn : (q : Int) < (n3 : Int) := by omega
                  have hql : q < lo.length := by rw [HT.out.len]; exact hlt2
                  have hcc := HT.out.2.1
                  have hcm3 := HT.out.2.2.1
                  unfold maxLen at hcm3
                  obtain ⟨bo, oo, rfl, hbo, g⟩ := HT.out.at_ (by omega)
                  obtain ⟨Py, dy, ⟨y0, y1, y2, y3, y4⟩, -⟩ := g q hql
                  have HTK := Lib.hid (goTold_take told lo q hql)
                  have ht := HTO.out.2 lo[q] (List.getElem_mem hql)
                  have HMEM := Lib.hid (HACK.out lo[q] (List.getElem_mem hql))
                  have hbz : SZ ≤ bo := Nat.le_of_not_lt (HT.out.2.2.2.1 (by omega) _ rfl)
                  clear g
                  generalize lo[q] = t at *
                  obtain ⟨tk, tT, tC, tR, td⟩ := t
                  simp only at y0 y1 y2 y3 y4 ht HMEM HTK
                  by_cases t1 : tk = 1
                  · subst t1
                    obtain ⟨w12, hrun, g12, O12, b12⟩ := GoS.put_told (C.holds _ _ _) (HG.out.below (C.holds _ _ _) (Below.refl _ wy).drew) (by omega) tC tT ht.2 ht.1
                    have e12 : (fun i => if i = tC then some tT else goTold told (lo.take q) i) = goTold told (lo.take (q + 1)) := by rw [HTK.out, if_pos rfl]
                    rw [e12] at g12
                    have HG12 := Lib.hid g12
                    have HZ12 : Hid (w12.heap[xb2]? = some (.cells #[.int .i64 (e2 : Int), .int .i64 (r2 : Int), .int .u64 (i2 : Int)] 51)) := (O12.block xb2 (obrow_lt HZ.out) (by omega)).trans HZ.out
                    have HT12 := Lib.hid ((HT.out.below (Below.refl _ wy).drew).off O12 (fun k _ hk => by have hk : k = bm := hk; show k < SZ; omega))
                    have U12 := U.trans ((Below.refl _ wy).drew.mono U.size |>.trans b12)
                    have z0 : w12.cell? ⟨bo, oo + q * 5, none⟩ = some (.int .i64 1) := (O12.cell (p := ⟨bo, oo + q * 5, none⟩) hbo (by show ¬ bo = bm; omega)).trans y0
                    clear g12 e12 O12 b12 HTK HMEM y3 y4
                    go_wp2_with (fail)
                    go_region
                    go_wp2
                    go_roundw
                    case rel => exact ⟨q + 1, by omega, by go_num, HG12.out, HZ12, HT12, U12⟩
                    case measure => simp [intOf]; omega
                  · have e12 : goTold told (lo.take (q + 1)) = goTold told (lo.take q) := by rw [HTK.out, if_neg t1]
                    have z1 : (tk == 1) = false := by simpa using t1
                    by_cases t3 : tk = 3
                    · have z3 : (tk == 3) = true := by simpa using t3
                      have HIN := Lib.hid (HMEM.out t3)
                      have hry : wy.cell? ⟨xb2, 1, none⟩ = some (.int .i64 (r2 : Int)) := cell_of_row _ _ _ _ _ _ HZ.out
                      have KY := Lib.hid (fun W (V : Below wy.heap.size wy W) => And.intro ((V.cell (p := ⟨xb2, 1, none⟩) (obrow_lt HZ.out)).trans hry) ((V.cell (p := ⟨bo, oo + q * 5 + 1, none⟩) hbo).trans y1))
                      clear HMEM HTK t1 t3 y2 y3 y4 hry
                      go_wp2_with (fail)
                      go_loopw [16, 17] (fun v16 v17 wz => ∃ i : Nat, i ≤ r2 ∧ i ≤ L10 ∧ v17 = .int .i64 (i : Int) ∧ v16 = .bool ((ins.take i).any (· == tT)) ∧ Below wy.heap.size wy wz) (fun _ v17 _ => r2 - (intOf v17).toNat)
                      case atStart => exact ⟨0, Nat.zero_le _, Nat.zero_le _, rfl, rfl, Below.refl _ _⟩
                      case round =>
                        rename World => wz
                        obtain ⟨i, hi1, hi2, rfl, hv16, V⟩ := hrel
                        obtain ⟨yr, yt⟩ := KY.out _ V
                        have HV := Lib.hid V
                        obtain ⟨bb, hbb⟩ : ∃ bb, (ins.take i).any (· == tT) = bb := ⟨_, rfl⟩
                        have HBB := Lib.hid hbb
                        rw [hbb] at hv16
                        subst hv16
                        clear hbb
                        by_cases hlt3 : i < r2 ∧ i < L10
                        · obtain ⟨h31, h32⟩ := hlt3
                          have g1 : decide ((i : Int) < (r2 : Int)) = true := by simp; omega
                          have g1n : decide (i < r2) = true := by simp; omega
                          have g2 : decide ((i : Int) < (L10 : Int)) = true := by simp; omega
                          have g2n : decide (i < L10) = true := by simp; omega
                          have hil : i < ins.length := by rw [HL10.out]; exact h32
                          have hiL : (i : Int) < (L10 : Int) := by omega
                          obtain ⟨P11, c11, ev, us, -⟩ := (HG.out.2.1.below V).2.2.1.shape
                          injection ev with ev1 ev2 ev3
                          subst ev1 ev3
                          rw [HL10.out] at us
                          obtain ⟨bi, oi, rfl, hbi, hcells⟩ := us.cell (by omega)
                          have x1 := hcells i hil
                          have HNX : Hid ((ins.take (i + 1)).any (· == tT) = (bb || (ins[i] == tT))) := by
                            show _ = _
                            rw [List.take_succ_eq_append_getElem hil, List.any_append, HBB.out]
                            simp
                          generalize ins[i] = xi at *
                          clear hcells us V
                          cases bb with
                          | true =>
                            go_wp2_with (fail)
                            go_quiet (fail)
                            have V2 := below_drewN' HV.out nq
                            go_wp2
                            go_roundw
                            case rel => exact ⟨i + 1, by omega, by omega, by go_num, by rw [HNX.out]; rfl, V2⟩
                            case measure => simp [intOf]; omega
                          | false =>
                            by_cases hx : xi = tT
                            · have e3 : ((xi : Int) == (tT : Int)) = true := by simp; omega
                              have HX : Hid ((xi == tT) = true) := by show _ = _; simp [hx]
                              clear hx
                              go_wp2_with (fail)
                              go_quiet (fail)
                              have V2 := below_drewN' HV.out nq
                              go_wp2
                              go_roundw
                              case rel => exact ⟨i + 1, by omega, by omega, by go_num, by rw [HNX.out, HX.out]; rfl, V2⟩
                              case measure => simp [intOf]; omega
                            · have e3 : ((xi : Int) == (tT : Int)) = false := by simp; omega
                              have HX : Hid ((xi == tT) = false) := by show _ = _; simp [hx]
                              clear hx
                              go_wp2_with (fail)
                              go_quiet (fail)
                              have V2 := below_drewN' HV.out nq
                              go_wp2
                              go_roundw
                              case rel => exact ⟨i + 1, by omega, by omega, by go_num, by rw [HNX.out, HX.out]; rfl, V2⟩
                              case measure => simp [intOf]; omega
                        · have hb : bb = true := by
                            rw [← HBB.out, List.any_eq_true]
                            refine ⟨tT, ?_, by simp⟩
                            by_cases h5 : i < r2
                            · have h6 : i = ins.length := by rw [HL10.out]; omega
                              rw [h6, List.take_length]
                              exact List.mem_of_mem_take HIN.out
                            · have h6 : i = r2 := by omega
                              rw [h6]
                              exact HIN.out
                          subst hb
                          have gg : (decide ((i : Int) < (r2 : Int)) = false ∧ decide (i < r2) = false) ∨ ((decide ((i : Int) < (r2 : Int)) = true ∧ decide (i < r2) = true) ∧ decide ((i : Int) < (L10 : Int)) = false ∧ decide (i < L10) = false) := by
                            by_cases h5 : i < r2
                            · exact .inr ⟨⟨by simp; omega, by simp; omega⟩, by simp; omega, by simp; omega⟩
                            · exact .inl ⟨by simp; omega, by simp; omega⟩
                          have HG13 := Lib.hid (HG.out.below (C.holds _ _ _) V)
                          have HZ13 := Lib.hid ((V.block xb2 (obrow_lt HZ.out)).trans HZ.out)
                          have HT13 := Lib.hid (HT.out.below V)
                          have U13 := nxt U V
                          rw [← e12] at HG13
                          clear hlt3 V HV HBB e12
                          rcases gg with ⟨g1, g1n⟩ | ⟨⟨g1, g1n⟩, g2, g2n⟩
                          · go_wp2
                            go_roundw
                            case rel => exact ⟨q + 1, by omega, by go_num, HG13.out.more (by omega), HZ13, HT13, U13⟩
                            case measure => simp [intOf]; omega
                          · go_wp2
                            go_roundw
                            case rel => exact ⟨q + 1, by omega, by go_num, HG13.out.more (by omega), HZ13, HT13, U13⟩
                            case measure => simp [intOf]; omega
                    · have z3 : (tk == 3) = false := by simpa using t3
                      have HG13 := Lib.hid HG.out
                      rw [← e12] at HG13
                      clear HMEM HTK t1 t3 y1 y2 y3 y4 e12 HG
                      go_wp2
                      go_roundw
                      case rel => exact ⟨q + 1, by omega, by go_num, HG13.out.more (by omega), HZ, HT, U⟩
                      case measure => simp [intOf]; omega
                · have f0 : decide ((q : Int) < (n3 : Int)) = false := by simp; omega
                  have f0n : decide (q < n3) = false := by simp; omega
                  have hqe : lo.take q = lo := List.take_of_length_le (by rw [HT.out.len]; omega)
                  rw [hqe] at HG
                  have w0 : wy.cell? ⟨xb, 0, none⟩ = some (.int .i64 (s.ent : Int)) := cell_of_row _ _ _ _ _ _ HG.out.2.2.1
                  have v0 : wy.cell? ⟨xb2, 0, none⟩ = some (.int .i64 (e2 : Int)) := cell_of_row _ _ _ _ _ _ HZ.out
                  have hjq : j + q ≤ j + 1 := by omega
                  rcases HRO.out with hB | hA
                  · have he : e2 = s.ent := by rw [← HE2.out]; exact hB.1
                    have j0 : decide ((s.ent : Int) < (e2 : Int)) = false := by simp; omega
                    have j0n : decide (s.ent < e2) = false := by simp; omega
                    have HI2 := Lib.hid hB.2.2
                    have HW2 := Lib.hid (HG.out.2.1.more hjq)
                    have HO2 := Lib.hid HG.out.1
                    clear hB hqe he HG HRO
                    go_wp2
                    go_roundw
                    case rel => exact ⟨j + 1, s2, X3, goTold told lo, used, ins, by omega, by go_num, HF2, HI2, HO2, HW2, U⟩
                    case measure => simp [intOf]; omega
                  · obtain ⟨a1, a2, a3, a4, a5, a6, a7⟩ := hA
                    have hjq : j + q + 1 ≤ j + 1 := by have := HT.out.len; rw [a4] at this; simp at this; omega
                    subst a2 a3
                    have he : (s.ent : Int) + 1 = (e2 : Int) := by have := HE2.out; omega
                    have hee : s.ent < e2 := by have := HE2.out; omega
                    have j0 : decide ((s.ent : Int) < (e2 : Int)) = true := by simp; omega
                    have j0n : decide (s.ent < e2) = true := by simp; omega
                    have j1 : ((e2 : Int) != (e2 : Int)) = false := by simp
                    have j2 : ((pT : Int) != (pT : Int)) = false := by simp
                    rw [a4, goTold_nil] at HG
                    have HI2 := Lib.hid a7
                    have U14 := (Below.refl _ wy).alloc (Nat.le_refl _) (tokO 2 pT pC pR D' M d')
                    have HG4 := Lib.hid (HG.out.below (C.holds _ _ _) U14)
                    have l1 := HG4.out.2.1.look_told pC hpC
                    rw [a5] at l1
                    have l2 := HG4.out.2.1.look_used pC hpC
                    rw [a6] at l2
                    obtain ⟨w15, hrun, g15, O15, b15⟩ := GoS.put_used (C.holds _ _ _) HG4.out (by omega) pC hpC
                    have HG15 := Lib.hid g15
                    have hpr := heap_alloc_new wy (tokO 2 pT pC pR D' M d')
                    have p15 := (O15.block wy.heap.size (obrow_lt hpr) (by have := HG.out.2.1.bu_lt; omega)).trans hpr
                    obtain ⟨-, m1, m2, -, -⟩ := gv_row5 p15
                    have c14 := (U14.cell (p := ⟨xb, 0, none⟩) (obrow_lt HG.out.2.2.1)).trans w0
                    have d14 := (U14.cell (p := ⟨xb2, 0, none⟩) (obrow_lt HZ.out)).trans v0
                    obtain ⟨n0, n1, n2', n3', n4, n5⟩ := KX.out _ U
                    obtain ⟨o0, -⟩ := KX.out _ (nxt U U14)
                    have U15 := (nxt U U14).trans b15
                    have HOWN := Lib.hid (OwnU.below HG15.out.2.1.2.2.1 ((Below.refl _ w15).alloc (Nat.le_refl _) (.cells #[.int .u64 (pT : Int)] 38)))
                    have T16 := Lib.hid ((Below.refl _ w15).alloc (Nat.le_refl _) (.cells #[.int .u64 (pT : Int)] 38))
                    have hB16 : w.heap.size ≤ (w15.alloc (.cells #[.int .u64 (pT : Int)] 38)).heap.size := by have := HG15.out.1.2.2; simp; omega
                    have hL6 : L10 + 1 ≤ 17592186044416 := by
                      have h1 := HI2.out.len
                      have h2 := HF2.out.2.2.1
                      have h3 := HL10.out
                      simp at h1
                      omega
                    clear a1 a4 a5 a6 a7 hee O15 b15 g15 p15 hpr HG hqe HRO
                    go_wp2_with (at_builtin; (refine app_u _ rfl (.tmp 190) (.tmp 193) rfl w.heap.size (.slice P10 L10 c10) ins rfl ?_ (some ⟨w15.heap.size, 0, none⟩) 1 1 [pT] rfl ?_ ?_ ?_ ?_); (exact HOWN.out); (exact Us.lit1 w15 pT); (rw [HL10.out]; exact hL6); (exact hB16); (intro v3 w3 own3 grow3 where3); (have HP := Lib.hid (GoS.push (C.holds _ _ _) HG15.out T16.out own3 grow3 where3)))
                    have U16 := U15.trans HP.out.2.2
                    have HO2 := Lib.hid HP.out.1
                    have HW2 := Lib.hid (HP.out.2.1.more hjq)
                    clear own3 grow3 where3 HP
                    go_wp2
                    go_roundw
                    case rel => exact ⟨j + 1, s2, X3, told, _, ins ++ [pT], by omega, by go_num, HF2, HI2, HO2, HW2, U16⟩
                    case measure => simp [intOf]; omega
      · have d0 : decide ((j : Int) < (n : Int)) = false := by simp; omega
        have d0n : decide (j < n) = false := by simp; omega
        go_wp2_with (fail)
        refine (HL.out _).mono ?_
        rintro e w9 ⟨rfl, T9⟩
        have U9 := nxt hbel T9
        go_wp2
        go_ret
        exact ⟨rfl, U9⟩
end Go.Proofs.Ytoajbocpebfjoaa
