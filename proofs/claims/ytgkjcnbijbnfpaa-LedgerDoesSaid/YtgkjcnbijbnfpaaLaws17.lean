/- The walk of layer 17's LedgerDoes, over the contracts of ledger. -/
import Derived.Test.YtgkjcnbijbnfpaaLdC
import Derived.Test.YtgkjcnbijbnfpaaArgsI
import Derived.Deep.RegionHeld3
namespace Go.Proofs.Ytgkjcnbijbnfpaa
open Go.RowKit

set_option maxRecDepth 20000 in
set_option maxHeartbeats 16000000 in
theorem walk_LedgerDoes {L : World → Nat → Nat → Nat → Prop} {Lz : World → Nat → Prop} (C : LdC L Lz) (o0 : Nat) (A : Option Addr) (n c : Nat) (l : List Int) (m : Nat) (w : World) (ho0 : o0 < 18446744073709551616) (hI : Ints w A n c l) (hm : m < 18446744073709551616) :
    Calls Try.prog 3 #[.int .u64 (o0 : Int), .slice A n c, .int .u64 (m : Int)] w fun e w' => e = .returned (.bool true) ∧ Below w.heap.size w w' := by
  have HL := Lib.hid (fun W => live17_any C W)
  have hlen := hI.1
  have hnc := hI.2.1
  have hcap : c ≤ 9223372036854775807 := hI.2.2.1
  have HI := Lib.hid (fun W (h : Below w.heap.size w W) => hI.below h)
  by_cases h0 : 200 < n
  · have d0 : decide ((200 : Int) < (n : Int)) = true := by simp; omega
    clear hI hlen
    go_enter Try.func3, Try.ntmps3
    go_wp2_with (fail)
    refine (HL.out _).mono ?_
    rintro e w3 ⟨rfl, T3⟩
    go_wp2
    go_ret
    exact ⟨rfl, T3⟩
  · have d0 : decide ((200 : Int) < (n : Int)) = false := by simp; omega
    have H1 := Lib.hid (C.new_ o0 w ho0)
    have H2 := Lib.hid (fun W => rlnew_any o0 W)
    have HLEN := Lib.hid hlen
    clear hI hlen
    go_enter Try.func3, Try.ntmps3
    go_wp2_with (fail)
    refine H1.out.mono ?_
    rintro e w1 ⟨ga, rfl, hga, La, T1⟩
    have hlt := C.lt La
    have HA := Lib.hid La
    clear La
    go_wp2_with (fail)
    refine (H2.out _).mono ?_
    rintro e w2 ⟨rfl, Lr, T2⟩
    have HA := Lib.hid (C.below HA.out T2)
    have HR := Lib.hid Lr
    have hgr : w.heap.size ≤ w1.heap.size := T1.size
    have hne : ga ≠ w1.heap.size := by omega
    have TW := nxt T1 T2
    clear Lr T1 T2
    generalize w1.heap.size = gr at *
    go_wp2_with (fail)
    go_loopw [9] (fun i wr => ∃ j o k : Nat, j ≤ n ∧ i = .int .i64 (j : Int) ∧ o < 18446744073709551616 ∧ k < 18446744073709551616 ∧ Hid (L wr ga o k) ∧ Hid (LRow wr gr o k) ∧ Below w.heap.size w wr) (fun i _ => n + 1 - (intOf i).toNat)
    case atStart => exact ⟨0, o0, o0, Nat.zero_le _, rfl, ho0, ho0, HA, HR, TW⟩
    case round =>
      obtain ⟨j, o, k, hj, rfl, ho, hk, LA, RR, hbel⟩ := hrel
      have d1 : decide ((j : Int) ≤ (n : Int)) = true := by simp; omega
      have K0 : ∀ W', Below wr.heap.size wr W' → L W' ga o k ∧ LRow W' gr o k ∧ (W'.cell? ⟨gr, 0, none⟩ = some (.int .u64 (o : Int)) ∧ W'.cell? ⟨gr, 1, none⟩ = some (.int .u64 (k : Int)) ∧ W'.cell? ⟨gr, 2, none⟩ = some (.bool (ldS o))) := fun W' T => by
        have h := RR.out.below T
        exact ⟨C.below LA.out T, h, rows_of h⟩
      obtain ⟨m1, hm1, hm1lt⟩ : ∃ m1 : Nat, IntKind.u64.wrap ((k : Int) + 1) = (m1 : Int) ∧ m1 < 18446744073709551616 := ⟨(k + 1) % 18446744073709551616, by rw [IntKind.wrap_u64]; omega, by omega⟩
      have E1 := Lib.hid (fun W h => C.out ga o k W h)
      have E2 := Lib.hid (fun W h => C.marked ga o k W h)
      have E3 := Lib.hid (fun W h => C.spent ga o k W h)
      have E4 := Lib.hid (fun W h => C.enough ga o k m W ho hk hm h)
      have E5 := Lib.hid (fun W h => rlenough_any gr o k m W h)
      have e6 := fun W h => C.enough ga o k k W ho hk hk h
      simp only [ldEnough_self] at e6
      have E6 := Lib.hid e6
      have E7 := Lib.hid (fun W h => C.enough ga o k m1 W ho hk hm1lt h)
      have E8 := Lib.hid (fun W h => rlenough_any gr o k m1 W h)
      have A1 := Lib.hid (fun W h => C.ask ga o k W ho hk h)
      have A2 := Lib.hid (fun W h => rlask_any gr o k W ho h)
      have B1 := Lib.hid (fun W h => C.hear ga o k W ho hk h)
      have B2 := Lib.hid (fun W h => rlhear_any gr o k W ho h)
      have D1 := Lib.hid (fun W h => C.mark ga o k W ho hk h)
      have D2 := Lib.hid (fun W h => rlset_any gr o k W ho h)
      have NX := Lib.hid (And.intro (ldAsk_lt ho) (And.intro (ldHear_lt ho) (ldMark_lt ho hk)))
      generalize ldEnough o k m = t1 at *
      generalize ldEnough o k m1 = t3 at *
      generalize ldS o = s at *
      generalize ldCan o = cc at *
      have K := Lib.hid K0
      have c1 : ((o : Int) != (o : Int)) = false := by simp
      have c2 : ((k : Int) != (k : Int)) = false := by simp
      have c3 : (s != s) = false := by simp
      have c4 : (t1 != t1) = false := by simp
      have c5 : (t3 != t3) = false := by simp
      have c6 : (cc != cc) = false := by simp
      have c7 : ((!s) != (!s)) = false := by simp
      have P0 := (Below.refl wr.heap.size wr).drew
      clear K0 e6
      go_wp2_with (fail)
      go_region_held3 (fun w' => w'.cell? ⟨gr, 0, none⟩ = some (.int .u64 (o : Int)) ∧ w'.cell? ⟨gr, 1, none⟩ = some (.int .u64 (k : Int)) ∧ w'.cell? ⟨gr, 2, none⟩ = some (.bool s)) (first | exact (K.out _ (Below.refl _ _)).2.2 | exact (K.out _ P1).2.2 | exact (K.out _ P2).2.2 | exact (K.out _ P3).2.2 | exact (K.out _ P4).2.2 | exact (K.out _ P6).2.2 | exact (K.out _ P7).2.2)
        (first
          | (go_at_call 9; (with_reducible refine (E1.out _ (K.out _ P0).1).mono ?_); rintro e u1 ⟨rfl, U1⟩; have P1 := nxt P0 U1)
          | (go_at_call 10; (with_reducible refine (E2.out _ (K.out _ P1).1).mono ?_); rintro e u2 ⟨rfl, U2⟩; have P2 := nxt P1 U2)
          | (go_at_call 11; (with_reducible refine (E3.out _ (K.out _ P2).1).mono ?_); rintro e u3 ⟨rfl, U3⟩; have P3 := nxt P2 U3)
          | (go_at_call 12; (with_reducible refine (E4.out _ (K.out _ P3).1).mono ?_); rintro e u4 ⟨rfl, U4⟩; have P4 := nxt P3 U4)
          | (go_at_call 13; (with_reducible refine (E5.out _ (K.out _ P4).2.1).mono ?_); rintro e u5 ⟨rfl, rfl⟩)
          | (go_at_call 12; (with_reducible refine (E6.out _ (K.out _ P4).1).mono ?_); rintro e u6 ⟨rfl, U6⟩; have P6 := nxt P4 U6)
          | (go_at_call 12; (with_reducible refine (E7.out _ (K.out _ P6).1).mono ?_); rintro e u7 ⟨rfl, U7⟩; have P7 := nxt P6 U7)
          | (go_at_call 13; (with_reducible refine (E8.out _ (K.out _ P7).2.1).mono ?_); rintro e u8 ⟨rfl, rfl⟩))
      all_goals
        have hb9 := hbel.trans (P7.mono hbel.size)
        by_cases hlt : j < n
        · have d2 : ((j : Int) == (n : Int)) = false := by simp; omega
          obtain ⟨b, o', rfl, hbs, hcell⟩ := (HI.out _ hb9).2.2.2.2 (by omega)
          have q := hcell j (by rw [HLEN.out]; exact hlt)
          have hjn : (j : Int) < (n : Int) := by omega
          generalize l[j]'(by rw [HLEN.out]; exact hlt) = x at *
          clear hcell
          by_cases x0 : x = 0
          · subst x0
            go_wp2_with (fail)
            refine (A1.out _ (K.out _ P7).1).mono ?_
            rintro e v1 ⟨rfl, L1, O1⟩
            have R1 := (K.out _ P7).2.1.off O1 (fun h => hne h.symm)
            have LH := Lib.hid L1
            have hb1 := then_off hb9 O1 hga (Nat.le_trans hbel.size P7.size)
            have hz1 : w.heap.size ≤ v1.heap.size := hb1.size
            clear L1
            go_wp2_with (fail)
            refine (A2.out _ R1).mono ?_
            rintro e v2 ⟨rfl, R2, O2⟩
            have LH2 := Lib.hid (C.off LH.out O2 hne)
            have RH2 := Lib.hid R2
            have hb2 := then_off hb1 O2 hgr hz1
            clear R1 R2 O1 O2
            go_wp2
            go_roundw
            case rel => exact ⟨j + 1, _, _, by omega, by go_num, NX.out.1, hk, LH2, RH2, hb2⟩
            case measure => simp [intOf]; omega
          have y0 : (x == 0) = false := by simpa using x0
          by_cases x1 : x = 1
          · subst x1
            go_wp2_with (fail)
            refine (B1.out _ (K.out _ P7).1).mono ?_
            rintro e v1 ⟨rfl, L1, O1⟩
            have R1 := (K.out _ P7).2.1.off O1 (fun h => hne h.symm)
            have LH := Lib.hid L1
            have hb1 := then_off hb9 O1 hga (Nat.le_trans hbel.size P7.size)
            have hz1 : w.heap.size ≤ v1.heap.size := hb1.size
            clear L1
            go_wp2_with (fail)
            refine (B2.out _ R1).mono ?_
            rintro e v2 ⟨rfl, R2, O2⟩
            have LH2 := Lib.hid (C.off LH.out O2 hne)
            have RH2 := Lib.hid R2
            have hb2 := then_off hb1 O2 hgr hz1
            clear R1 R2 O1 O2
            go_wp2
            go_roundw
            case rel => exact ⟨j + 1, _, _, by omega, by go_num, NX.out.2.1, hk, LH2, RH2, hb2⟩
            case measure => simp [intOf]; omega
          have y1 : (x == 1) = false := by simpa using x1
          by_cases x2 : x = 2
          · subst x2
            go_wp2_with (fail)
            refine (D1.out _ (K.out _ P7).1).mono ?_
            rintro e v1 ⟨rfl, L1, O1⟩
            have R1 := (K.out _ P7).2.1.off O1 (fun h => hne h.symm)
            have LH := Lib.hid L1
            have hb1 := then_off hb9 O1 hga (Nat.le_trans hbel.size P7.size)
            have hz1 : w.heap.size ≤ v1.heap.size := hb1.size
            clear L1
            go_wp2_with (fail)
            refine (D2.out _ R1).mono ?_
            rintro e v2 ⟨rfl, R2, O2⟩
            have LH2 := Lib.hid (C.off LH.out O2 hne)
            have RH2 := Lib.hid R2
            have hb2 := then_off hb1 O2 hgr hz1
            clear R1 R2 O1 O2
            go_wp2
            go_roundw
            case rel => exact ⟨j + 1, _, _, by omega, by go_num, ho, NX.out.2.2, LH2, RH2, hb2⟩
            case measure => simp [intOf]; omega
          have y2 : (x == 2) = false := by simpa using x2
          have LH := Lib.hid (K.out _ P7).1
          have RH := Lib.hid (K.out _ P7).2.1
          go_wp2
          go_roundw
          case rel => exact ⟨j + 1, o, k, by omega, by go_num, ho, hk, LH, RH, hb9⟩
          case measure => simp [intOf]; omega
        · obtain rfl : j = n := by omega
          have d2 : ((j : Int) == (j : Int)) = true := by simp
          go_wp2_with (fail)
          refine (HL.out _).mono ?_
          rintro e v1 ⟨rfl, V1⟩
          have hb1 := nxt hb9 V1
          go_wp2
          go_ret
          exact ⟨rfl, hb1⟩
end Go.Proofs.Ytgkjcnbijbnfpaa
