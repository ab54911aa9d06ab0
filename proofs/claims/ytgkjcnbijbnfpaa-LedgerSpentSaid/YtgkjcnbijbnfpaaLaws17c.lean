/- The walk of layer 17's LedgerSpent, over the contracts of ledger. -/
import Derived.Test.YtgkjcnbijbnfpaaLdZ
import Derived.Test.YtgkjcnbijbnfpaaArgsI
namespace Go.Proofs.Ytgkjcnbijbnfpaa
open Go.RowKit

set_option maxRecDepth 20000 in
set_option maxHeartbeats 16000000 in
theorem walk_LedgerSpent {L : World → Nat → Nat → Nat → Prop} {Lz : World → Nat → Prop} (C : LdC L Lz) (hzn : ∀ W : World, Lz (W.alloc ldZero) W.heap.size) (sh : Nat) (A : Option Addr) (n c : Nat) (l : List Int) (m : Nat) (w : World) (_hsh : sh < 18446744073709551616) (hI : Ints w A n c l) (hm : m < 18446744073709551616) :
    Calls Try.prog 5 #[.int .u64 (sh : Int), .slice A n c, .int .u64 (m : Int)] w fun e w' => e = .returned (.bool true) ∧ Below w.heap.size w w' := by
  have HL := Lib.hid (fun W => live17_any C W)
  have hlen := hI.1
  have hnc := hI.2.1
  have hcap : c ≤ 9223372036854775807 := hI.2.2.1
  have HI := Lib.hid (fun W (h : Below w.heap.size w W) => hI.below h)
  by_cases h0 : 20 < sh
  · have d0 : decide ((20 : Int) < (sh : Int)) = true := by simp; omega
    clear hI hlen
    go_enter Try.func5, Try.ntmps5
    go_wp2_with (fail)
    refine (HL.out _).mono ?_
    rintro e w3 ⟨rfl, T3⟩
    go_wp2
    go_ret
    exact ⟨rfl, T3⟩
  have d0 : decide ((20 : Int) < (sh : Int)) = false := by simp; omega
  by_cases h1 : 200 < n
  · have d1 : decide ((200 : Int) < (n : Int)) = true := by simp; omega
    clear hI hlen
    go_enter Try.func5, Try.ntmps5
    go_wp2_with (fail)
    refine (HL.out _).mono ?_
    rintro e w3 ⟨rfl, T3⟩
    go_wp2
    go_ret
    exact ⟨rfl, T3⟩
  have d1 : decide ((200 : Int) < (n : Int)) = false := by simp; omega
  obtain ⟨k, hk⟩ : ∃ k, 18446744073709551615 - sh = k := ⟨_, rfl⟩
  have hkl : k < 18446744073709551616 := by omega
  have hw : IntKind.u64.wrap (18446744073709551615 - (sh : Int)) = (k : Int) := by rw [IntWalk.u64_in _ (by omega)]; omega
  have hks : k + sh = 18446744073709551615 := by omega
  have HKS := Lib.hid hks
  have H1 := Lib.hid (C.new_ k w hkl)
  have HLEN := Lib.hid hlen
  clear hI hlen hk hks
  go_enter Try.func5, Try.ntmps5
  go_wp2_with (fail)
  refine H1.out.mono ?_
  rintro e w1 ⟨ga, rfl, hga, La, T1⟩
  have HA := Lib.hid La
  clear La
  go_wp2_with (fail)
  go_loopw [8] (fun i wr => ∃ j o : Nat, j ≤ sh ∧ i = .int .u64 (j : Int) ∧ Hid (o = k + j) ∧ Hid (L wr ga o k) ∧ Below w.heap.size w wr) (fun i _ => sh - (intOf i).toNat)
  case atStart => exact ⟨0, k, Nat.zero_le _, rfl, rfl, HA, T1⟩
  case round =>
    obtain ⟨j, o, hj, rfl, HO, LA, hbel⟩ := hrel
    by_cases hlt : j < sh
    · have e1 : decide ((j : Int) < (sh : Int)) = true := by simp; omega
      have ho : o < 18446744073709551615 := by have h1 := HO.out; have h2 := HKS.out; omega
      have so : ldS o = false := by unfold ldS; simp; omega
      have hwj : IntKind.u64.wrap ((j : Int) + 1) = (j : Int) + 1 := IntWalk.u64_in _ (by omega)
      have A1 := fun W h => C.ask ga o k W (by omega) hkl h
      rw [so, show ldAsk o = o + 1 by unfold ldAsk; rw [so]; rfl] at A1
      have A1 := Lib.hid A1
      have A0 := C.spent ga o k wr LA.out
      rw [so] at A0
      have A0 := Lib.hid A0
      have HO2 : Hid (o + 1 = k + (j + 1)) := by show _ = _; rw [HO.out]; omega
      go_wp2_with (fail)
      refine A0.out.mono ?_
      rintro e v1 ⟨rfl, V1⟩
      have LB := Lib.hid (C.below LA.out V1)
      have hb1 := nxt hbel V1
      go_wp2_with (fail)
      refine (A1.out _ LB.out).mono ?_
      rintro e v2 ⟨rfl, L2, O2⟩
      have LC := Lib.hid L2
      have hb2 := then_off hb1 O2 hga hb1.size
      clear L2 O2
      go_wp2
      go_roundw
      case rel => exact ⟨j + 1, o + 1, by omega, by go_num, HO2, LC, hb2⟩
      case measure => simp [intOf]; omega
    · obtain rfl : j = sh := by omega
      have e1 : decide ((j : Int) < (j : Int)) = false := by simp
      obtain rfl : o = 18446744073709551615 := by have h1 := HO.out; have h2 := HKS.out; omega
      have so : ldS 18446744073709551615 = true := rfl
      have nk : ((k : Int) == (k : Int)) = true := by simp
      clear HO hlt
      go_wp2_with (fail)
      refine (C.out ga 18446744073709551615 k _ LA.out).mono ?_
      rintro e v1 ⟨rfl, V1⟩
      have L1 := Lib.hid (C.below LA.out V1)
      have hb1 := nxt hbel V1
      go_wp2_with (fail)
      refine (C.marked ga 18446744073709551615 k _ L1.out).mono ?_
      rintro e v2 ⟨rfl, V2⟩
      have L2 := Lib.hid (C.below L1.out V2)
      have hb2 := nxt hb1 V2
      have A0 := C.spent ga 18446744073709551615 k v2 L2.out
      rw [so] at A0
      have A0 := Lib.hid A0
      go_wp2_with (fail)
      refine A0.out.mono ?_
      rintro e v3 ⟨rfl, V3⟩
      have L3 := Lib.hid (C.below L2.out V3)
      have hb3 := nxt hb2 V3
      clear A0 V1 V2 V3
      go_wp2_with (fail)
      go_loopw [11] (fun i wz => ∃ q : Nat, q ≤ n ∧ i = .int .i64 (q : Int) ∧ Hid (L wz ga 18446744073709551615 k) ∧ Below w.heap.size w wz) (fun i _ => n - (intOf i).toNat)
      case atStart => exact ⟨0, Nat.zero_le _, rfl, L3, hb3⟩
      case round =>
        obtain ⟨q, hq, rfl, LQ, hbq⟩ := hrel
        by_cases hqn : q < n
        · have e2 : decide ((q : Int) < (n : Int)) = true := by simp; omega
          obtain ⟨b, o', rfl, hbs, hcell⟩ := (HI.out _ (Below.refl _ w)).2.2.2.2 (by omega)
          have q0 := hcell q (by rw [HLEN.out]; exact hqn)
          have hjn : (q : Int) < (n : Int) := by omega
          generalize l[q]'(by rw [HLEN.out]; exact hqn) = x at *
          have QX : Hid (∀ W, Below w.heap.size w W → W.cell? ⟨b, o' + q, none⟩ = some (.int .i64 x)) := fun W h => (h.cell (p := ⟨b, o' + q, none⟩) hbs).trans q0
          have qc := QX.out _ hbq
          clear hcell q0
          by_cases x0 : x = 0
          · subst x0
            have A1 := C.ask ga 18446744073709551615 k _ (by decide) hkl LQ.out
            rw [so, show ldAsk 18446744073709551615 = 18446744073709551615 from rfl] at A1
            have A1 := Lib.hid A1
            go_wp2_with (fail)
            refine A1.out.mono ?_
            rintro e z1 ⟨rfl, Z1, O1⟩
            have LZ := Lib.hid Z1
            have hbz := then_off hbq O1 hga hbq.size
            clear Z1 O1
            have qc := QX.out _ hbz
            go_wp2
            go_roundw
            case rel => exact ⟨q + 1, by omega, by go_num, LZ, hbz⟩
            case measure => simp [intOf]; omega
          have y0 : (x == 0) = false := by simpa using x0
          by_cases x1 : x = 1
          · subst x1
            have A1 := C.hear ga 18446744073709551615 k _ (by decide) hkl LQ.out
            rw [show ldCan 18446744073709551615 = false from rfl, show ldHear 18446744073709551615 = 18446744073709551615 from rfl] at A1
            have A1 := Lib.hid A1
            go_wp2_with (fail)
            refine A1.out.mono ?_
            rintro e z1 ⟨rfl, Z1, O1⟩
            have LZ := Lib.hid Z1
            have hbz := then_off hbq O1 hga hbq.size
            clear Z1 O1
            have qc := QX.out _ hbz
            go_wp2
            go_roundw
            case rel => exact ⟨q + 1, by omega, by go_num, LZ, hbz⟩
            case measure => simp [intOf]; omega
          have y1 : (x == 1) = false := by simpa using x1
          by_cases x2 : x = 2
          · subst x2
            have A1 := C.mark ga 18446744073709551615 k _ (by decide) hkl LQ.out
            rw [show ldMark 18446744073709551615 k = k from rfl] at A1
            have A1 := Lib.hid A1
            go_wp2_with (fail)
            refine A1.out.mono ?_
            rintro e z1 ⟨rfl, Z1, O1⟩
            have LZ := Lib.hid Z1
            have hbz := then_off hbq O1 hga hbq.size
            clear Z1 O1
            go_wp2
            go_roundw
            case rel => exact ⟨q + 1, by omega, by go_num, LZ, hbz⟩
            case measure => simp [intOf]; omega
          have y2 : (x == 2) = false := by simpa using x2
          go_wp2
          go_roundw
          case rel => exact ⟨q + 1, by omega, by go_num, LQ, hbq⟩
          case measure => simp [intOf]; omega
        · obtain rfl : q = n := by omega
          have e2 : decide ((q : Int) < (q : Int)) = false := by simp
          clear hqn
          go_wp2_with (fail)
          have Y0 := Lib.hid (C.below LQ.out ((Below.refl _ _).alloc (Nat.le_refl _) ldZero))
          have b0 := hbq.alloc hbq.size ldZero
          have Z0 := Lib.hid (hzn wr)
          have a0 := C.spent ga 18446744073709551615 k _ Y0.out
          rw [so] at a0
          refine a0.mono ?_
          rintro e v20 ⟨rfl, V0⟩
          have Y1 := Lib.hid (C.below Y0.out V0)
          have Z1 := Lib.hid (C.zoff (X := fun _ => False) Z0.out (Off.of_below V0) (fun h => h))
          have b1 := nxt b0 V0
          clear V0 Y0 Z0
          go_wp2_with (fail)
          refine (C.out ga 18446744073709551615 k _ Y1.out).mono ?_
          rintro e v21 ⟨rfl, V1⟩
          have Y2 := Lib.hid (C.below Y1.out V1)
          have Z2 := Lib.hid (C.zoff (X := fun _ => False) Z1.out (Off.of_below V1) (fun h => h))
          have b2 := nxt b1 V1
          clear V1 Y1 Z1
          go_wp2_with (fail)
          refine (C.marked ga 18446744073709551615 k _ Y2.out).mono ?_
          rintro e v22 ⟨rfl, V2⟩
          have Y3 := Lib.hid (C.below Y2.out V2)
          have Z3 := Lib.hid (C.zoff (X := fun _ => False) Z2.out (Off.of_below V2) (fun h => h))
          have b3 := nxt b2 V2
          clear V2 Y2 Z2
          go_wp2_with (fail)
          have a3 := C.enough ga 18446744073709551615 k m _ (by decide) hkl hm Y3.out
          rw [show ldEnough 18446744073709551615 k m = false by simp [ldEnough]] at a3
          refine a3.mono ?_
          rintro e v23 ⟨rfl, V3⟩
          have Y4 := Lib.hid (C.below Y3.out V3)
          have Z4 := Lib.hid (C.zoff (X := fun _ => False) Z3.out (Off.of_below V3) (fun h => h))
          have b4 := nxt b3 V3
          clear V3 Y3 Z3
          go_wp2_with (fail)
          refine (C.nspent _).mono ?_
          rintro e v24 ⟨rfl, V4⟩
          have Y5 := Lib.hid (C.below Y4.out V4)
          have Z5 := Lib.hid (C.zoff (X := fun _ => False) Z4.out (Off.of_below V4) (fun h => h))
          have b5 := nxt b4 V4
          clear V4 Y4 Z4
          go_wp2_with (fail)
          refine (C.nask _).mono ?_
          rintro e v25 ⟨rfl, V5⟩
          have Y6 := Lib.hid (C.below Y5.out V5)
          have Z6 := Lib.hid (C.zoff (X := fun _ => False) Z5.out (Off.of_below V5) (fun h => h))
          have b6 := nxt b5 V5
          clear V5 Y5 Z5
          go_wp2_with (fail)
          refine (C.nhear _).mono ?_
          rintro e v26 ⟨rfl, V6⟩
          have Y7 := Lib.hid (C.below Y6.out V6)
          have Z7 := Lib.hid (C.zoff (X := fun _ => False) Z6.out (Off.of_below V6) (fun h => h))
          have b7 := nxt b6 V6
          clear V6 Y6 Z6
          go_wp2_with (fail)
          refine (C.nenough m _ hm).mono ?_
          rintro e v27 ⟨rfl, V7⟩
          have Y8 := Lib.hid (C.below Y7.out V7)
          have Z8 := Lib.hid (C.zoff (X := fun _ => False) Z7.out (Off.of_below V7) (fun h => h))
          have b8 := nxt b7 V7
          clear V7 Y7 Z7
          go_wp2_with (fail)
          refine (C.nout _).mono ?_
          rintro e v28 ⟨rfl, V8⟩
          have Y9 := Lib.hid (C.below Y8.out V8)
          have Z9 := Lib.hid (C.zoff (X := fun _ => False) Z8.out (Off.of_below V8) (fun h => h))
          have b9 := nxt b8 V8
          clear V8 Y8 Z8
          go_wp2_with (fail)
          refine (C.zspent _ _ Z9.out).mono ?_
          rintro e v29 ⟨rfl, V9⟩
          have Y10 := Lib.hid (C.below Y9.out V9)
          have Z10 := Lib.hid (C.zoff (X := fun _ => False) Z9.out (Off.of_below V9) (fun h => h))
          have b10 := nxt b9 V9
          clear V9 Y9 Z9
          go_wp2_with (fail)
          refine (C.zask _ _ Z10.out).mono ?_
          rintro e v30 ⟨rfl, V10⟩
          have Y11 := Lib.hid (C.below Y10.out V10)
          have Z11 := Lib.hid (C.zoff (X := fun _ => False) Z10.out (Off.of_below V10) (fun h => h))
          have b11 := nxt b10 V10
          clear V10 Y10 Z10
          go_wp2_with (fail)
          refine (C.zenough _ m _ hm Z11.out).mono ?_
          rintro e v31 ⟨rfl, V11⟩
          have Y12 := Lib.hid (C.below Y11.out V11)
          have Z12 := Lib.hid (C.zoff (X := fun _ => False) Z11.out (Off.of_below V11) (fun h => h))
          have b12 := nxt b11 V11
          clear V11 Y11 Z11
          go_wp2_with (fail)
          refine (HL.out _).mono ?_
          rintro e v32 ⟨rfl, V12⟩
          have Y13 := Lib.hid (C.below Y12.out V12)
          have Z13 := Lib.hid (C.zoff (X := fun _ => False) Z12.out (Off.of_below V12) (fun h => h))
          have b13 := nxt b12 V12
          clear V12 Y12 Z12
          go_wp2
          go_ret
          exact ⟨rfl, b13⟩
end Go.Proofs.Ytgkjcnbijbnfpaa
