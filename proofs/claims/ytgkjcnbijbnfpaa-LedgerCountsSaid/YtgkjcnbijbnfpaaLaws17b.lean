/- The walk of layer 17's LedgerCounts, over the contracts of ledger. -/
import Derived.Test.YtgkjcnbijbnfpaaLdC
import Derived.Test.YtgkjcnbijbnfpaaArgsI
namespace Go.Proofs.Ytgkjcnbijbnfpaa
open Go.RowKit

set_option maxRecDepth 20000 in
set_option maxHeartbeats 16000000 in
theorem walk_LedgerCounts {L : World → Nat → Nat → Nat → Prop} {Lz : World → Nat → Prop} (C : LdC L Lz) (o0 : Nat) (A : Option Addr) (n c : Nat) (l : List Int) (w : World) (ho0 : o0 < 18446744073709551616) (hI : Ints w A n c l) :
    Calls Try.prog 4 #[.int .u64 (o0 : Int), .slice A n c] w fun e w' => e = .returned (.bool true) ∧ Below w.heap.size w w' := by
  have HL := Lib.hid (fun W => live17_any C W)
  have hlen := hI.1
  have hnc := hI.2.1
  have hcap : c ≤ 9223372036854775807 := hI.2.2.1
  have HI := Lib.hid (fun W (h : Below w.heap.size w W) => hI.below h)
  by_cases h0 : 200 < n
  · have d0 : decide ((200 : Int) < (n : Int)) = true := by simp; omega
    clear hI hlen
    go_enter Try.func4, Try.ntmps4
    go_wp2_with (fail)
    refine (HL.out _).mono ?_
    rintro e w3 ⟨rfl, T3⟩
    go_wp2
    go_ret
    exact ⟨rfl, T3⟩
  · have d0 : decide ((200 : Int) < (n : Int)) = false := by simp; omega
    by_cases h1 : 4611686018427387904 < o0
    · have d1 : decide ((4611686018427387904 : Int) < (o0 : Int)) = true := by simp; omega
      clear hI hlen
      go_enter Try.func4, Try.ntmps4
      go_wp2_with (fail)
      refine (HL.out _).mono ?_
      rintro e w3 ⟨rfl, T3⟩
      go_wp2
      go_ret
      exact ⟨rfl, T3⟩
    · have d1 : decide ((4611686018427387904 : Int) < (o0 : Int)) = false := by simp; omega
      have H1 := Lib.hid (C.new_ o0 w ho0)
      have HLEN := Lib.hid hlen
      clear hI hlen
      go_enter Try.func4, Try.ntmps4
      go_wp2_with (fail)
      refine H1.out.mono ?_
      rintro e w1 ⟨ga, rfl, hga, La, T1⟩
      have HA := Lib.hid La
      clear La
      go_wp2_with (fail)
      go_loopw [6, 7, 8] (fun so sk i wr => ∃ j o k : Nat, j ≤ n ∧ so = .int .u64 (o : Int) ∧ sk = .int .u64 (k : Int) ∧ i = .int .i64 (j : Int) ∧ o ≤ o0 + j ∧ k ≤ o0 + j ∧ Hid (L wr ga o k) ∧ Below w.heap.size w wr) (fun _ _ i _ => n - (intOf i).toNat)
      case atStart => exact ⟨0, o0, o0, Nat.zero_le _, rfl, rfl, rfl, Nat.le_refl _, Nat.le_refl _, HA, T1⟩
      case round =>
        obtain ⟨j, o, k, hj, rfl, rfl, rfl, ho, hk, LA, hbel⟩ := hrel
        by_cases hlt : j < n
        · have e1 : decide ((j : Int) < (n : Int)) = true := by simp; omega
          obtain ⟨b, o', rfl, hbs, hcell⟩ := (HI.out _ (Below.refl _ w)).2.2.2.2 (by omega)
          have q0 := hcell j (by rw [HLEN.out]; exact hlt)
          have hjn : (j : Int) < (n : Int) := by omega
          generalize l[j]'(by rw [HLEN.out]; exact hlt) = x at *
          have QX : Hid (∀ W, Below w.heap.size w W → W.cell? ⟨b, o' + j, none⟩ = some (.int .i64 x)) := fun W h => (h.cell (p := ⟨b, o' + j, none⟩) hbs).trans q0
          have q := QX.out _ hbel
          have n1 : ((o : Int) != (o : Int)) = false := by simp
          have n2 : ((k : Int) != (k : Int)) = false := by simp
          have so : ldS o = false := by unfold ldS; simp; omega
          clear hcell q0
          by_cases x0 : x = 0
          · subst x0
            obtain ⟨p, hp⟩ : ∃ p, o + 1 = p := ⟨_, rfl⟩
            have hp2 : p ≤ o0 + (j + 1) := by omega
            have hw : IntKind.u64.wrap ((o : Int) + 1) = (p : Int) := by rw [IntWalk.u64_in _ (by omega)]; omega
            have m1 : ((p : Int) != (p : Int)) = false := by simp
            have sp : ldS p = false := by unfold ldS; simp; omega
            have A1 := C.ask ga o k wr (by omega) (by omega) LA.out
            rw [so, show ldAsk o = p by unfold ldAsk; rw [so]; exact hp] at A1
            have A1 := Lib.hid A1
            clear hp
            go_wp2_with (fail)
            refine A1.out.mono ?_
            rintro e v1 ⟨rfl, L1, O1⟩
            have LH := Lib.hid L1
            have hb1 := then_off hbel O1 hga hbel.size
            clear L1 O1 q
            have qz := QX.out _ hb1
            go_wp2_with (fail)
            refine (C.out ga p k _ LH.out).mono ?_
            rintro e z1 ⟨rfl, Z1⟩
            have LZ1 := Lib.hid (C.below LH.out Z1)
            have hz1 := nxt hb1 Z1
            go_wp2_with (fail)
            refine (C.marked ga p k _ LZ1.out).mono ?_
            rintro e z2 ⟨rfl, Z2⟩
            have LZ2 := Lib.hid (C.below LZ1.out Z2)
            have hz2 := nxt hz1 Z2
            go_wp2_with (fail)
            refine (C.spent ga p k _ LZ2.out).mono ?_
            rintro e z3 ⟨rfl, Z3⟩
            have LZ3 := Lib.hid (C.below LZ2.out Z3)
            have hz3 := nxt hz2 Z3
            clear qz
            rw [sp]
            go_wp2
            go_roundw
            case rel => exact ⟨j + 1, p, k, by omega, rfl, rfl, by go_num, hp2, by omega, LZ3, hz3⟩
            case measure => simp [intOf]; omega
          have y0 : (x == 0) = false := by simpa using x0
          by_cases x1 : x = 1
          · subst x1
            have A1 := C.hear ga o k wr (by omega) (by omega) LA.out
            by_cases hz : o = 0
            · subst hz
              have A1 := Lib.hid A1
              go_wp2_with (fail)
              refine A1.out.mono ?_
              rintro e v1 ⟨rfl, L1, O1⟩
              have LH : Hid (L v1 ga 0 k) := L1
              have hb1 := then_off hbel O1 hga hbel.size
              have cz : ldCan 0 = false := rfl
              rw [cz]
              clear L1 O1 q
              have qz := QX.out _ hb1
              go_wp2_with (fail)
              refine (C.out ga 0 k _ LH.out).mono ?_
              rintro e z1 ⟨rfl, Z1⟩
              have LZ1 := Lib.hid (C.below LH.out Z1)
              have hz1 := nxt hb1 Z1
              go_wp2_with (fail)
              refine (C.marked ga 0 k _ LZ1.out).mono ?_
              rintro e z2 ⟨rfl, Z2⟩
              have LZ2 := Lib.hid (C.below LZ1.out Z2)
              have hz2 := nxt hz1 Z2
              go_wp2_with (fail)
              refine (C.spent ga 0 k _ LZ2.out).mono ?_
              rintro e z3 ⟨rfl, Z3⟩
              have LZ3 := Lib.hid (C.below LZ2.out Z3)
              have hz3 := nxt hz2 Z3
              clear qz
              rw [show ldS 0 = false from rfl]
              go_wp2
              go_roundw
              case rel => exact ⟨j + 1, 0, k, by omega, rfl, rfl, by go_num, by omega, by omega, LZ3, hz3⟩
              case measure => simp [intOf]; omega
            · obtain ⟨p, hp⟩ : ∃ p, o - 1 = p := ⟨_, rfl⟩
              have hp2 : p ≤ o0 + (j + 1) := by omega
              have hw : IntKind.u64.wrap ((o : Int) - 1) = (p : Int) := by rw [IntWalk.u64_in _ (by omega)]; omega
              have m1 : ((p : Int) != (p : Int)) = false := by simp
              have sp : ldS p = false := by unfold ldS; simp; omega
              have cz : ldCan o = true := by unfold ldCan; simp; omega
              rw [cz, show ldHear o = p by unfold ldHear; rw [cz]; exact hp] at A1
              have A1 := Lib.hid A1
              clear hp cz
              go_wp2_with (fail)
              refine A1.out.mono ?_
              rintro e v1 ⟨rfl, L1, O1⟩
              have LH := Lib.hid L1
              have hb1 := then_off hbel O1 hga hbel.size
              clear L1 O1 q
              have qz := QX.out _ hb1
              go_wp2_with (fail)
              refine (C.out ga p k _ LH.out).mono ?_
              rintro e z1 ⟨rfl, Z1⟩
              have LZ1 := Lib.hid (C.below LH.out Z1)
              have hz1 := nxt hb1 Z1
              go_wp2_with (fail)
              refine (C.marked ga p k _ LZ1.out).mono ?_
              rintro e z2 ⟨rfl, Z2⟩
              have LZ2 := Lib.hid (C.below LZ1.out Z2)
              have hz2 := nxt hz1 Z2
              go_wp2_with (fail)
              refine (C.spent ga p k _ LZ2.out).mono ?_
              rintro e z3 ⟨rfl, Z3⟩
              have LZ3 := Lib.hid (C.below LZ2.out Z3)
              have hz3 := nxt hz2 Z3
              clear qz
              rw [sp]
              go_wp2
              go_roundw
              case rel => exact ⟨j + 1, p, k, by omega, rfl, rfl, by go_num, hp2, by omega, LZ3, hz3⟩
              case measure => simp [intOf]; omega
          have y1 : (x == 1) = false := by simpa using x1
          by_cases x2 : x = 2
          · subst x2
            have A1 := C.mark ga o k wr (by omega) (by omega) LA.out
            rw [show ldMark o k = o by unfold ldMark; rw [so]; rfl] at A1
            have A1 := Lib.hid A1
            go_wp2_with (fail)
            refine A1.out.mono ?_
            rintro e v1 ⟨rfl, L1, O1⟩
            have LH := Lib.hid L1
            have hb1 := then_off hbel O1 hga hbel.size
            clear L1 O1 q
            have qz := QX.out _ hb1
            go_wp2_with (fail)
            refine (C.out ga o o _ LH.out).mono ?_
            rintro e z1 ⟨rfl, Z1⟩
            have LZ1 := Lib.hid (C.below LH.out Z1)
            have hz1 := nxt hb1 Z1
            go_wp2_with (fail)
            refine (C.marked ga o o _ LZ1.out).mono ?_
            rintro e z2 ⟨rfl, Z2⟩
            have LZ2 := Lib.hid (C.below LZ1.out Z2)
            have hz2 := nxt hz1 Z2
            go_wp2_with (fail)
            refine (C.spent ga o o _ LZ2.out).mono ?_
            rintro e z3 ⟨rfl, Z3⟩
            have LZ3 := Lib.hid (C.below LZ2.out Z3)
            have hz3 := nxt hz2 Z3
            clear qz
            rw [so]
            go_wp2
            go_roundw
            case rel => exact ⟨j + 1, o, o, by omega, rfl, rfl, by go_num, by omega, by omega, LZ3, hz3⟩
            case measure => simp [intOf]; omega
          have y2 : (x == 2) = false := by simpa using x2
          go_wp2_with (fail)
          refine (C.out ga o k _ LA.out).mono ?_
          rintro e z1 ⟨rfl, Z1⟩
          have LZ1 := Lib.hid (C.below LA.out Z1)
          have hz1 := nxt hbel Z1
          go_wp2_with (fail)
          refine (C.marked ga o k _ LZ1.out).mono ?_
          rintro e z2 ⟨rfl, Z2⟩
          have LZ2 := Lib.hid (C.below LZ1.out Z2)
          have hz2 := nxt hz1 Z2
          go_wp2_with (fail)
          refine (C.spent ga o k _ LZ2.out).mono ?_
          rintro e z3 ⟨rfl, Z3⟩
          have LZ3 := Lib.hid (C.below LZ2.out Z3)
          have hz3 := nxt hz2 Z3
          rw [so]
          go_wp2
          go_roundw
          case rel => exact ⟨j + 1, o, k, by omega, rfl, rfl, by go_num, by omega, by omega, LZ3, hz3⟩
          case measure => simp [intOf]; omega
        · obtain rfl : j = n := by omega
          have e1 : decide ((j : Int) < (j : Int)) = false := by simp
          go_wp2_with (fail)
          refine (HL.out _).mono ?_
          rintro e v1 ⟨rfl, V1⟩
          have hb1 := nxt hbel V1
          go_wp2
          go_ret
          exact ⟨rfl, hb1⟩
end Go.Proofs.Ytgkjcnbijbnfpaa
