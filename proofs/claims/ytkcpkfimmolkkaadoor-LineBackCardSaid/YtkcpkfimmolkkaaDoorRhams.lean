/- Joined: Rham1 Rham2. -/
import Derived.Test.YtkcpkfimmolkkaaDoorWords
import Derived.Test.YtkcpkfimmolkkaaDoorFacts
import Derived.Deep.RegionHeld3
import Derived.Deep.RegionLaw
/- What kedgeref10's Bit, Word, Apart, Half answer. -/
namespace Go.Proofs.YtkcpkfimmolkkaaDoor
open Go.RowKit
set_option maxRecDepth 20000

theorem ret_i {k : IntKind} {x y : Int} (h : x = y) : Ending.returned (.int k x) = Ending.returned (.int k y) := by rw [h]
set_option maxHeartbeats 1000000 in
theorem rbit_any (n p : Nat) (w : World) (hn : n ≤ 1000000) (hp : p ≤ 64) :
    Calls Tryd.prog 81 #[.int .i64 (n : Int), .int .i64 (p : Int)] w fun e w' => e = .returned (.int .i64 ((bitA n p : Nat) : Int)) ∧ w = w' := by
  obtain ⟨B, hB⟩ : ∃ B, bitA n p = B := ⟨_, rfl⟩
  have HB := Lib.hid hB
  rw [hB]
  clear hB
  go_enter Tryd.func81, Tryd.ntmps81
  go_wp2_with (fail)
  go_loopw [0, 5] (fun s i wr => ∃ j m : Nat, j ≤ p ∧ s = .int .i64 (m : Int) ∧ Hid (m = n / 2 ^ j) ∧ i = .int .i64 (j : Int) ∧ w = wr) (fun _ i _ => p - (intOf i).toNat)
  case atStart => exact ⟨0, n, Nat.zero_le _, rfl, (by show n = n / 2 ^ 0; simp), rfl, rfl⟩
  case round =>
    obtain ⟨j, m, hj, rfl, HM, rfl, rfl⟩ := hrel
    have hm : m ≤ n := by rw [HM.out]; exact Nat.div_le_self _ _
    by_cases hlt : j < p
    · have d1 : decide ((j : Int) < (p : Int)) = true := by simp; omega
      obtain ⟨m', hm'⟩ : ∃ m', m / 2 = m' := ⟨_, rfl⟩
      have e1 : (m : Int) / 2 = (m' : Int) := by omega
      have HN : Hid (m' = n / 2 ^ (j + 1)) := by show _ = _; rw [← hm', HM.out, Nat.pow_succ, Nat.div_div_eq_div_mul]
      clear hm'
      go_wp2
      go_roundw
      case rel => exact ⟨j + 1, m', by omega, rfl, HN.out, by go_num, trivial⟩
      case measure => simp [intOf]; omega
    · have d1 : decide ((j : Int) < (p : Int)) = false := by simp; omega
      obtain rfl : j = p := by omega
      have HE : Hid ((B : Int) = (m : Int) % 2) := by
        have := HB.out
        unfold bitA at this
        rw [← HM.out] at this
        show _ = _
        omega
      go_wp2
      go_ret
      exact ⟨ret_i HE.out.symm, rfl⟩
/-- the word out of the four bits -/
def wordF (a b c d : Nat) : Nat := (a + b + c + d + (a + b + d) % 2 + (a + c + d) % 2 + (b + c + d) % 2) % 2 + 2 * ((a + b + d) % 2) + 4 * ((a + c + d) % 2) + 8 * a + 16 * ((b + c + d) % 2) + 32 * b + 64 * c + 128 * d
set_option maxHeartbeats 4000000 in
theorem rword_any (h : Nat) (w : World) (hh : h ≤ 1000000) :
    Calls Tryd.prog 59 #[.int .i64 (h : Int)] w fun e w' => e = .returned (.int .i64 ((wordN h : Nat) : Int)) ∧ w = w' := by
  have H0 := Lib.hid (rbit_any h 0 w hh (by decide))
  have H1 := Lib.hid (rbit_any h 1 w hh (by decide))
  have H2 := Lib.hid (rbit_any h 2 w hh (by decide))
  have H3 := Lib.hid (rbit_any h 3 w hh (by decide))
  have l0 : bitA h 0 = 0 ∨ bitA h 0 = 1 := by have := bitA_lt h 0; omega
  have l1 : bitA h 1 = 0 ∨ bitA h 1 = 1 := by have := bitA_lt h 1; omega
  have l2 : bitA h 2 = 0 ∨ bitA h 2 = 1 := by have := bitA_lt h 2; omega
  have l3 : bitA h 3 = 0 ∨ bitA h 3 = 1 := by have := bitA_lt h 3; omega
  have hW : wordN h = wordF (bitA h 0) (bitA h 1) (bitA h 2) (bitA h 3) := rfl
  rw [hW]
  clear hW
  rcases l0 with l0 | l0 <;> rcases l1 with l1 | l1 <;> rcases l2 with l2 | l2 <;> rcases l3 with l3 | l3 <;> rw [l0] at H0 <;> rw [l1] at H1 <;> rw [l2] at H2 <;> rw [l3] at H3 <;> rw [l0, l1, l2, l3] <;> clear l0 l1 l2 l3
  all_goals
    go_enter Tryd.func59, Tryd.ntmps59
    go_wp2_with (fail)
    refine H0.out.mono ?_
    rintro e w1 ⟨rfl, rfl⟩
    go_wp2_with (fail)
    refine H1.out.mono ?_
    rintro e w1 ⟨rfl, rfl⟩
    go_wp2_with (fail)
    refine H2.out.mono ?_
    rintro e w1 ⟨rfl, rfl⟩
    go_wp2_with (fail)
    refine H3.out.mono ?_
    rintro e w1 ⟨rfl, rfl⟩
    go_wp2
    go_ret
    exact ⟨rfl, rfl⟩
set_option maxHeartbeats 2000000 in
theorem rapart_any (a b : Nat) (w : World) (ha : a ≤ 1000000) (hb : b ≤ 1000000) :
    Calls Tryd.prog 87 #[.int .i64 (a : Int), .int .i64 (b : Int)] w fun e w' => e = .returned (.int .i64 ((apartN a b : Nat) : Int)) ∧ w = w' := by
  have HA := Lib.hid (fun p hp => rbit_any a p w ha hp)
  have HB := Lib.hid (fun p hp => rbit_any b p w hb hp)
  have HR : Hid (apartN a b = apartK a b 8) := rfl
  generalize apartN a b = R at *
  go_enter Tryd.func87, Tryd.ntmps87
  go_wp2_with (fail)
  go_loopw [5, 6] (fun s i wr => ∃ j m : Nat, j ≤ 8 ∧ s = .int .i64 (m : Int) ∧ Hid (m = apartK a b j) ∧ m ≤ 8 ∧ i = .int .i64 (j : Int) ∧ w = wr) (fun _ i _ => 8 - (intOf i).toNat)
  case atStart => exact ⟨0, 0, by decide, rfl, rfl, by decide, rfl, rfl⟩
  case round =>
    obtain ⟨j, m, hj, rfl, HM, hm8, rfl, rfl⟩ := hrel
    by_cases hlt : j < 8
    · have d1 : decide ((j : Int) < 8) = true := by simp; omega
      have H1 := Lib.hid (HA.out j (by omega))
      have H2 := Lib.hid (HB.out j (by omega))
      have hst : apartK a b (j + 1) = apartK a b j + if bitA a j = bitA b j then 0 else 1 := rfl
      have hle := apartK_le a b (j + 1)
      rw [← HM.out] at hst
      generalize bitA a j = x at *
      generalize bitA b j = y at *
      by_cases hxy : x = y
      · have d2 : ((x : Int) != (y : Int)) = false := by simp; omega
        rw [if_pos hxy] at hst
        have HS : Hid (m = apartK a b (j + 1)) := by show _ = _; omega
        clear hst hle hxy
        go_wp2_with (fail)
        refine H1.out.mono ?_
        rintro e w1 ⟨rfl, rfl⟩
        go_wp2_with (fail)
        refine H2.out.mono ?_
        rintro e w1 ⟨rfl, rfl⟩
        go_wp2
        go_roundw
        case rel => exact ⟨j + 1, m, by omega, rfl, HS.out, hm8, by go_num, trivial⟩
        case measure => simp [intOf]; omega
      · have d2 : ((x : Int) != (y : Int)) = true := by simp; omega
        rw [if_neg hxy] at hst
        have HS : Hid (m + 1 = apartK a b (j + 1)) := by show _ = _; omega
        have hm7 : m + 1 ≤ 8 := by omega
        clear hst hle hxy
        go_wp2_with (fail)
        refine H1.out.mono ?_
        rintro e w1 ⟨rfl, rfl⟩
        go_wp2_with (fail)
        refine H2.out.mono ?_
        rintro e w1 ⟨rfl, rfl⟩
        go_wp2
        go_roundw
        case rel => exact ⟨j + 1, m + 1, by omega, by go_num, HS.out, hm7, by go_num, trivial⟩
        case measure => simp [intOf]; omega
    · have d1 : decide ((j : Int) < 8) = false := by simp; omega
      obtain rfl : j = 8 := by omega
      have HE : Hid ((m : Int) = (R : Int)) := by show _ = _; rw [HM.out, HR.out]
      go_wp2
      go_ret
      exact ⟨ret_i HE.out, rfl⟩
set_option maxHeartbeats 2000000 in
theorem rhalf_any (x : Nat) (w : World) (hx : x ≤ 255) :
    Calls Tryd.prog 75 #[.int .i64 (x : Int)] w fun e w' => e = .returned (.tuple #[.int .i64 (((halfN x).1 : Nat) : Int), .int .i64 (((halfN x).2.1 : Nat) : Int), .int .i64 (((halfN x).2.2 : Nat) : Int)]) ∧ w = w' := by
  have HW := Lib.hid (fun h hh => rword_any h w hh)
  have HA := Lib.hid (fun a ha => rapart_any a x w ha (by omega))
  have HS := Lib.hid (fun k (hk : k < 16) hn h1 => halfN_some x k hk hn h1)
  have HN := Lib.hid (fun hn => halfN_none x hn)
  generalize halfN x = r at *
  obtain ⟨r1, r2, r3⟩ := r
  go_enter Tryd.func75, Tryd.ntmps75
  go_wp2_with (fail)
  go_loopw [5] (fun i wr => ∃ j : Nat, j ≤ 16 ∧ i = .int .i64 (j : Int) ∧ Hid (∀ h, h < j → 1 < apartN (wordN h) x) ∧ w = wr) (fun i _ => 16 - (intOf i).toNat)
  case atStart => exact ⟨0, by decide, rfl, fun h hh => absurd hh (by omega), rfl⟩
  case round =>
    obtain ⟨j, hj, rfl, HJ, rfl⟩ := hrel
    by_cases hlt : j < 16
    · have d1 : decide ((j : Int) < 16) = true := by simp; omega
      have H1 := Lib.hid (HW.out j (by omega))
      have hwl := wordN_lt j
      have H2 := Lib.hid (HA.out (wordN j) (by omega))
      have hs := HS.out j hlt HJ.out
      have hj1 := HJ.out
      have hnx : 1 < apartN (wordN j) x → ∀ h, h < j + 1 → 1 < apartN (wordN h) x := fun h1 h hh => by
        by_cases e : h = j
        · subst e; exact h1
        · exact hj1 h (by omega)
      have HNX := Lib.hid hnx
      clear hnx hj1
      generalize apartN (wordN j) x = n at *
      generalize wordN j = wd at *
      by_cases h1 : n ≤ 1
      · have d2 : decide ((n : Int) ≤ 1) = true := by simp; omega
        have he := hs h1
        simp only [Prod.mk.injEq] at he
        obtain ⟨rfl, rfl, rfl⟩ := he
        clear hs HNX
        go_wp2_with (fail)
        refine H1.out.mono ?_
        rintro e w1 ⟨rfl, rfl⟩
        go_wp2_with (fail)
        refine H2.out.mono ?_
        rintro e w1 ⟨rfl, rfl⟩
        go_wp2
        go_ret3
        exact ⟨rfl, rfl⟩
      · have d2 : decide ((n : Int) ≤ 1) = false := by simp; omega
        have HQ := Lib.hid (HNX.out (by omega))
        clear hs HNX
        go_wp2_with (fail)
        refine H1.out.mono ?_
        rintro e w1 ⟨rfl, rfl⟩
        go_wp2_with (fail)
        refine H2.out.mono ?_
        rintro e w1 ⟨rfl, rfl⟩
        go_wp2
        go_roundw
        case rel => exact ⟨j + 1, by omega, by go_num, HQ.out, trivial⟩
        case measure => simp [intOf]; omega
    · have d1 : decide ((j : Int) < 16) = false := by simp; omega
      obtain rfl : j = 16 := by omega
      have he := HN.out HJ.out
      simp only [Prod.mk.injEq] at he
      obtain ⟨rfl, rfl, rfl⟩ := he
      go_wp2
      go_ret3
      exact ⟨rfl, rfl⟩
end Go.Proofs.YtkcpkfimmolkkaaDoor

/- What kedgeref10's Pack and Unpack answer. -/
namespace Go.Proofs.YtkcpkfimmolkkaaDoor
open Go.RowKit
set_option maxRecDepth 20000

set_option maxHeartbeats 4000000 in
theorem rpack_any (A : Option Addr) (n c : Nat) (b : List UInt8) (w : World) (hB : Bys w A n c b) :
    Calls Tryd.prog 32 #[.slice A n c] w (GivesB w (packB b)) := by
  have hl := hB.len
  have hnc := hB.le
  have hcm := hB.cap
  subst hl
  by_cases h1 : 4096 < b.length
  · have d1 : decide ((4096 : Int) < (b.length : Int)) = true := by simp; omega
    have HR : Hid (packB b = []) := by show _ = _; unfold packB; rw [if_pos h1]
    clear h1 hB
    go_enter Tryd.func32, Tryd.ntmps32
    go_wp2
    go_ret
    exact ⟨_, _, _, rfl, by rw [HR.out]; exact Bys.nil _, Below.refl _ _⟩
  · have d1 : decide ((4096 : Int) < (b.length : Int)) = false := by simp; omega
    have HR : Hid (packB b = packL b) := by show _ = _; unfold packB; rw [if_neg h1]
    have HC := Lib.hid hB.at_
    clear hB
    go_enter Tryd.func32, Tryd.ntmps32
    go_wp2_with (fail)
    go_loopw [3, 4] (fun v i wr => ∃ j : Nat, j ≤ b.length ∧ i = .int .i64 (j : Int) ∧ wr.ownsRow w.heap.size 5 1 v (2 * j) (bvs (packL (b.take j))) ∧ Below w.heap.size w wr) (fun _ i _ => b.length - (intOf i).toNat)
    case atStart => exact ⟨0, Nat.zero_le _, rfl, World.ownsRow_nil _ _ _ _, Below.refl _ _⟩
    case round =>
      obtain ⟨j, hj, rfl, hown, hbel⟩ := hrel
      by_cases hlt : j < b.length
      · have d2 : decide ((j : Int) < (b.length : Int)) = true := by simp; omega
        have hlt2 : (j : Int) < (b.length : Int) := by omega
        obtain ⟨g, o, rfl, hg, hc⟩ := HC.out (by omega)
        have c1 := (hbel.cell (p := ⟨g, o + j, none⟩) hg).trans (hc j hlt)
        have HC0 := Lib.hid (hc j hlt)
        have HT := Lib.hid (packL_take b j hlt)
        generalize b[j] = x at *
        have hx := x.toNat_lt
        obtain ⟨q, hq⟩ : ∃ q, x.toNat / 16 = q := ⟨_, rfl⟩
        obtain ⟨r, hr⟩ : ∃ r, x.toNat % 16 = r := ⟨_, rfl⟩
        have e1 : (x.toNat : Int) / 16 = (q : Int) := by omega
        have e2 : (x.toNat : Int) % 16 = (r : Int) := by omega
        rw [hq, hr] at HT
        have H1 : Hid (∀ (z : Int) W, z = (q : Int) → Calls Tryd.prog 59 #[.int .i64 z] W fun e w' => e = .returned (.int .i64 ((wordN q : Nat) : Int)) ∧ W = w') := fun z W e => by subst e; exact rword_any q W (by omega)
        have H2 : Hid (∀ (z : Int) W, z = (r : Int) → Calls Tryd.prog 59 #[.int .i64 z] W fun e w' => e = .returned (.int .i64 ((wordN r : Nat) : Int)) ∧ W = w') := fun z W e => by subst e; exact rword_any r W (by omega)
        have HE1 := Lib.hid e1
        have HE2 := Lib.hid e2
        have l1 := wordN_lt q
        have l2 := wordN_lt r
        have n1 := wordB_num q
        have n2 := wordB_num r
        have hnew : Hid (∀ (W : World) (y z : Int), y = ((wordN q : Nat) : Int) → z = ((wordN r : Nat) : Int) → Bys (W.alloc (.cells #[.int .u8 y, .int .u8 z] 5)) (some ⟨W.heap.size, 0, none⟩) 2 2 [wordB q, wordB r]) := fun W y z hy hz => by
          subst hy hz
          have h := Bys.lit W [wordB q, wordB r] (by simp)
          have e : bvs [wordB q, wordB r] = [.int .u8 ((wordN q : Nat) : Int), .int .u8 ((wordN r : Nat) : Int)] := by
            show [Value.int .u8 ((wordB q).toNat : Int), Value.int .u8 ((wordB r).toNat : Int)] = _
            rw [n1, n2]
          rw [e] at h
          exact h
        clear hc n1 n2 hq hr
        generalize wordN q = wq at *
        generalize wordN r = wr' at *
        have w1 : IntKind.u8.wrap (wq : Int) = (wq : Int) := IntWalk.u8_in _ (by omega)
        have w2 : IntKind.u8.wrap (wr' : Int) = (wr' : Int) := IntWalk.u8_in _ (by omega)
        have HC1 : Hid (IntKind.i64.wrap ((IntKind.i64.wrap (x.toNat : Int)).tdiv 16) = (q : Int)) := by
          show _ = _
          rw [IntWalk.i64_in (x.toNat : Int) (by omega), Int.tdiv_eq_ediv_of_nonneg (by omega), e1, IntWalk.i64_in _ (by omega)]
        have HC2 : Hid ((IntKind.i64.wrap (x.toNat : Int)).tmod 16 = (r : Int)) := by
          show _ = _
          rw [IntWalk.i64_in (x.toNat : Int) (by omega), Int.tmod_eq_emod_of_nonneg (by omega)]
          exact e2
        have HV1 := Lib.hid w1
        have HV2 := Lib.hid w2
        clear w1 w2
        have HON := Lib.hid hown
        have hz := hbel.size
        have HK : Hid (∀ ob, (wr.alloc ob).drew.cell? ⟨g, o + j, none⟩ = some (.int .u8 (x.toNat : Int))) := fun ob => ((hbel.alloc hz ob).drew.cell (p := ⟨g, o + j, none⟩) hg).trans HC0.out
        clear hown
        go_wp2_with (fail)
        go_region_held3 (fun w' => w'.cell? ⟨g, o + j, none⟩ = some (.int .u8 (x.toNat : Int))) (first | exact c1 | exact q5 | exact HK.out _)
          (first
            | (go_at_call 59; (with_reducible refine (H1.out _ _ ?_).mono ?_); (first | exact HC1.out | exact HE1.out | rfl); rintro e w3 ⟨rfl, rfl⟩)
            | (go_at_call 59; (with_reducible refine (H2.out _ _ ?_).mono ?_); (first | exact HC2.out | exact HE2.out | rfl); rintro e w4 ⟨rfl, rfl⟩)
            | ((refine step_bys _ rfl (.tmp 14) (.tmp 31) rfl w.heap.size u3 (2 * j) (bvs (packL (b.take j))) rfl ?_ (some ⟨wr.heap.size, 0, none⟩) 2 2 [wordB q, wordB r] rfl ?_ ?_ ?_ ?_); (exact HON.out.drew.alloc _); (first | exact hnew.out wr.drew _ _ HV1.out HV2.out | exact hnew.out wr.drew _ _ rfl rfl); (omega); (simp; omega); intro v2 w5 hown3 hgrow2 hwhere2; have T5 := (hbel.alloc hz _).drew.grown hgrow2 (by simp; omega) (fun g hg => (HON.out.lt g hg).1); have q5 := (T5.cell (p := ⟨g, o + j, none⟩) hg).trans HC0.out))
        all_goals
          rw [← bvs_append, ← HT.out] at hown3
          have HO3 := Lib.hid hown3
          clear hown3 hgrow2
          go_wp2
          go_roundw
          case rel => exact ⟨j + 1, by omega, by go_num, by rw [show 2 * (j + 1) = 2 * j + 2 by omega]; exact HO3.out, T5⟩
          case measure => simp [intOf]; omega
      · have d2 : decide ((j : Int) < (b.length : Int)) = false := by simp; omega
        obtain rfl : j = b.length := by omega
        rw [List.take_length, ← HR.out] at hown
        obtain ⟨A2, c2, rfl⟩ := own_shape hown
        have HBB := Lib.hid (Bys.of_own hown)
        clear hown
        go_wp2
        go_ret
        exact ⟨_, _, _, rfl, HBB.out, hbel⟩
/-- what Unpack's call tells -/
def GivesUn (w : World) (r : List UInt8 × Nat × Nat) (e : Ending) (w' : World) : Prop :=
  ∃ A n c, e = .returned (.tuple #[.slice A n c, .int .i64 (r.2.1 : Int), .int .i64 (r.2.2 : Int)]) ∧ Bys w' A n c r.1 ∧ Below w.heap.size w w'
theorem unpack_long {l : List UInt8} (h : 8192 < l.length) : unpackB l = ([], 0, 2) := by unfold unpackB; rw [if_pos h]
theorem unpack_odd {l : List UInt8} (h : ¬ 8192 < l.length) (h2 : l.length % 2 ≠ 0) : unpackB l = ([], 0, 1) := by unfold unpackB; rw [if_neg h, if_pos h2]
theorem unpack_bad {l : List UInt8} (h : ¬ 8192 < l.length) (h2 : ¬ l.length % 2 ≠ 0) (h3 : unpL l = none) : unpackB l = ([], 0, 100) := by unfold unpackB; rw [if_neg h, if_neg h2, h3]
theorem unpack_ok {l o : List UInt8} {n : Nat} (h : ¬ 8192 < l.length) (h2 : ¬ l.length % 2 ≠ 0) (h3 : unpL l = some (o, n)) : unpackB l = (o, n, 0) := by unfold unpackB; rw [if_neg h, if_neg h2, h3]
set_option maxHeartbeats 4000000 in
theorem runpack_any (A : Option Addr) (n c : Nat) (l : List UInt8) (w : World) (hB : Bys w A n c l) :
    Calls Tryd.prog 45 #[.slice A n c] w (GivesUn w (unpackB l)) := by
  have hl := hB.len
  have hnc := hB.le
  have hcm := hB.cap
  subst hl
  by_cases h1 : 8192 < l.length
  · have d1 : decide ((8192 : Int) < (l.length : Int)) = true := by simp; omega
    have HR := Lib.hid (unpack_long h1)
    clear h1 hB
    go_enter Tryd.func45, Tryd.ntmps45
    go_wp2
    go_ret3
    exact ⟨_, _, _, by rw [HR.out]; rfl, by rw [HR.out]; exact Bys.nil _, Below.refl _ _⟩
  · have d1 : decide ((8192 : Int) < (l.length : Int)) = false := by simp; omega
    by_cases h2 : l.length % 2 = 0
    · obtain ⟨N, hN⟩ : ∃ N, l.length = 2 * N := ⟨l.length / 2, by omega⟩
      have d2 : (((l.length : Int) % 2) != 0) = false := by simp; omega
      have HBAD := Lib.hid (fun h3 => unpack_bad h1 (by omega) (l := l) h3)
      have HOK := Lib.hid (fun o n h3 => unpack_ok h1 (by omega) (l := l) (o := o) (n := n) h3)
      have HC := Lib.hid hB.at_
      have hlN : l.length ≤ 2 * N := by omega
      have hlN2 : 2 * N ≤ l.length := by omega
      have hN8 : N ≤ 4096 := by omega
      have HLN := Lib.hid hN
      clear hB hN h1 h2
      go_enter Tryd.func45, Tryd.ntmps45
      go_wp2_with (fail)
      go_loopw [5, 6, 7] (fun v s i wr => ∃ (j m : Nat) (o : List UInt8), j ≤ N ∧ s = .int .i64 (m : Int) ∧ i = .int .i64 (2 * (j : Int)) ∧ Hid (unpL (l.take (2 * j)) = some (o, m)) ∧ m ≤ 16 * j ∧ wr.ownsRow w.heap.size 5 1 v j (bvs o) ∧ Below w.heap.size w wr) (fun _ _ i _ => 2 * N - (intOf i).toNat)
      case atStart => exact ⟨0, 0, [], Nat.zero_le _, rfl, rfl, rfl, by decide, World.ownsRow_nil _ _ _ _, Below.refl _ _⟩
      case round =>
        obtain ⟨j, m, o, hj, rfl, rfl, HU, hm, hown, hbel⟩ := hrel
        by_cases hlt : j < N
        · have d3 : decide (2 * (j : Int) < (l.length : Int)) = true := by simp; omega
          obtain ⟨g, ao, rfl, hg, hc⟩ := HC.out (by omega)
          have c1 := (hbel.cell (p := ⟨g, ao + 2 * j, none⟩) hg).trans (hc (2 * j) (by omega))
          have c2 := (hbel.cell (p := ⟨g, ao + (2 * j + 1), none⟩) hg).trans (hc (2 * j + 1) (by omega))
          have hsn := unpL_snoc j (l.take (2 * j)) (l[2 * j]'(by omega)) (l[2 * j + 1]'(by omega)) (by simp; omega) o m HU.out
          have htk : l.take (2 * j) ++ [l[2 * j]'(by omega), l[2 * j + 1]'(by omega)] = l.take (2 * (j + 1)) := by
            rw [show 2 * (j + 1) = 2 * j + 1 + 1 by omega, List.take_succ_eq_append_getElem (show 2 * j + 1 < l.length by omega), List.take_succ_eq_append_getElem (show 2 * j < l.length by omega), List.append_assoc]
            rfl
          rw [htk] at hsn
          have hbad := unpL_bad j (l.take (2 * j)) (l[2 * j]'(by omega)) (l[2 * j + 1]'(by omega)) (l.drop (2 * j + 1 + 1)) (by simp; omega)
          have hall : l.take (2 * j) ++ l[2 * j]'(by omega) :: l[2 * j + 1]'(by omega) :: l.drop (2 * j + 1 + 1) = l := by
            rw [← List.drop_eq_getElem_cons (show 2 * j + 1 < l.length by omega), ← List.drop_eq_getElem_cons (show 2 * j < l.length by omega), List.take_append_drop]
          rw [hall] at hbad
          clear htk hall hc
          generalize l[2 * j]'(by omega) = x at *
          generalize l[2 * j + 1]'(by omega) = y at *
          have hx := x.toNat_lt
          have hy := y.toNat_lt
          have H1 := Lib.hid (fun W => rhalf_any x.toNat W (by omega))
          have H2 := Lib.hid (fun W => rhalf_any y.toNat W (by omega))
          have k1 := halfN_lt x.toNat
          have k2 := halfN_lt y.toNat
          generalize halfN x.toNat = r1 at *
          generalize halfN y.toNat = r2 at *
          obtain ⟨h1, n1, e1⟩ := r1
          obtain ⟨h2, n2, e2⟩ := r2
          simp only at hsn hbad k1 k2
          have HON := Lib.hid hown
          have hz := hbel.size
          clear hown
          by_cases hok : e1 = 0 ∧ e2 = 0
          · obtain ⟨rfl, rfl⟩ := hok
            rw [if_pos ⟨rfl, rfl⟩] at hsn
            obtain ⟨z, hz16⟩ : ∃ z, 16 * h1 + h2 = z := ⟨_, rfl⟩
            rw [hz16] at hsn
            have hzz : 16 * (h1 : Int) + (h2 : Int) = (z : Int) := by omega
            have hz256 : z < 256 := by omega
            have hzm : (z : Int) % 256 = (z : Int) := by omega
            have HSN := Lib.hid hsn
            have hnew : Hid (∀ W : World, Bys (W.alloc (.cells #[.int .u8 (z : Int)] 5)) (some ⟨W.heap.size, 0, none⟩) 1 1 [UInt8.ofNat z]) := fun W => by
              have h := Bys.lit W [UInt8.ofNat z] (by simp)
              have e : bvs [UInt8.ofNat z] = [.int .u8 (z : Int)] := by
                show [Value.int .u8 ((UInt8.ofNat z).toNat : Int)] = _
                rw [UInt8.toNat_ofNat', Nat.mod_eq_of_lt (by omega)]
              rw [e] at h
              exact h
            clear hsn hbad hz16 HBAD
            go_wp2_with (fail)
            refine (H1.out _).mono ?_
            rintro e w1 ⟨rfl, rfl⟩
            go_wp2_with (fail)
            refine (H2.out _).mono ?_
            rintro e w2 ⟨rfl, rfl⟩
            go_wp2_with ((with_reducible refine app_bys _ rfl (.tmp 54) (.tmp 60) rfl w.heap.size u5 j (bvs o) rfl ?_ (some ⟨wr.heap.size, 0, none⟩) 1 1 [UInt8.ofNat z] rfl ?_ ?_ ?_ ?_); (exact HON.out.alloc _); (exact hnew.out wr); (omega); (simp; omega); intro v3 w3 hown3 hgrow3 hwhere3)
            go_roundw
            case rel =>
              rw [← bvs_append] at hown3
              exact ⟨j + 1, m + n1 + n2, o ++ [UInt8.ofNat z], by omega, by go_num, by go_num, HSN.out, by omega, hown3, (hbel.alloc hz _).grown hgrow3 (by simp; omega) (fun g hg => (HON.out.lt g hg).1)⟩
            case measure => simp [intOf]; omega
          · have HR := Lib.hid (HBAD.out (hbad (by omega)))
            clear hsn hbad HOK HBAD
            by_cases he1 : e1 = 0
            · subst he1
              have he2 : e2 = 100 := by omega
              subst he2
              go_wp2_with (fail)
              refine (H1.out _).mono ?_
              rintro e w1 ⟨rfl, rfl⟩
              go_wp2_with (fail)
              refine (H2.out _).mono ?_
              rintro e w2 ⟨rfl, rfl⟩
              go_wp2
              go_ret3
              exact ⟨_, _, _, by rw [HR.out]; rfl, by rw [HR.out]; exact Bys.nil _, hbel⟩
            · have he2 : e1 = 100 := by omega
              subst he2
              go_wp2_with (fail)
              refine (H1.out _).mono ?_
              rintro e w1 ⟨rfl, rfl⟩
              go_wp2_with (fail)
              refine (H2.out _).mono ?_
              rintro e w2 ⟨rfl, rfl⟩
              go_wp2
              go_ret3
              exact ⟨_, _, _, by rw [HR.out]; rfl, by rw [HR.out]; exact Bys.nil _, hbel⟩
        · have d3 : decide (2 * (j : Int) < (l.length : Int)) = false := by simp; omega
          have hu := HU.out
          rw [show 2 * j = l.length by omega, List.take_length] at hu
          have HR := Lib.hid (HOK.out o m hu)
          obtain ⟨A2, c2, rfl⟩ := own_shape hown
          have HBB := Lib.hid (Bys.of_own hown)
          clear hown hu HBAD HOK
          go_wp2
          go_ret3
          exact ⟨_, _, _, by rw [HR.out]; rfl, by rw [HR.out]; exact HBB.out, hbel⟩
    · have d2 : (((l.length : Int) % 2) != 0) = true := by simp; omega
      have HR := Lib.hid (unpack_odd h1 h2)
      clear hB h1 h2
      go_enter Tryd.func45, Tryd.ntmps45
      go_wp2
      go_ret3
      exact ⟨_, _, _, by rw [HR.out]; rfl, by rw [HR.out]; exact Bys.nil _, Below.refl _ _⟩
end Go.Proofs.YtkcpkfimmolkkaaDoor
