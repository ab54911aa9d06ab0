/- The walk of layer 9's ScramBack, over the contracts of scram. -/
import Derived.Test.YtbeaeameaakphaaLaws09
import Derived.Test.YtbeaeameaakphaaRjoin
import Derived.Deep.QuietTactic
import Derived.BigQuiet
namespace Go.Proofs.Ytbeaeameaakphaa
open Go.RowKit

set_option maxHeartbeats 8000000 in
theorem walk_ScramBack (C : ScC) (k : Int) (A : Option Addr) (n c : Nat) (a : List UInt8) (B : Option Addr) (m d : Nat) (b : List UInt8) (w : World) (hk : In64 k) (hA : Bys w A n c a) (hB : Bys w B m d b) :
    Calls Try.prog 5 #[.int .i64 k, .slice A n c, .slice B m d] w fun e w' => e = .returned (.bool true) ∧ Below w.heap.size w w' := by
  have HL := Lib.hid (fun W => live09_any C W)
  by_cases h1 : 300 < n ∨ 300 < m
  · obtain ⟨t1, d1⟩ : ∃ t, decide ((300 : Int) < (n : Int)) = t := ⟨_, rfl⟩
    obtain ⟨t2, d2⟩ : ∃ t, decide ((300 : Int) < (m : Int)) = t := ⟨_, rfl⟩
    have ht : t1 = true ∨ t2 = true := by
      rw [← d1, ← d2]
      simp
      omega
    clear hA hB hk h1
    cases t1 <;> cases t2
    · simp at ht
    all_goals
      clear ht
      go_enter Try.func5, Try.ntmps5
      go_wp2_with (fail)
      refine (HL.out _).mono ?_
      rintro e w9 ⟨rfl, T9⟩
      go_wp2
      go_ret
      exact ⟨rfl, T9⟩
  · have hn : n ≤ 300 := by omega
    have hm : m ≤ 300 := by omega
    have d1 : decide ((300 : Int) < (n : Int)) = false := by simp; omega
    have d2 : decide ((300 : Int) < (m : Int)) = false := by simp; omega
    have hla := hA.len
    have hlb := hB.len
    have hnc := hA.le
    have hmd := hB.le
    have hcm := hA.cap
    have hdm := hB.cap
    have hxl : (scrB k a).length = n := by rw [scrB_len k a (by omega), hla]
    have hyl : (scrB ((stateI k (8 * (n : Int)) : Nat) : Int) b).length = m := by rw [scrB_len _ b (by omega), hlb]
    have HX2 : Hid (scrB k (scrB k a) = a) := scrB_twice k a (by omega)
    have HXY : Hid (scrB k (a ++ b) = scrB k a ++ scrB ((stateI k (8 * (n : Int)) : Nat) : Int) b) := by
      have := scrB_append k a b (by omega)
      rw [hla] at this
      exact this
    have HXX : Hid (n = m → scrB k (xorB a b) = xorB (scrB k a) b) := fun h => scrB_xor k a b (by omega) (by omega)
    have hsl := stateI_lt k (8 * (n : Int))
    have HDO := Lib.hid (fun A' n' c' b' W (h : Bys W A' n' c' b') (hl : n' ≤ 140737488355328) => C.do_ k A' n' c' b' W hk h hl)
    have HDY := Lib.hid (fun W (h : Bys W B m d b) => C.do_ ((stateI k (8 * (n : Int)) : Nat) : Int) B m d b W (by unfold In64; omega) h (by omega))
    have HST := Lib.hid (fun W => C.state k (8 * (n : Int)) W hk (by unfold In64; omega))
    have HA := Lib.hid (fun W (k : Below w.heap.size w W) => hA.below k)
    have HB := Lib.hid (fun W (k : Below w.heap.size w W) => hB.below k)
    have HLN := Lib.hid (And.intro hla hlb)
    obtain ⟨x, hx⟩ : ∃ x, scrB k a = x := ⟨_, rfl⟩
    rw [hx] at hxl HX2 HXY HXX
    have HXE := Lib.hid hx
    clear hx
    generalize stateI k (8 * (n : Int)) = st at *
    generalize scrB (st : Int) b = y at *
    clear hA hB hk h1 hsl
    go_enter Try.func5, Try.ntmps5
    go_wp2_with (fail)
    refine (HDO.out A n c a _ (HA.out _ (Below.refl _ _)) (by omega)).mono ?_
    rw [HXE.out]
    rintro e w1 ⟨A1, n1, c1, rfl, B1, T1⟩
    obtain rfl : n1 = n := by rw [← B1.len]; exact hxl
    have hc1 := B1.le
    have hcap1 := B1.cap
    have HBX := Lib.hid (fun W (k : Below w1.heap.size w1 W) => B1.below k)
    clear B1
    go_wp2_with (fail)
    refine (HDO.out A1 n1 c1 x _ (HBX.out _ (Below.refl _ _)) (by omega)).mono ?_
    rw [HX2.out]
    rintro e w2 ⟨A2, n2, c2, rfl, B2, T2⟩
    have X2 := T2
    have T2 := nxt T1 T2
    go_wp2_with (fail)
    refine (same_true _ _ _ _ _ _ _ _ B2 (HA.out _ T2)).mono ?_
    rintro e w3 ⟨rfl, T3⟩
    have X3 := nxt X2 T3
    have T3 := nxt T2 T3
    clear B2
    go_wp2_with (fail)
    refine (HST.out _).mono ?_
    rintro e w4 ⟨rfl, T4⟩
    have X4 := nxt X3 T4
    have T4 := nxt T3 T4
    go_wp2_with (fail)
    refine (HDY.out _ (HB.out _ T4)).mono ?_
    rintro e w5 ⟨A5, n5, c5, rfl, B5, T5⟩
    obtain rfl : n5 = m := by rw [← B5.len]; exact hyl
    have HBY := Lib.hid (fun W (k : Below w5.heap.size w5 W) => B5.below k)
    have X5 := nxt X4 T5
    have T5 := nxt T4 T5
    clear B5
    have HR6 := Lib.hid (litrow2 w5 A B n1 n5 c d a b HLN.out.1 HLN.out.2 (HA.out _ T5) (HB.out _ T5))
    go_wp2_with (fail)
    refine (rjoin_any (some ⟨w5.heap.size, 0, none⟩) 2 2 [a, b] _ HR6.out (by simp [Lib.lens]; have := HLN.out; omega)).mono ?_
    rintro e w6 ⟨A6, n6, c6, rfl, B6, G6⟩
    have T6 : Below w5.heap.size w5 w6 := ((Below.refl _ _).alloc (Nat.le_refl _) _).trans (G6.mono (by simp))
    have Y6 := T6
    have X6 := nxt X5 T6
    have T6 := nxt T5 T6
    rw [show [a, b].flatten = a ++ b by simp] at B6
    have hn6 : n6 ≤ 600 := by have h := B6.len; rw [List.length_append, HLN.out.1, HLN.out.2] at h; omega
    clear G6 HR6
    go_wp2_with (fail)
    refine (HDO.out A6 n6 c6 (a ++ b) _ B6 (by omega)).mono ?_
    rw [HXY.out]
    rintro e w7 ⟨A7, n7, c7, rfl, B7, T7⟩
    have Y7 := nxt Y6 T7
    have X7 := nxt X6 T7
    have T7 := nxt T6 T7
    have HR8 := Lib.hid (litrow2 w7 A1 A5 n1 n5 c1 c5 x y hxl hyl (HBX.out _ X7) (HBY.out _ Y7))
    clear B6
    go_wp2_with (fail)
    refine (rjoin_any (some ⟨w7.heap.size, 0, none⟩) 2 2 [x, y] _ HR8.out (by simp [Lib.lens]; omega)).mono ?_
    rintro e w8 ⟨A8, n8, c8, rfl, B8, G8⟩
    have T8 : Below w7.heap.size w7 w8 := ((Below.refl _ _).alloc (Nat.le_refl _) _).trans (G8.mono (by simp))
    rw [show [x, y].flatten = x ++ y by simp] at B8
    have B7 := B7.below T8
    have X8 := nxt X7 T8
    have T8 := nxt T7 T8
    clear G8 HR8
    go_wp2_with (fail)
    refine (same_true _ _ _ _ _ _ _ _ B7 B8).mono ?_
    rintro e w9 ⟨rfl, T9⟩
    have X9 := nxt X8 T9
    have T9 := nxt T8 T9
    clear B7 B8
    by_cases hnm : n1 = n5
    · subst hnm
      have d3 : ((n1 : Int) != (n1 : Int)) = false := by simp
      have hxx : scrB k (xorB a b) = xorB x b := HXX.out rfl
      have HXZ := Lib.hid hxx
      clear HXX hxx
      go_wp2_with (fail)
      go_loopw [9, 10] (fun v i wr => ∃ j : Nat, j ≤ n1 ∧ i = .int .i64 (j : Int) ∧ wr.ownsRow w9.heap.size 5 1 v j (bvs (xorB (a.take j) (b.take j))) ∧ Below w9.heap.size w9 wr) (fun _ i _ => n1 - (intOf i).toNat)
      case atStart => exact ⟨0, Nat.zero_le _, rfl, World.ownsRow_nil _ _ _ _, Below.refl _ _⟩
      case round =>
        obtain ⟨j, hj, rfl, hown, hbel⟩ := hrel
        have hla := HLN.out.1
        have hlb := HLN.out.2
        by_cases hlt : j < n1
        · have d4 : decide ((j : Int) < (n1 : Int)) = true := by simp; omega
          obtain ⟨g, o, rfl, hg, hc⟩ := (HA.out _ (nxt T9 hbel)).at_ (by omega)
          obtain ⟨g2, o2, rfl, hg2, hc2⟩ := (HB.out _ (nxt T9 hbel)).at_ (by omega)
          have q1 := hc j (by omega)
          have q2 := hc2 j (by omega)
          have hst : xorB (a.take (j + 1)) (b.take (j + 1)) = xorB (a.take j) (b.take j) ++ [a[j]'(by omega) ^^^ b[j]'(by omega)] := by
            rw [List.take_succ_eq_append_getElem (show j < a.length by omega), List.take_succ_eq_append_getElem (show j < b.length by omega), xorB_append _ _ _ _ (by simp; omega)]
            rfl
          have HST2 := Lib.hid hst
          have HON := Lib.hid hown
          clear hc hc2 hst hown hla hlb
          generalize a[j]'(by have := HLN.out; omega) = p at *
          generalize b[j]'(by have := HLN.out; omega) = q at *
          have hx := u8_xx p q
          have hnew : Hid (∀ W : World, Bys (W.alloc (.cells #[.int .u8 ((p ^^^ q).toNat : Int)] 5)) (some ⟨W.heap.size, 0, none⟩) 1 1 [p ^^^ q]) := fun W => Bys.lit W [p ^^^ q] (by simp)
          have hz := hbel.size
          go_wp2_with (fail)
          go_region_law ((refine step_bys _ rfl (.tmp 69) (.tmp 79) rfl w9.heap.size u9 j (bvs (xorB (a.take j) (b.take j))) rfl ?_ (some ⟨wr.heap.size, 0, none⟩) 1 1 [p ^^^ q] rfl ?_ ?_ ?_ ?_); (exact HON.out.drew.alloc _); (exact hnew.out wr.drew); (omega); (simp; omega); intro v2 w2' hown3 hgrow2 hwhere2)
          all_goals
            rw [← bvs_append, ← HST2.out] at hown3
            have HO3 := Lib.hid hown3
            have HT3 := Lib.hid ((hbel.alloc hz _).drew.grown hgrow2 (by simp; omega) (fun g hg => (HON.out.lt g hg).1))
            clear hown3 hgrow2
            go_wp2
            go_roundw
            case rel => exact ⟨j + 1, by omega, by go_num, HO3.out, HT3.out⟩
            case measure => simp [intOf]; omega
        · have d4 : decide ((j : Int) < (n1 : Int)) = false := by simp; omega
          obtain rfl : j = n1 := by omega
          have e1 : a.take j = a := by rw [← hla, List.take_length]
          have e2 : b.take j = b := by rw [← hlb, List.take_length]
          rw [e1, e2] at hown
          obtain ⟨A10, c10, rfl⟩ := own_shape hown
          have B10 := Bys.of_own hown
          have X10 := nxt X9 hbel
          have T10 := nxt T9 hbel
          clear hown e1 e2
          go_wp2_with (fail)
          refine (HDO.out A10 j c10 (xorB a b) _ B10 (by omega)).mono ?_
          rw [HXZ.out]
          rintro e w11 ⟨A11, n11, c11, rfl, B11, T11⟩
          obtain rfl : n11 = j := by rw [← B11.len, xorB_len _ _ (by omega)]; exact hxl
          have X11 := nxt X10 T11
          have T11 := nxt T10 T11
          have HZ := Lib.hid (fun W (k : Below w11.heap.size w11 W) => B11.below k)
          have hc11 := B11.le
          have hcap11 := B11.cap
          have hzl := B11.len
          have d6 : ((n11 : Int) != (n11 : Int)) = false := by simp
          clear B11 B10
          go_wp2_with (fail)
          go_loopw [12] (fun i wr => ∃ j : Nat, j ≤ n11 ∧ i = .int .i64 (j : Int) ∧ Below w11.heap.size w11 wr) (fun i _ => n11 - (intOf i).toNat)
          case atStart => exact ⟨0, Nat.zero_le _, rfl, Below.refl _ _⟩
          case round =>
            obtain ⟨j, hj2, rfl, hb2⟩ := hrel
            by_cases hlt2 : j < n11
            · have d5 : decide ((j : Int) < (n11 : Int)) = true := by simp; omega
              obtain ⟨g, o, rfl, hg, hc⟩ := (HZ.out _ hb2).at_ (by omega)
              obtain ⟨g2, o2, rfl, hg2, hc2⟩ := (HBX.out _ (nxt X11 hb2)).at_ (by omega)
              obtain ⟨g3, o3, rfl, hg3, hc3⟩ := (HB.out _ (nxt T11 hb2)).at_ (by omega)
              have q1 := hc j (by omega)
              have q2 := hc2 j (by omega)
              have q3 := hc3 j (by omega)
              rw [xorB_at x b j (by omega) (by omega)] at q1
              obtain ⟨p, hp⟩ : ∃ p, x[j]'(by omega) = p := ⟨_, rfl⟩
              obtain ⟨q, hq⟩ : ∃ q, b[j]'(by omega) = q := ⟨_, rfl⟩
              rw [hp, hq] at q1
              rw [hp] at q2
              rw [hq] at q3
              clear hc hc2 hc3 hp hq
              have hx := u8_xx p q
              have i1 : (j : Int) < (n11 : Int) := by omega
              go_wp2_with (fail)
              go_quiet (fail)
              go_wp2
              go_roundw
              case rel => exact ⟨j + 1, by omega, by go_num, below_drewN' hb2 _⟩
              case measure => simp [intOf]; omega
            · have d5 : decide ((j : Int) < (n11 : Int)) = false := by simp; omega
              go_wp2_with (fail)
              refine (HL.out _).mono ?_
              rintro e w12 ⟨rfl, T12⟩
              have T12 := nxt (nxt T11 hb2) T12
              go_wp2
              go_ret
              exact ⟨rfl, T12⟩
    · have d3 : ((n1 : Int) != (n5 : Int)) = true := by simp; omega
      go_wp2_with (fail)
      refine (HL.out _).mono ?_
      rintro e w10 ⟨rfl, T10⟩
      have T10 := nxt T9 T10
      go_wp2
      go_ret
      exact ⟨rfl, T10⟩
end Go.Proofs.Ytbeaeameaakphaa
