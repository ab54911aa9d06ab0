/- The walks of layer 10's HammingWords and HammingPacks, over the contracts of hamming. -/
import Derived.Test.YtngcjbfjhaelbaaDoorHaC
namespace Go.Proofs.YtngcjbfjhaelbaaDoor
open Go.RowKit

set_option maxHeartbeats 4000000 in
theorem walk_HammingWords {Tab : World → Prop} (C : HaC Tab) (h : Int) (x y : Nat) (w : World) (hh : In10 h) (hx : x < 256) (hy : y < 256) (hT : Tab w) :
    Calls Tryd.prog 3 #[.int .i64 h, .int .u8 (x : Int), .int .u8 (y : Int)] w fun e w' => e = .returned (.bool true) ∧ Below w.heap.size w w' := by
  obtain ⟨u, rfl⟩ : ∃ u : UInt8, u.toNat = x := ⟨UInt8.ofNat x, by rw [UInt8.toNat_ofNat', Nat.mod_eq_of_lt hx]⟩
  obtain ⟨v, rfl⟩ : ∃ v : UInt8, v.toNat = y := ⟨UInt8.ofNat y, by rw [UInt8.toNat_ofNat', Nat.mod_eq_of_lt hy]⟩
  have HN := Lib.hid num10_any
  have HW := Lib.hid (C.word h w hh hT)
  have HH := Lib.hid (fun W (k : Below w.heap.size w W) => C.half u W (C.keep _ _ hT k))
  have HA := Lib.hid (fun W (k : Below w.heap.size w W) => C.apart u v W (C.keep _ _ hT k))
  have HL := Lib.hid (fun W (k : Below w.heap.size w W) => live10_any C W (C.keep _ _ hT k))
  have RH := Lib.hid (fun W => rhalf_any u.toNat W (by omega))
  have RA := Lib.hid (fun W => rapart_any u.toNat v.toNat W (by omega) (by omega))
  have hl := halfN_lt u.toNat
  generalize halfN u.toNat = r at *
  generalize apartN u.toNat v.toNat = ap at *
  obtain ⟨r1, r2, r3⟩ := r
  simp only at hl
  have f1 : ((r1 : Int) == (r1 : Int)) = true := by simp
  have f2 : ((r2 : Int) == (r2 : Int)) = true := by simp
  have f3 : ((r3 : Int) == (r3 : Int)) = true := by simp
  have f4 : ((ap : Int) == (ap : Int)) = true := by simp
  clear hl hT
  by_cases hr : 0 ≤ h ∧ h ≤ 15
  · obtain ⟨k, rfl⟩ := Int.eq_ofNat_of_zero_le hr.1
    have hk : k ≤ 15 := by omega
    have e1 : wordI (k : Int) = ((wordN k : Nat) : Int) := by unfold wordI; rw [if_pos hr, Int.toNat_natCast]
    have e2 : wordE (k : Int) = 0 := by unfold wordE; rw [if_pos hr]
    rw [e1, e2] at HW
    have RW := Lib.hid (fun W => rword_any k W (by omega))
    have hwl := wordN_lt k
    generalize wordN k = wd at *
    have d1 : decide ((k : Int) < 0) = false := by simp
    have d2 : decide ((15 : Int) < (k : Int)) = false := by simp; omega
    have d3 : ((wd : Int) != (wd : Int)) = false := by simp
    clear e1 e2 hr hh
    go_enter Tryd.func3, Tryd.ntmps3
    go_wp2_with (fail)
    refine HW.out.mono ?_
    rintro e w1 ⟨rfl, T1⟩
    go_wp2_with (fail)
    refine (HN.out _ _).mono ?_
    rintro e w2 ⟨rfl, rfl⟩
    go_wp2_with (fail)
    refine (RW.out _).mono ?_
    rintro e w2 ⟨rfl, rfl⟩
    go_wp2_with (fail)
    refine (HH.out _ T1).mono ?_
    rintro e w2 ⟨rfl, T2⟩
    have T2 := nxt T1 T2
    go_wp2_with (fail)
    refine (RH.out _).mono ?_
    rintro e w3 ⟨rfl, rfl⟩
    go_wp2_with (fail)
    refine (HN.out _ _).mono ?_
    rintro e w3 ⟨rfl, rfl⟩
    go_wp2_with (fail)
    refine (HA.out _ T2).mono ?_
    rintro e w3 ⟨rfl, T3⟩
    have T3 := nxt T2 T3
    go_wp2_with (fail)
    refine (RA.out _).mono ?_
    rintro e w4 ⟨rfl, rfl⟩
    go_wp2_with (fail)
    refine (HL.out _ T3).mono ?_
    rintro e w4 ⟨rfl, T4⟩
    have T4 := nxt T3 T4
    go_wp2
    go_ret
    exact ⟨rfl, T4⟩
  · have e1 : wordI h = 0 := by unfold wordI; rw [if_neg hr]
    have e2 : wordE h = 1 := by unfold wordE; rw [if_neg hr]
    rw [e1, e2] at HW
    obtain ⟨t1, d1⟩ : ∃ t, decide (h < 0) = t := ⟨_, rfl⟩
    obtain ⟨t2, d2⟩ : ∃ t, decide (15 < h) = t := ⟨_, rfl⟩
    have ht : t1 = true ∨ t2 = true := by
      rw [← d1, ← d2]
      simp
      omega
    clear e1 e2 hr hh
    cases t1 <;> cases t2
    · simp at ht
    all_goals
      clear ht
      go_enter Tryd.func3, Tryd.ntmps3
      go_wp2_with (fail)
      refine HW.out.mono ?_
      rintro e w1 ⟨rfl, T1⟩
      go_wp2_with (fail)
      refine (HN.out _ _).mono ?_
      rintro e w2 ⟨rfl, rfl⟩
      go_wp2_with (fail)
      refine (HH.out _ T1).mono ?_
      rintro e w2 ⟨rfl, T2⟩
      have T2 := nxt T1 T2
      go_wp2_with (fail)
      refine (RH.out _).mono ?_
      rintro e w3 ⟨rfl, rfl⟩
      go_wp2_with (fail)
      refine (HN.out _ _).mono ?_
      rintro e w3 ⟨rfl, rfl⟩
      go_wp2_with (fail)
      refine (HA.out _ T2).mono ?_
      rintro e w3 ⟨rfl, T3⟩
      have T3 := nxt T2 T3
      go_wp2_with (fail)
      refine (RA.out _).mono ?_
      rintro e w4 ⟨rfl, rfl⟩
      go_wp2_with (fail)
      refine (HL.out _ T3).mono ?_
      rintro e w4 ⟨rfl, T4⟩
      have T4 := nxt T3 T4
      go_wp2
      go_ret
      exact ⟨rfl, T4⟩
set_option maxHeartbeats 4000000 in
theorem walk_HammingPacks {Tab : World → Prop} (C : HaC Tab) (A : Option Addr) (n c : Nat) (b : List UInt8) (B : Option Addr) (m d : Nat) (l : List UInt8) (w : World) (hA : Bys w A n c b) (hB : Bys w B m d l) (hT : Tab w) :
    Calls Tryd.prog 5 #[.slice A n c, .slice B m d] w fun e w' => e = .returned (.bool true) ∧ Below w.heap.size w w' := by
  have HN := Lib.hid num10_any
  have H1 := Lib.hid (C.unpack B m d l w hB hT)
  have H2 := Lib.hid (fun W (k : Below w.heap.size w W) => runpack_any B m d l W (hB.below k))
  have H3 := Lib.hid (fun W (k : Below w.heap.size w W) => C.pack A n c b W (hA.below k) (C.keep _ _ hT k))
  have H4 := Lib.hid (fun W (k : Below w.heap.size w W) => rpack_any A n c b W (hA.below k))
  have HL := Lib.hid (fun W (k : Below w.heap.size w W) => live10_any C W (C.keep _ _ hT k))
  obtain ⟨t1, d1⟩ : ∃ t, decide ((300 : Int) < (n : Int)) = t := ⟨_, rfl⟩
  obtain ⟨t2, d2⟩ : ∃ t, decide ((n : Int) ≤ 4096) = t := ⟨_, rfl⟩
  obtain ⟨t3, d3⟩ : ∃ t, decide ((300 : Int) < (m : Int)) = t := ⟨_, rfl⟩
  obtain ⟨t4, d4⟩ : ∃ t, decide ((m : Int) ≤ 8192) = t := ⟨_, rfl⟩
  generalize unpackB l = r at *
  obtain ⟨ro, rn, re⟩ := r
  have f1 : ((rn : Int) == (rn : Int)) = true := by simp
  have f2 : ((re : Int) == (re : Int)) = true := by simp
  clear hA hB hT
  cases t1 <;> cases t2 <;> cases t3 <;> cases t4
  all_goals
    go_enter Tryd.func5, Tryd.ntmps5
    go_wp2_with (fail)
    first
      | (refine (HL.out _ (Below.refl _ _)).mono ?_
         rintro e w9 ⟨rfl, T9⟩
         go_wp2
         go_ret
         exact ⟨rfl, T9⟩)
      | (refine H1.out.mono ?_
         rintro e w1 ⟨A1, n1, c1, rfl, B1, T1⟩
         go_wp2_with (fail)
         refine (H2.out _ T1).mono ?_
         rintro e w2 ⟨A2, n2, c2, rfl, B2, T2⟩
         have B1 := B1.below T2
         have T2 := nxt T1 T2
         go_wp2_with (fail)
         refine (H3.out _ T2).mono ?_
         rintro e w3 ⟨v3, rfl, hO3, T3⟩
         obtain ⟨A3, c3, rfl⟩ := own_shape hO3
         have B3 := Bys.of_own hO3
         have B1 := B1.below T3
         have B2 := B2.below T3
         have T3 := nxt T2 T3
         clear hO3
         go_wp2_with (fail)
         refine (H4.out _ T3).mono ?_
         rintro e w4 ⟨A4, n4, c4, rfl, B4, T4⟩
         have B3 := B3.below T4
         have B1 := B1.below T4
         have B2 := B2.below T4
         have T4 := nxt T3 T4
         go_wp2_with (fail)
         refine (same_true _ _ _ _ _ _ _ _ B3 B4).mono ?_
         rintro e w5 ⟨rfl, T5⟩
         have B1 := B1.below T5
         have B2 := B2.below T5
         have T5 := nxt T4 T5
         clear B3 B4
         go_wp2_with (fail)
         refine (same_true _ _ _ _ _ _ _ _ B1 B2).mono ?_
         rintro e w6 ⟨rfl, T6⟩
         have T6 := nxt T5 T6
         clear B1 B2
         go_wp2_with (fail)
         refine (HN.out _ _).mono ?_
         rintro e w7 ⟨rfl, rfl⟩
         go_wp2_with (fail)
         refine (HL.out _ T6).mono ?_
         rintro e w9 ⟨rfl, T9⟩
         have T9 := nxt T6 T9
         go_wp2
         go_ret
         exact ⟨rfl, T9⟩)
end Go.Proofs.YtngcjbfjhaelbaaDoor
