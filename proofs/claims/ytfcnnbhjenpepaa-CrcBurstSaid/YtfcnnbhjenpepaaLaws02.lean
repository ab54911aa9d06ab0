/- The walks of layer 2's statements, over the contracts of package crc. -/
import Derived.Test.YtfcnnbhjenpepaaCrcC
import Derived.Test.YtfcnnbhjenpepaaRjoin
namespace Go.Proofs.Ytfcnnbhjenpepaa
open Go.RowKit

theorem lit0000 (W : World) : Bys (W.alloc (.cells #[.int .u8 0, .int .u8 0, .int .u8 0, .int .u8 0] 5)) (some ⟨W.heap.size, 0, none⟩) 4 4 [0, 0, 0, 0] := Bys.lit W [0, 0, 0, 0] (by decide)
theorem lit19 (W : World) (fr : Nat × Nat) : Bys (W.alloc (.cells #[.int .u8 49, .int .u8 50, .int .u8 51, .int .u8 52, .int .u8 53, .int .u8 54, .int .u8 55, .int .u8 56, .int .u8 57] 5 fr)) (some ⟨W.heap.size, 0, none⟩) 9 9 [49, 50, 51, 52, 53, 54, 55, 56, 57] := Bys.litf W [49, 50, 51, 52, 53, 54, 55, 56, 57] fr (by decide)
theorem lita (W : World) (fr : Nat × Nat) : Bys (W.alloc (.cells #[.int .u8 97] 5 fr)) (some ⟨W.heap.size, 0, none⟩) 1 1 [97] := Bys.litf W [97] fr (by decide)
theorem crc19 : crcOf [[49, 50, 51, 52, 53, 54, 55, 56, 57]].flatten = 3421780262 := by decide +kernel
theorem crcnil : crcPut [] = [0, 0, 0, 0] := by decide +kernel

section
variable {Tab : World → Addr → Prop} (K : CrcC Tab)
include K

set_option maxRecDepth 20000 in
set_option maxHeartbeats 2000000 in
theorem live02 (w : World) : Calls Try.prog 7 #[] w fun e w' => e = .returned (.bool true) ∧ Below w.heap.size w w' := by
  have kc := fun (w : World) (C : Array Value) (n c : Nat) => Lib.run_convert_bytes_const (P := Try.prog) w 22 5 C n c Try.underlying22 Try.underlying5
  go_enter Try.func7, Try.ntmps7
  go_wp2_with (fail)
  refine (K.new_ w).mono ?_
  rintro e w1 ⟨a, rfl, Ta, T⟩
  go_wp2_with (fail)
  refine (K.check_nil _ 4 4 [0, 0, 0, 0] _ (lit0000 w1)).mono ?_
  rintro e w2 ⟨A2, n2, c2, rfl, -, G⟩
  have T := nxt (T.alloc T.size _) G
  have Ta := K.below (K.below Ta ((Below.refl _ _).alloc (Nat.le_refl _) _)) G
  clear G
  go_wp2_with (fail)
  have L := litrow1 _ _ 9 9 [49, 50, 51, 52, 53, 54, 55, 56, 57] rfl (lit19 w2 (9, 10))
  rw [World.size_alloc] at L
  have S := K.sum_ a _ 1 1 _ _ (K.al (K.al Ta _) _) L (by decide) (by decide)
  rw [crc19] at S
  refine S.mono ?_
  rintro e w3 ⟨rfl, G⟩
  have T1 := T.alloc T.size (.cells #[.int .u8 49, .int .u8 50, .int .u8 51, .int .u8 52, .int .u8 53, .int .u8 54, .int .u8 55, .int .u8 56, .int .u8 57] 5 (9, 10))
  have T := nxt (T1.alloc T1.size _) G
  have Ta := K.below (K.al (K.al Ta _) _) G
  clear G L S T1
  go_wp2_with (fail)
  have S := K.put_ a none 0 0 [] w3 Ta (Bys.nil _) (by decide)
  rw [crcnil] at S
  refine S.mono ?_
  rintro e w4 ⟨g4, c4, rfl, O4, G⟩
  have B4 : Bys w4 (some ⟨g4, 0, none⟩) 4 c4 [0, 0, 0, 0] := O4.bys
  have T := nxt T G
  have Ta := K.below Ta G
  clear G O4 S
  go_wp2_with (fail)
  refine (same_true _ _ 4 c4 4 4 [0, 0, 0, 0] _ (B4.alloc _) (lit0000 w4)).mono ?_
  rintro e w5 ⟨rfl, G⟩
  have T := nxt (T.alloc T.size _) G
  clear G B4
  go_wp2_with (fail)
  have LA := litrow1 _ _ 1 1 [97] rfl (lita w5 (1, 2))
  rw [World.size_alloc] at LA
  refine (K.sum_nil _ 1 1 _ _ LA).mono ?_
  rintro e w6 ⟨rfl, G⟩
  have T1 := T.alloc T.size (.cells #[.int .u8 97] 5 (1, 2))
  have T := nxt (T1.alloc T1.size _) G
  clear G T1
  go_wp2_with (fail)
  refine (K.put_nil _ 0 0 _).mono ?_
  rintro e w7 ⟨A7, n7, c7, rfl, B7, G⟩
  obtain rfl : n7 = 0 := B7.len.symm
  have T := nxt T G
  go_wp2_with (fail)
  go_ret
  exact ⟨rfl, T⟩

set_option maxRecDepth 20000 in
set_option maxHeartbeats 2000000 in
theorem walk_CrcSums (A : Option Addr) (n c : Nat) (l : List UInt8) (x : Nat) (w : World) (hB : Bys w A n c l) (hx : x < 4294967296) :
    Calls Try.prog 3 #[.slice A n c, .int .u32 x] w fun e w' => e = .returned (.bool true) ∧ Below w.heap.size w w' := by
  by_cases h4 : 4000 < n
  · go_enter Try.func3, Try.ntmps3
    go_wp2_with (fail)
    refine (live02 K _).mono ?_
    rintro e w1 ⟨rfl, T⟩
    go_wp2_with (fail)
    go_ret
    exact ⟨rfl, T⟩
  · have hlen := hB.len
    have hfl : [l].flatten = l := by simp
    have hle : Lib.lens [l] ≤ 5000 := by simp [Lib.lens]; omega
    have HFL := Lib.hid hfl; clear hfl
    have HLE := Lib.hid hle; clear hle
    have HLEN := Lib.hid hlen; clear hlen
    go_enter Try.func3, Try.ntmps3
    go_wp2_with (fail)
    refine (K.new_ w).mono ?_
    rintro e w1 ⟨a, rfl, Ta, T⟩
    have hB := hB.below T
    go_wp2_with (fail)
    have S := K.sum_ a _ 1 1 _ _ (K.al Ta _) (litrow1 _ _ n c l HLEN.out hB) (by decide) HLE.out
    rw [HFL.out] at S
    refine S.mono ?_
    rintro e w2 ⟨rfl, G⟩
    have T := nxt (T.alloc T.size _) G
    have Ta := K.below (K.al Ta _) G
    have hB := (hB.alloc _).below G
    clear G S
    go_wp2_with (fail)
    refine (rsum_any A n c l _ hB).mono ?_
    rintro e w3 ⟨rfl, rfl⟩
    go_wp2_with (fail)
    refine (K.more_ a x A n c l _ Ta hx hB (by omega)).mono ?_
    rintro e w3 ⟨rfl, G⟩
    have T := nxt T G
    have hB := hB.below G
    clear G
    go_wp2_with (fail)
    refine (rmore_any x A n c l _ hx hB).mono ?_
    rintro e w4 ⟨rfl, rfl⟩
    go_wp2_with (fail)
    refine (live02 K _).mono ?_
    rintro e w5 ⟨rfl, G⟩
    have T := nxt T G
    go_wp2_with (fail)
    go_ret
    exact ⟨rfl, T⟩

set_option maxRecDepth 20000 in
set_option maxHeartbeats 2000000 in
theorem walk_CrcChecks (A : Option Addr) (n c : Nat) (l : List UInt8) (A' : Option Addr) (n' c' : Nat) (q : List UInt8) (w : World) (hB : Bys w A n c l) (hQ : Bys w A' n' c' q) :
    Calls Try.prog 5 #[.slice A n c, .slice A' n' c'] w fun e w' => e = .returned (.bool true) ∧ Below w.heap.size w w' := by
  by_cases h4 : 4000 < n
  · have hd : decide (4000 < n) = true := by simpa using h4
    have hd2 : decide ((4000 : Int) < (n : Int)) = true := by simp; omega
    go_enter Try.func5, Try.ntmps5
    go_wp2_with (fail)
    refine (live02 K _).mono ?_
    rintro e w1 ⟨rfl, T⟩
    go_wp2_with (fail)
    go_ret
    exact ⟨rfl, T⟩
  · have hd2 : decide ((4000 : Int) < (n : Int)) = false := by simp; omega
    by_cases h5 : 4000 < n'
    · have hd3 : decide ((4000 : Int) < (n' : Int)) = true := by simp; omega
      go_enter Try.func5, Try.ntmps5
      go_wp2_with (fail)
      refine (live02 K _).mono ?_
      rintro e w1 ⟨rfl, T⟩
      go_wp2_with (fail)
      go_ret
      exact ⟨rfl, T⟩
    · have hd3 : decide ((4000 : Int) < (n' : Int)) = false := by simp; omega
      have hpl := crcPut_length l
      have hlen := hB.len
      have C1 := fun a A1 c1 W ht hb => K.check_ a A1 (crcPut l).length c1 (crcPut l) W ht hb (by omega)
      rw [crcChk_put] at C1
      have C2 := fun a W ht hb => K.check_ a A' n' c' q W ht hb (by omega)
      have C3 := fun W hb => rcheck_any A' n' c' q W hb (by omega)
      have P1 := fun a W ht hb => K.put_ a A n c l W ht hb (by omega)
      have P2 := fun W hb => rcput_any A n c l W hb (by omega)
      clear hpl hlen
      generalize crcPut l = p at *
      generalize crcChk q = r at *
      have C1 := Lib.hid C1
      have C2 := Lib.hid C2
      have C3 := Lib.hid C3
      have P1 := Lib.hid P1
      have P2 := Lib.hid P2
      go_enter Try.func5, Try.ntmps5
      go_wp2_with (fail)
      refine (K.new_ w).mono ?_
      rintro e w1 ⟨a, rfl, Ta, T⟩
      have hB := hB.below T
      have hQ := hQ.below T
      go_wp2_with (fail)
      refine (P1.out a _ Ta hB).mono ?_
      rintro e w2 ⟨g2, c2, rfl, O2, G⟩
      have B2 := O2.bys
      have T := nxt T G
      have Ta := K.below Ta G
      have hB := hB.below G
      have hQ := hQ.below G
      clear G O2
      go_wp2_with (fail)
      refine (C1.out a (some ⟨g2, 0, none⟩) c2 _ Ta B2).mono ?_
      rintro e w3 ⟨A3, n3, c3, rfl, B3, G⟩
      have T := nxt T G
      have Ta := K.below Ta G
      have hB := hB.below G
      have hQ := hQ.below G
      have B2 := B2.below G
      clear G
      go_wp2_with (fail)
      refine (C2.out a _ Ta hQ).mono ?_
      rintro e w4 ⟨A4, n4, c4, rfl, B4, G⟩
      have T := nxt T G
      have hB := hB.below G
      have hQ := hQ.below G
      have B2 := B2.below G
      have B3 := B3.below G
      clear G
      go_wp2_with (fail)
      refine (C3.out _ hQ).mono ?_
      rintro e w5 ⟨A5, n5, c5, rfl, B5, G⟩
      have T := nxt T G
      have hB := hB.below G
      have B2 := B2.below G
      have B3 := B3.below G
      have B4 := B4.below G
      clear G
      go_wp2_with (fail)
      refine (P2.out _ hB).mono ?_
      rintro e w6 ⟨A6, n6, c6, rfl, B6, G⟩
      have T := nxt T G
      have hB := hB.below G
      have B2 := B2.below G
      have B3 := B3.below G
      have B4 := B4.below G
      have B5 := B5.below G
      clear G
      go_wp2_with (fail)
      refine (same_true _ _ _ _ _ _ _ _ B2 B6).mono ?_
      rintro e w7 ⟨rfl, G⟩
      have T := nxt T G
      have hB := hB.below G
      have B3 := B3.below G
      have B4 := B4.below G
      have B5 := B5.below G
      clear G
      go_wp2_with (fail)
      refine (same_true _ _ _ _ _ _ l _ B3 hB).mono ?_
      rintro e w8 ⟨rfl, G⟩
      have T := nxt T G
      have B4 := B4.below G
      have B5 := B5.below G
      clear G
      go_wp2_with (fail)
      refine (same_true _ _ _ _ _ _ _ _ B4 B5).mono ?_
      rintro e w9 ⟨rfl, G⟩
      have T := nxt T G
      clear G
      go_wp2_with (fail)
      refine (live02 K _).mono ?_
      rintro e w10 ⟨rfl, G⟩
      have T := nxt T G
      go_wp2_with (fail)
      go_ret
      exact ⟨rfl, T⟩
end
end Go.Proofs.Ytfcnnbhjenpepaa
