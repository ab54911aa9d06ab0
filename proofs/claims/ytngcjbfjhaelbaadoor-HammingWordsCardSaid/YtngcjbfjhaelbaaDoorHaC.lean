/- Package hamming by its contracts, over what its tables hold (Tab: 'fun _ => True' where it reads none); what layer 10's law's own num and live answer over them. -/
import Derived.Test.YtngcjbfjhaelbaaDoorRham2
import Derived.Test.YtngcjbfjhaelbaaDoorSame
import Derived.Test.YtngcjbfjhaelbaaDoorRcopy
namespace Go.Proofs.YtngcjbfjhaelbaaDoor
open Go.RowKit

def In10 (k : Int) : Prop := -9223372036854775808 ≤ k ∧ k ≤ 9223372036854775807
/-- what Word answers: the word, the error -/
def wordI (h : Int) : Int := if 0 ≤ h ∧ h ≤ 15 then (wordN h.toNat : Int) else 0
def wordE (h : Int) : Int := if 0 ≤ h ∧ h ≤ 15 then 0 else 1
/-- what package hamming answers, in plain words -/
structure HaC (Tab : World → Prop) : Prop where
  keep : ∀ w w', Tab w → Below w.heap.size w w' → Tab w'
  word : ∀ (h : Int) (w : World), In10 h → Tab w → Calls Tryd.prog 7 #[.int .i64 h] w fun e w' => e = .returned (.tuple #[.int .u8 (wordI h), .int .i64 (wordE h)]) ∧ Below w.heap.size w w'
  half : ∀ (x : UInt8) (w : World), Tab w → Calls Tryd.prog 10 #[.int .u8 (x.toNat : Int)] w fun e w' => e = .returned (.tuple #[.int .i64 (((halfN x.toNat).1 : Nat) : Int), .int .i64 (((halfN x.toNat).2.1 : Nat) : Int), .int .i64 (((halfN x.toNat).2.2 : Nat) : Int)]) ∧ Below w.heap.size w w'
  apart : ∀ (x y : UInt8) (w : World), Tab w → Calls Tryd.prog 12 #[.int .u8 (x.toNat : Int), .int .u8 (y.toNat : Int)] w fun e w' => e = .returned (.int .i64 ((apartN x.toNat y.toNat : Nat) : Int)) ∧ Below w.heap.size w w'
  pack : ∀ (A : Option Addr) (n c : Nat) (b : List UInt8) (w : World), Bys w A n c b → Tab w → Calls Tryd.prog 18 #[.slice A n c] w (GivesW w (packB b))
  unpack : ∀ (A : Option Addr) (n c : Nat) (l : List UInt8) (w : World), Bys w A n c l → Tab w → Calls Tryd.prog 15 #[.slice A n c] w (GivesUn w (unpackB l))
set_option maxHeartbeats 1000000 in
theorem num10_any (e : Int) (w : World) : Calls Tryd.prog 8 #[.int .i64 e] w fun e' w' => e' = .returned (.int .i64 e) ∧ w = w' := by
  go_enter Tryd.func8, Tryd.ntmps8
  go_wp2
  go_ret
  exact ⟨rfl, rfl⟩
set_option maxHeartbeats 2000000 in
theorem live10_any {Tab : World → Prop} (C : HaC Tab) (w : World) (hT : Tab w) : Calls Tryd.prog 14 #[] w fun e w' => e = .returned (.bool true) ∧ Below w.heap.size w w' := by
  have H1 := Lib.hid (C.word 1 w (by unfold In10; omega) hT)
  have e1 : wordI 1 = 15 := by decide +kernel
  have e2 : wordE 1 = 0 := by decide +kernel
  rw [e1, e2] at H1
  have H2 := Lib.hid (fun W (k : Below w.heap.size w W) => C.half 14 W (C.keep _ _ hT k))
  have e3 : halfN (14 : UInt8).toNat = (1, 1, 0) := by decide +kernel
  rw [e3] at H2
  have e4 : ((14 : UInt8).toNat : Int) = 14 := by decide
  rw [e4] at H2
  have H3 := Lib.hid (fun W (k : Below w.heap.size w W) => C.apart 0 255 W (C.keep _ _ hT k))
  have e5 : apartN (0 : UInt8).toNat (255 : UInt8).toNat = 8 := by decide +kernel
  have e6 : ((0 : UInt8).toNat : Int) = 0 := by decide
  have e7 : ((255 : UInt8).toNat : Int) = 255 := by decide
  rw [e5, e6, e7] at H3
  have HN := Lib.hid num10_any
  clear e1 e2 e3 e4 e5 e6 e7 hT
  go_enter Tryd.func14, Tryd.ntmps14
  go_wp2_with (fail)
  refine H1.out.mono ?_
  rintro e w1 ⟨rfl, T1⟩
  go_wp2_with (fail)
  refine (H2.out _ T1).mono ?_
  rintro e w2 ⟨rfl, T2⟩
  have T2 := nxt T1 T2
  go_wp2_with (fail)
  refine (HN.out _ _).mono ?_
  rintro e w3 ⟨rfl, rfl⟩
  go_wp2_with (fail)
  refine (HN.out _ _).mono ?_
  rintro e w3 ⟨rfl, rfl⟩
  go_wp2_with (fail)
  refine (H3.out _ T2).mono ?_
  rintro e w4 ⟨rfl, T4⟩
  have T4 := nxt T2 T4
  go_wp2
  go_ret
  exact ⟨rfl, T4⟩
end Go.Proofs.YtngcjbfjhaelbaaDoor
