/- Package slide by its contracts; what layer 14's law's own num and live answer over them. -/
import Derived.Test.YtodgnfjaidiibaaRsl4
namespace Go.Proofs.Ytodgnfjaidiibaa
open Go.RowKit
set_option maxRecDepth 20000

/-- what package slide answers, in plain words -/
structure SlC : Prop where
  put : ∀ (a : Bool) (s : Int) (u : Nat) (A : Option Addr) (n c : Nat) (d : List UInt8) (m : Int) (w : World), I64 s → u < 18446744073709551616 → I64 m → Bys w A n c d →
    Calls Try.prog 6 #[.agg #[.bool a, .int .i64 s, .int .u64 (u : Int), .slice A n c], .int .i64 m] w (GivesI w (slErr a s u n m) (slPut a s u d m))
  get : ∀ (A : Option Addr) (n c : Nat) (b : List UInt8) (m : Int) (w : World), I64 m → Bys w A n c b → n ≤ 140737488355328 → Calls Try.prog 11 #[.slice A n c, .int .i64 m] w (GivesSl w (slV b m) (slGetE b m))
  same : ∀ (a : Bool) (s : Int) (u : Nat) (A : Option Addr) (n c : Nat) (d : List UInt8) (a' : Bool) (s' : Int) (u' : Nat) (A' : Option Addr) (n' c' : Nat) (d' : List UInt8) (w : World), Bys w A n c d → Bys w A' n' c' d' →
    Calls Try.prog 14 #[.agg #[.bool a, .int .i64 s, .int .u64 (u : Int), .slice A n c], .agg #[.bool a', .int .i64 s', .int .u64 (u' : Int), .slice A' n' c']] w fun e w' => e = .returned (.bool (slSame a s u d a' s' u' d')) ∧ Below w.heap.size w w'
theorem num14_any (z : Int) (w : World) : Calls Try.prog 8 #[.int .i64 z] w fun e w' => e = .returned (.int .i64 z) ∧ w = w' := by
  go_enter Try.func8, Try.ntmps8
  go_wp2
  go_ret
  exact ⟨rfl, rfl⟩
theorem lit14a (w : World) : Bys (w.alloc (.cells #[.int .u8 97] 5 (1, 2))) (some ⟨w.heap.size, 0, none⟩) 1 1 [97] := Bys.litf w [97] (1, 2) (by decide)
theorem lit14b (w : World) : Bys (w.alloc (.cells #[.int .u8 0, .int .u8 1, .int .u8 2, .int .u8 97] 5)) (some ⟨w.heap.size, 0, none⟩) 4 4 [0, 1, 2, 97] := Bys.lit w [0, 1, 2, 97] (by decide)
theorem slive1 : slErr false 258 0 1 300 = 0 ∧ slPut false 258 0 [97] 300 = [0, 1, 2, 97] ∧ slErr false 258 0 1 258 = 130 ∧ slPut false 258 0 [97] 258 = [] := by decide
set_option maxHeartbeats 2000000 in
theorem live14_any (C : SlC) (w : World) : Calls Try.prog 10 #[] w fun e w' => e = .returned (.bool true) ∧ Below w.heap.size w w' := by
  have h1 := fun W A c h => C.put false 258 0 A 1 c [97] 300 W (by unfold I64; omega) (by decide) (by unfold I64; omega) h
  have h2 := fun W A c h => C.put false 258 0 A 1 c [97] 258 W (by unfold I64; omega) (by decide) (by unfold I64; omega) h
  rw [slive1.1, slive1.2.1] at h1
  rw [slive1.2.2.1, slive1.2.2.2] at h2
  have H1 := Lib.hid h1
  have H2 := Lib.hid h2
  clear h1 h2
  have kc := fun (w : World) (C : Array Value) (n c : Nat) => Lib.run_convert_bytes_const (P := Try.prog) w 23 5 C n c Try.underlying23 Try.underlying5
  go_enter Try.func10, Try.ntmps10
  go_wp2_with (fail)
  have B0 := (lit14a w).alloc (.cells #[.bool false, .int .i64 258, .int .u64 0, .slice (some ⟨w.heap.size, 0, none⟩) 1 1] 25)
  refine (H1.out _ _ _ B0).mono ?_
  rintro e w1 ⟨A1, n1, c1, rfl, B1, T1⟩
  obtain ⟨b0, b1⟩ := two_rows T1
  have B0 := B0.below T1
  have T1 := nxt (((Below.refl _ w).alloc (Nat.le_refl _) _).alloc (by simp) _) T1
  obtain ⟨⟨c4, c5, c6, c7⟩, _, _, _, _⟩ := row4 b1
  clear b0 b1
  go_wp2_with (fail)
  refine (H2.out _ _ _ B0).mono ?_
  rintro e w2 ⟨A2, n2, c2, rfl, B2, T2⟩
  have B1 := B1.below T2
  have T2 := nxt T1 T2
  clear B2 c4 c5 c6 c7
  go_wp2_with (fail)
  refine (num14_any _ _).mono ?_
  rintro e w3 ⟨rfl, rfl⟩
  go_wp2_with (fail)
  refine (same_true A1 _ n1 c1 4 4 [0, 1, 2, 97] _ (B1.alloc _) (lit14b w2)).mono ?_
  rintro e w3 ⟨rfl, T3⟩
  have T3 := nxt (T2.alloc T2.size _) T3
  clear B1 B0
  go_wp2_with (fail)
  refine (num14_any _ _).mono ?_
  rintro e w4 ⟨rfl, rfl⟩
  go_wp2
  go_ret
  exact ⟨rfl, T3⟩
end Go.Proofs.Ytodgnfjaidiibaa
