/- The walk of layer 28's GiverNil, over the contracts of giver and nonce. -/
import Derived.Test.YtoajbocpebfjoaaGiD
import Derived.Laws.StructEq
namespace Go.Proofs.Ytoajbocpebfjoaa
open Go.RowKit
set_option maxRecDepth 20000

theorem rgnew_e (r : Int) (w : World) : Calls Try.prog 10 #[.int .i64 r, .pointer none] w fun e w' => e = .returned (.tuple #[.pointer none, .int .i64 1]) ∧ Below w.heap.size w w' := by
  by_cases h0 : r < 1 ∨ 16 < r
  · refine (rgnew_no r none w h0).mono ?_
    rintro e w' ⟨rfl, rfl⟩
    exact ⟨rfl, Below.refl _ _⟩
  · obtain ⟨room, rfl⟩ := Int.eq_ofNat_of_zero_le (show 0 ≤ r by omega)
    exact rgnew_nil room w (by omega) (by omega)
set_option maxHeartbeats 16000000 in
theorem walk_GiverNil {S : Nat → List Nat → Nat → World → (Nat → Prop) → Prop} (NC : NoC S) {G : Nat → Nat → Gvs → World → (Nat → Prop) → Prop} (C : GiC S G) (r : Int) (kd : Int) (tT tC tR : Nat) (A : Option Addr) (n c : Nat) (m : List UInt8) (w : World) (hr : I64 r) (hk : I64 kd) (hB : Bys w A n c m) :
    Calls Try.prog 5 #[.int .i64 r, .agg #[.int .i64 kd, .int .u64 (tT : Int), .int .u64 (tC : Int), .int .u64 (tR : Int), .slice A n c]] w fun e w' => e = .returned (.bool true) ∧ Below w.heap.size w w' := by
  have HL := Lib.hid (fun W => live28_any NC C W)
  have HN := Lib.hid num28_any
  have G1 := Lib.hid (fun W => C.new_nil r W hr)
  have G2 := Lib.hid (fun W => rgnew_e r W)
  have H1 := Lib.hid (fun W => C.nrecv W)
  have H2 := Lib.hid (fun W (U : Below w.heap.size w W) => C.ntake kd tT tC tR A n c m W hk (hB.below U))
  have H3 := Lib.hid (fun W => C.nkept W)
  have H5 := Lib.hid (fun W => C.nstate W)
  have T0 := (Below.refl _ w).alloc (Nat.le_refl _) (tokO kd tT tC tR A n c)
  obtain ⟨W0, hW0⟩ : ∃ W0, w.alloc (tokO kd tT tC tR A n c) = W0 := ⟨_, rfl⟩
  have h0 := heap_alloc_new w (tokO kd tT tC tR A n c)
  rw [hW0] at h0
  have HSW : Hid (∀ W, Below W0.heap.size W0 W → W.heap[w.heap.size]? = some (tokO kd tT tC tR A n c)) := fun W U => (U.block _ (lt_row h0)).trans h0
  rw [hW0] at T0
  have HT0 := Lib.hid T0
  have HW0 := Lib.hid hW0
  clear hr hk hB T0 hW0 h0
  go_enter Try.func5, Try.ntmps5
  go_wp2_with (fail)
  rw [HW0.out]
  refine (H1.out _).mono ?_
  rintro e w1 ⟨A1, c1, P1, d1, rfl, T1⟩
  have U1 := T1
  go_wp2_with (fail)
  refine (G1.out _).mono ?_
  rintro e w3 ⟨rfl, T3⟩
  have U3 := nxt U1 T3
  go_wp2_with (fail)
  refine (G2.out _).mono ?_
  rintro e w4 ⟨rfl, T4⟩
  have U4 := nxt U3 T4
  obtain ⟨y0, y1, y2, y3, y4⟩ := gv_row5 (HSW.out _ U4)
  go_wp2_with (fail)
  refine (H2.out _ (nxt HT0.out U4)).mono ?_
  rintro e w5 ⟨P5, k5, rfl, T5⟩
  have U5 := nxt U4 T5
  clear y0 y1 y2 y3 y4
  go_wp2_with (fail)
  refine (H3.out _).mono ?_
  rintro e w6 ⟨P6, k6, rfl, T6⟩
  have U6 := nxt U5 T6
  go_wp2_with (fail)
  refine (H5.out _).mono ?_
  rintro e w9 ⟨rfl, T9⟩
  have U9 := nxt U6 T9
  go_wp2_with (fail)
  refine (HN.out _ _).mono ?_
  rintro e w8 ⟨rfl, rfl⟩
  go_wp2_with (fail)
  refine (HL.out _).mono ?_
  rintro e w8 ⟨rfl, T8⟩
  have U8 := nxt HT0.out (nxt U9 T8)
  go_wp2
  go_ret
  exact ⟨rfl, U8⟩
end Go.Proofs.Ytoajbocpebfjoaa
