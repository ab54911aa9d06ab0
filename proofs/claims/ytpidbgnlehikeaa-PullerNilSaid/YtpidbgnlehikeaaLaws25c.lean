/- The walk of layer 25's PullerNil, over the contracts of puller. -/
import Derived.Test.YtpidbgnlehikeaaPlD
import Derived.Laws.StructEq
namespace Go.Proofs.Ytpidbgnlehikeaa
open Go.RowKit
set_option maxRecDepth 20000

/-- New answers an error that is the document's own, whatever it is opened with -/
theorem PlC.new_e {F : Nat → Pls → World → (Nat → Prop) → Prop} (C : PlC F) (c : Cfg) (w : World) (h : CfI c) : Calls Try.prog 8 #[cfgV c] w fun e w' => ∃ p, e = .returned (.tuple #[.pointer p, .int .i64 (plNew c)]) ∧ Below w.heap.size w w' := by
  by_cases h0 : plNew c = 0
  · refine (C.new_yes c w h h0).mono ?_
    rintro e w' ⟨g, X, rfl, _, _, T⟩
    exact ⟨_, by rw [h0], T⟩
  · refine (C.new_no c w h h0).mono ?_
    rintro e w' ⟨rfl, T⟩
    exact ⟨_, rfl, T⟩
theorem rlnew_e (c : Cfg) (w : World) (h : CfI c) : Calls Try.prog 9 #[cfgV c] w fun e w' => ∃ p, e = .returned (.tuple #[.pointer p, .int .i64 (plNew c)]) ∧ Below w.heap.size w w' := by
  by_cases h0 : plNew c = 0
  · refine (rlnew_yes c w h h0).mono ?_
    rintro e w' ⟨g, X, rfl, _, _, T⟩
    exact ⟨_, by rw [h0], T⟩
  · refine (rlnew_no c w h h0).mono ?_
    rintro e w' ⟨rfl, T⟩
    exact ⟨_, rfl, T⟩
set_option maxHeartbeats 16000000 in
theorem walk_PullerNil {F : Nat → Pls → World → (Nat → Prop) → Prop} (C : PlC F) (cfg : Cfg) (pa : Bool) (ps : Int) (pu : Nat) (A : Option Addr) (n c : Nat) (m : List UInt8) (w : World) (hcf : CfI cfg) (hps : I64 ps) (hpu : pu < 18446744073709551616) (hB : Bys w A n c m) :
    Calls Try.prog 5 #[cfgV cfg, .agg #[.bool pa, .int .i64 ps, .int .u64 (pu : Int), .slice A n c]] w fun e w' => e = .returned (.bool true) ∧ Below w.heap.size w w' := by
  have HL := Lib.hid (fun W => live25_any C W)
  have HN := Lib.hid num25_any
  have G1 := Lib.hid (fun W => C.new_e cfg W hcf)
  have G2 := Lib.hid (fun W => rlnew_e cfg W hcf)
  have H1 := Lib.hid (fun W => C.nrecv W)
  have H2 := Lib.hid (fun W (U : Below w.heap.size w W) => C.ntake pa ps pu A n c m W hps hpu (hB.below U))
  have H3 := Lib.hid (fun W => C.nkept W)
  have H4 := Lib.hid (fun W => C.nahead W)
  have H5 := Lib.hid (fun W => C.nstate W)
  unfold cfgV at *
  generalize plNew cfg = ce at *
  obtain ⟨eng, cw, cm, cl, cb, room, beg⟩ := cfg
  simp only at *
  have Ta := (Below.refl _ w).alloc (Nat.le_refl _) (.cells #[.int .i64 eng, .int .i64 cw, .int .i64 cm, .int .i64 cl, .int .i64 cb, .int .i64 room, .int .u64 (beg : Int)] 24)
  have T0 := Ta.alloc Ta.size (.cells #[.bool pa, .int .i64 ps, .int .u64 (pu : Int), .slice A n c] 38)
  obtain ⟨W0, hW0⟩ : ∃ W0, (w.alloc (.cells #[.int .i64 eng, .int .i64 cw, .int .i64 cm, .int .i64 cl, .int .i64 cb, .int .i64 room, .int .u64 (beg : Int)] 24)).alloc (.cells #[.bool pa, .int .i64 ps, .int .u64 (pu : Int), .slice A n c] 38) = W0 := ⟨_, rfl⟩
  have HCW : Hid (∀ W, Below W0.heap.size W0 W → W.heap[w.heap.size]? = some (.cells #[.int .i64 eng, .int .i64 cw, .int .i64 cm, .int .i64 cl, .int .i64 cb, .int .i64 room, .int .u64 (beg : Int)] 24 (0, 0))) := fun W U => (U.block _ (by rw [← hW0]; simp; omega)).trans (by rw [← hW0]; exact hp_old (heap_alloc_new w _) _)
  have HSW : Hid (∀ W, Below W0.heap.size W0 W → W.heap[w.heap.size + 1]? = some (.cells #[.bool pa, .int .i64 ps, .int .u64 (pu : Int), .slice A n c] 38 (0, 0))) := fun W U => by
    have h := heap_alloc_new (w.alloc (.cells #[.int .i64 eng, .int .i64 cw, .int .i64 cm, .int .i64 cl, .int .i64 cb, .int .i64 room, .int .u64 (beg : Int)] 24)) (.cells #[.bool pa, .int .i64 ps, .int .u64 (pu : Int), .slice A n c] 38)
    rw [show (w.alloc (.cells #[.int .i64 eng, .int .i64 cw, .int .i64 cm, .int .i64 cl, .int .i64 cb, .int .i64 room, .int .u64 (beg : Int)] 24)).heap.size = w.heap.size + 1 by simp, hW0] at h
    exact (U.block _ (by rw [← hW0]; simp)).trans h
  rw [hW0] at T0
  have HT0 := Lib.hid T0
  have HW0 := Lib.hid hW0
  have ece : (ce == ce) = true := by simp
  clear hcf hB T0 Ta hW0
  go_enter Try.func5, Try.ntmps5
  go_wp2_with (fail)
  rw [HW0.out]
  refine (H1.out _).mono ?_
  rintro e w1 ⟨v1, u1, rfl, T1⟩
  have U1 := T1
  obtain ⟨z0, z1', z2', z3, z4, z5, z6⟩ := row7 (HCW.out _ U1)
  go_wp2_with (fail)
  refine (G1.out _).mono ?_
  rintro e w3 ⟨p3, rfl, T3⟩
  have U3 := nxt U1 T3
  clear z0 z1' z2' z3 z4 z5 z6 U1 T1 T3
  obtain ⟨z0, z1', z2', z3, z4, z5, z6⟩ := row7 (HCW.out _ U3)
  go_wp2_with (fail)
  refine (G2.out _).mono ?_
  rintro e w4 ⟨p4, rfl, T4⟩
  have U4 := nxt U3 T4
  clear z0 z1' z2' z3 z4 z5 z6 T4
  obtain ⟨⟨y0, y1, y2, y3⟩, _⟩ := row4 (HSW.out _ U4)
  go_wp2_with (fail)
  refine (H2.out _ (nxt HT0.out U4)).mono ?_
  rintro e w5 ⟨P5, k5, rfl, T5⟩
  have U5 := nxt U4 T5
  clear y0 y1 y2 y3
  go_wp2_with (fail)
  refine (H3.out _).mono ?_
  rintro e w6 ⟨P6, k6, rfl, T6⟩
  have U6 := nxt U5 T6
  go_wp2_with (fail)
  refine (H4.out _).mono ?_
  rintro e w7 ⟨P7, k7, rfl, T7⟩
  have U7 := nxt U6 T7
  go_wp2_with (fail)
  refine (H5.out _).mono ?_
  rintro e w9 ⟨rfl, T9⟩
  have U9 := nxt U7 T9
  go_wp2_with (fail)
  refine (HN.out _ _).mono ?_
  rintro e w8 ⟨rfl, rfl⟩
  go_wp2_with (fail)
  refine (HL.out _).mono ?_
  rintro e w8 ⟨rfl, T8⟩
  have U8 := nxt HT0.out (nxt U9 T8)
  go_wp2
  go_ret
  exact ⟨rfl, U8⟩
end Go.Proofs.Ytpidbgnlehikeaa
