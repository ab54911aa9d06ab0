/- The walk of layer 24's PusherNil, over the contracts of pusher. -/
import Derived.Test.YtncpabnmdofomaaPuD
namespace Go.Proofs.Ytncpabnmdofomaa
open Go.RowKit
set_option maxRecDepth 20000

/-- New answers an error that is the document's own, whatever it is opened with -/
theorem PuC.new_e {F : Nat → Pus → World → (Nat → Prop) → Prop} (C : PuC F) (c : Cfg) (w : World) (h : CfI c) : Calls Try.prog 8 #[cfgV c] w fun e w' => ∃ p, e = .returned (.tuple #[.pointer p, .int .i64 (puNew c)]) ∧ Below w.heap.size w w' := by
  by_cases h0 : puNew c = 0
  · refine (C.new_yes c w h h0).mono ?_
    rintro e w' ⟨g, X, rfl, _, _, T⟩
    exact ⟨_, by rw [h0], T⟩
  · refine (C.new_no c w h h0).mono ?_
    rintro e w' ⟨rfl, T⟩
    exact ⟨_, rfl, T⟩
theorem rpnew_e (c : Cfg) (w : World) (h : CfI c) : Calls Try.prog 9 #[cfgV c] w fun e w' => ∃ p, e = .returned (.tuple #[.pointer p, .int .i64 (puNew c)]) ∧ Below w.heap.size w w' := by
  by_cases h0 : puNew c = 0
  · refine (rpnew_yes c w h.in_ h0).mono ?_
    rintro e w' ⟨g, X, rfl, _, _, T⟩
    exact ⟨_, by rw [h0], T⟩
  · refine (rpnew_no c w h.in_ h0).mono ?_
    rintro e w' ⟨rfl, T⟩
    exact ⟨_, rfl, T⟩
set_option maxHeartbeats 16000000 in
theorem walk_PusherNil {F : Nat → Pus → World → (Nat → Prop) → Prop} (C : PuC F) (cfg : Cfg) (A : Option Addr) (n c : Nat) (m : List UInt8) (w : World) (hcf : CfI cfg) (hB : Bys w A n c m) :
    Calls Try.prog 5 #[cfgV cfg, .slice A n c] w fun e w' => e = .returned (.bool true) ∧ Below w.heap.size w w' := by
  have HL := Lib.hid (fun W => live24_any C W)
  have HN := Lib.hid num24_any
  have G1 := Lib.hid (fun W => C.new_e cfg W hcf)
  have G2 := Lib.hid (fun W => rpnew_e cfg W hcf)
  have H1 := Lib.hid (fun W (U : Below w.heap.size w W) => C.nsend A n c m W (hB.below U))
  have H2 := Lib.hid (fun W => C.npoll 0 W ⟨by omega, by omega⟩)
  have H3 := Lib.hid (fun W => C.ntick W)
  have H4 := Lib.hid (fun W => C.ntake true 0 0 none 0 0 [] W ⟨by omega, by omega⟩ (by omega) (Bys.nil _))
  have H5 := Lib.hid (fun W => C.ntimers W)
  unfold cfgV at *
  generalize puNew cfg = ce at *
  obtain ⟨eng, cw, cm, cl, cb, room, beg⟩ := cfg
  simp only at *
  have T0 := (Below.refl _ w).alloc (Nat.le_refl _) (.cells #[.int .i64 eng, .int .i64 cw, .int .i64 cm, .int .i64 cl, .int .i64 cb, .int .i64 room, .int .u64 (beg : Int)] 24)
  have HCW : Hid (∀ W, Below (w.alloc (.cells #[.int .i64 eng, .int .i64 cw, .int .i64 cm, .int .i64 cl, .int .i64 cb, .int .i64 room, .int .u64 (beg : Int)] 24)).heap.size (w.alloc (.cells #[.int .i64 eng, .int .i64 cw, .int .i64 cm, .int .i64 cl, .int .i64 cb, .int .i64 room, .int .u64 (beg : Int)] 24)) W → W.heap[w.heap.size]? = some (.cells #[.int .i64 eng, .int .i64 cw, .int .i64 cm, .int .i64 cl, .int .i64 cb, .int .i64 room, .int .u64 (beg : Int)] 24 (0, 0))) := fun W U => (U.block _ (by simp)).trans (heap_alloc_new w _)
  have HT0 := Lib.hid T0
  have ece : (ce == ce) = true := by simp
  clear hcf hB T0
  go_enter Try.func5, Try.ntmps5
  go_wp2_with (fail)
  refine (H1.out _ HT0.out).mono ?_
  rintro e w1 ⟨z1, P1, k1, rfl, T1⟩
  have U1 := T1
  go_wp2_with (fail)
  refine (H2.out _).mono ?_
  rintro e w2 ⟨z2, rfl, T2⟩
  have U2 := nxt U1 T2
  obtain ⟨z0, z1', z2', z3, z4, z5, z6⟩ := row7 (HCW.out _ U2)
  go_wp2_with (fail)
  refine (G1.out _).mono ?_
  rintro e w3 ⟨p3, rfl, T3⟩
  have U3 := nxt U2 T3
  clear z0 z1' z2' z3 z4 z5 z6 U1 T1 T2 T3
  obtain ⟨z0, z1', z2', z3, z4, z5, z6⟩ := row7 (HCW.out _ U3)
  go_wp2_with (fail)
  refine (G2.out _).mono ?_
  rintro e w4 ⟨p4, rfl, T4⟩
  have U4 := nxt U3 T4
  clear z0 z1' z2' z3 z4 z5 z6 T4
  go_wp2_with (fail)
  refine (HN.out _ _).mono ?_
  rintro e w5 ⟨rfl, rfl⟩
  go_wp2_with (fail)
  refine (HN.out _ _).mono ?_
  rintro e w5 ⟨rfl, rfl⟩
  go_wp2_with (fail)
  refine (H3.out _).mono ?_
  rintro e w5 ⟨P5, k5, rfl, T5⟩
  have U5 := nxt U4 T5
  go_wp2_with (fail)
  refine (H4.out _).mono ?_
  rintro e w6 ⟨P6, k6, rfl, T6⟩
  have U6 := nxt U5 T6
  go_wp2_with (fail)
  refine (H5.out _).mono ?_
  rintro e w7 ⟨P7, k7, rfl, T7⟩
  have U7 := nxt U6 T7
  go_wp2_with (fail)
  refine (HN.out _ _).mono ?_
  rintro e w8 ⟨rfl, rfl⟩
  go_wp2_with (fail)
  refine (HL.out _).mono ?_
  rintro e w8 ⟨rfl, T8⟩
  have U8 := nxt HT0.out (nxt U7 T8)
  go_wp2
  go_ret
  exact ⟨rfl, U8⟩
end Go.Proofs.Ytncpabnmdofomaa
