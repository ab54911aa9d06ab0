/- What layer 20's law's own live answers, over the contracts of caller. -/
import Derived.Test.YtepmecmhnefhkaaCaC

namespace Go.Proofs.Ytepmecmhnefhkaa
open Go.RowKit
set_option maxRecDepth 20000

theorem lit97c (w : World) : Bys (w.alloc (.cells #[.int .u8 97] 5 (1, 2))) (some ⟨w.heap.size, 0, none⟩) 1 1 [97] := Bys.litf w [97] (1, 2) (by decide)
def ca0 : Cs := ⟨2, [], 0, 0, 0, 0, 0⟩
def ca1 : Cs := caSend ca0 [97]
def ca2 : Cs := caTick ca1
def ca3 : Cs := caTake ca2 4 0
theorem ca_few : CaFew 0 ca0 ∧ CaFew 1 ca1 ∧ CaFew 2 ca2 := by
  have h0 : CaFew 0 ca0 := CaFew.new 2 0 (by omega) (by omega) (by omega)
  have h1 : CaFew 1 ca1 := h0.send (by omega) [97]
  exact ⟨h0, h1, h1.tick⟩
theorem ca_says : caSendE ca0 1 = 0 ∧ caSendN ca0 1 = 0 ∧ caTakeL ca1 0 = [(3, 0, [97])] ∧ caTickL ca1 = [(1, 0, [])] ∧ caTakeL ca2 4 = [] ∧ caPoll ca3 0 = 1 ∧ caPollE ca3 0 = 0 := by decide +kernel
theorem ca_ask : caTake ca1 0 0 = ca1 := rfl
set_option maxHeartbeats 8000000 in
theorem live20_any {F : Nat → Cs → World → (Nat → Prop) → Prop} (C : CaC F) (w : World) : Calls Try.prog 6 #[] w fun e w' => e = .returned (.bool true) ∧ Below w.heap.size w w' := by
  obtain ⟨k0, k1, k2⟩ := ca_few
  obtain ⟨e1, e2, e3, e4, e5, e6, e7⟩ := ca_says
  have H0 := Lib.hid (C.new_yes 2 0 w (by omega) (by omega) (by omega))
  have HN := Lib.hid num20_any
  have h1 := fun g A c W X h hB hA => C.send g ca0 A 1 c [97] W X h k0.1 hB hA (by have := k0.2.1; omega)
  rw [e1, e2] at h1
  have h2 := fun g W X h => C.take g ca1 0 0 none 0 0 [] W X h k1.1 (by have := k1.2.2.2; omega) (by have := k1.2.2.1; omega) ⟨by omega, by omega⟩ ⟨by omega, by omega⟩ (Bys.nil _)
  rw [e3, ca_ask] at h2
  have h3 := fun g W X h => C.tick g ca1 W X h k1.1
  rw [e4] at h3
  have h4 := fun g W X h => C.take g ca2 4 0 none 0 0 [] W X h k2.1 (by have := k2.2.2.2; omega) (by have := k2.2.2.1; omega) ⟨by omega, by omega⟩ ⟨by omega, by omega⟩ (Bys.nil _)
  rw [e5] at h4
  have h5 := fun g W X h => C.poll g ca3 0 W X h ⟨by omega, by omega⟩
  rw [e6, e7] at h5
  have H1 := Lib.hid h1
  have H2 := Lib.hid h2
  have H3 := Lib.hid h3
  have H4 := Lib.hid h4
  have H5 := Lib.hid h5
  have kc := fun (w : World) (C : Array Value) (n c : Nat) => Lib.run_convert_bytes_const (P := Try.prog) w 34 5 C n c Try.underlying34 Try.underlying5
  clear h1 h2 h3 h4 h5 e1 e2 e3 e4 e5 e6 e7 k0 k1 k2
  go_enter Try.func6, Try.ntmps6
  go_wp2_with (fail)
  refine H0.out.mono ?_
  rintro e w1 ⟨g, X0, rfl, q1, x1, T1⟩
  have O1 : Hid (OneAt w.heap.size (F g ca0) X0 w1) := ⟨q1, x1, T1.size⟩
  have U1 := T1.alloc T1.size (.cells #[.int .u8 97] 5 (1, 2))
  have O1a := Lib.hid (O1.out.below (C.holds _ _) ((Below.refl _ w1).alloc (Nat.le_refl _) (.cells #[.int .u8 97] 5 (1, 2))))
  have av1 : Hid (Av X0 1 (some ⟨w1.heap.size, 0, none⟩)) := Av.of (fun hx => by have := (C.holds _ _).lt O1.out.p _ hx; omega)
  clear q1 x1 T1
  go_wp2_with (fail)
  refine (H1.out g _ _ _ X0 O1a.out.p (lit97c w1) av1.out).mono ?_
  rintro e w2 ⟨rfl, X2, q2, t2⟩
  obtain ⟨o2, b2⟩ := O1a.out.turn (P' := F g ca1) q2 t2
  have O2 := Lib.hid o2
  have U2 := U1.trans b2
  clear q2 t2 o2 b2 U1
  go_wp2_with (fail)
  refine (H2.out g _ X2 O2.out.p).mono ?_
  rintro e w3 ⟨Ax, nx, cx, X3, rfl, px, q3, t3⟩
  obtain ⟨o3, b3⟩ := O2.out.turn q3 t3
  have O3 := Lib.hid o3
  have PX := Lib.hid px
  have U3 := U2.trans b3
  clear q3 t3 o3 b3 px U2
  go_wp2_with (fail)
  refine (H3.out g _ X3 O3.out.p).mono ?_
  rintro e w4 ⟨At, nt, ct, X4, rfl, pt, q4, t4⟩
  obtain rfl : 1 = nt := pt.len
  obtain ⟨o4, b4⟩ := O3.out.turn (P' := F g ca2) q4 t4
  have O4 := Lib.hid o4
  have PX4 := Lib.hid (PX.out.turn t4 (fun k _ hk => .inl hk))
  have U4 := U3.trans b4
  clear q4 t4 o4 b4 pt PX U3
  go_wp2_with (fail)
  refine (H4.out g _ X4 O4.out.p).mono ?_
  rintro e w5 ⟨Ay, ny, cy, X5, rfl, py, q5, t5⟩
  obtain rfl : 0 = ny := py.len
  obtain ⟨o5, b5⟩ := O4.out.turn (P' := F g ca3) q5 t5
  have O5 := Lib.hid o5
  have PX5 := Lib.hid (PX4.out.turn t5 (fun k _ hk => .inl hk))
  have U5 := U4.trans b5
  clear q5 t5 o5 b5 py PX4 U4
  go_wp2_with (fail)
  refine (H5.out g _ X5 O5.out.p).mono ?_
  rintro e w6 ⟨rfl, T6⟩
  have PX6 := Lib.hid (PX5.out.below T6)
  have U6 := nxt U5 T6
  clear PX5 T6 U5
  go_wp2_with (fail)
  refine (HN.out _ _).mono ?_
  rintro e w7 ⟨rfl, rfl⟩
  go_wp2_with (fail)
  refine (HN.out _ _).mono ?_
  rintro e w7 ⟨rfl, rfl⟩
  go_wp2_with (fail)
  refine (HN.out _ _).mono ?_
  rintro e w7 ⟨rfl, rfl⟩
  have L0 := lit97c w6
  have V1 := (Below.refl _ w6).alloc (Nat.le_refl _) (.cells #[.int .u8 97] 5 (1, 2))
  have L1 : Hid (Pks ((w6.alloc (.cells #[.int .u8 97] 5 (1, 2))).alloc (.cells #[.int .i64 3, .int .i64 0, .slice (some ⟨w6.heap.size, 0, none⟩) 1 1] 36)) (fun _ => False) (some ⟨w6.heap.size + 1, 0, none⟩) 1 1 [(3, 0, [97])]) := by
    have h := Pks.one (Y := fun _ => False) (k := 3) (lb := 0) L0 (fun _ _ _ h => h) (fun h => h)
    have e : (w6.alloc (.cells #[.int .u8 97] 5 (1, 2))).heap.size = w6.heap.size + 1 := by simp
    rw [e] at h
    exact h
  have V2 := V1.alloc (by simp) (.cells #[.int .i64 3, .int .i64 0, .slice (some ⟨w6.heap.size, 0, none⟩) 1 1] 36)
  have HSA := Lib.hid (rsameall13 _ _ _ _ _ _ _ _ _ _ (PX6.out.below V2) L1.out)
  have U8 := nxt U6 V2
  clear V1 V2 L0
  go_wp2_with (fail)
  refine HSA.out.mono ?_
  rintro e w9 ⟨rfl, T9⟩
  have U9 := nxt U8 T9
  go_wp2
  go_ret
  exact ⟨rfl, U9⟩
end Go.Proofs.Ytepmecmhnefhkaa
