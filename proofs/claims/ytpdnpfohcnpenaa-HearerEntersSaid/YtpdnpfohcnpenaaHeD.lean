/- What layer 21's law's own live answers, over the contracts of hearer. -/
import Derived.Test.YtpdnpfohcnpenaaHeC

namespace Go.Proofs.Ytpdnpfohcnpenaa
open Go.RowKit
set_option maxRecDepth 20000

theorem lit97h (w : World) : Bys (w.alloc (.cells #[.int .u8 97] 5 (1, 2))) (some ⟨w.heap.size, 0, none⟩) 1 1 [97] := Bys.litf w [97] (1, 2) (by decide)
def he0 : Hs := ⟨2, [], 0, 0, [], 0, 0⟩
def he1 : Hs := heTick he0
def he2 : Hs := heTake he1 3 0 [97]
def he3 : Hs := heRecv he2
theorem he_few : HeFew 0 he0 ∧ HeFew 1 he1 ∧ HeFew 2 he2 ∧ HeFew 3 he3 := by
  have h0 : HeFew 0 he0 := HeFew.new 2 0 (by omega) (by omega) (by omega)
  have h1 : HeFew 1 he1 := h0.tick
  have h2 : HeFew 2 he2 := h1.take (by omega) 3 0 [97] (by simp)
  exact ⟨h0, h1, h2, h2.recv (by omega)⟩
theorem he_says : heTickL he0 = [(0, 0, [])] ∧ heTakeL he1 3 = [] ∧ he2.ls.headD [] = [97] ∧ (!he2.ls.isEmpty) = true ∧ heTakeL he3 1 = [(4, 0, [])] := by decide +kernel
/-- a packet with no bytes as the call's own literal -/
theorem lit_pk (w : World) (k lb : Int) : Pks (w.alloc (.cells #[.int .i64 k, .int .i64 lb, .slice none 0 0] 36)) (fun _ => False) (some ⟨w.heap.size, 0, none⟩) 1 1 [(k, lb, [])] := Pks.one (Bys.nil _) (Av.none _ _) (fun h => h)
set_option maxHeartbeats 8000000 in
theorem live21_any {F : Nat → Hs → World → (Nat → Prop) → Prop} (C : HeC F) (w : World) : Calls Try.prog 8 #[] w fun e w' => e = .returned (.bool true) ∧ Below w.heap.size w w' := by
  obtain ⟨k0, k1, k2, k3⟩ := he_few
  obtain ⟨e1, e2, e3, e4, e5⟩ := he_says
  have H0 := Lib.hid (C.new_yes 2 0 w (by omega) (by omega) (by omega))
  have HN := Lib.hid num21_any
  have h1 := fun g W X h => C.tick g he0 W X h k0.1
  rw [e1] at h1
  have h2 := fun g A c W X h hB hA => C.take g he1 3 0 A 1 c [97] W X h k1.1 (by have := k1.2.1; omega) (by have := alCount_le k1.2.2.1 0 [97]; omega) (by have := k1.2.2.2.1; omega) ⟨by omega, by omega⟩ ⟨by omega, by omega⟩ hB hA (fun _ => by omega)
  rw [e2] at h2
  have h3 := fun g W X h => C.recv g he2 W X h k2.1 (by have := k2.2.2.2.1; omega) (by have := k2.2.2.2.2; omega)
  rw [e3, e4] at h3
  have h4 := fun g W X h => C.take g he3 1 0 none 0 0 [] W X h k3.1 (by have := k3.2.1; omega) (by have := alCount_le k3.2.2.1 0 []; omega) (by have := k3.2.2.2.1; omega) ⟨by omega, by omega⟩ ⟨by omega, by omega⟩ (Bys.nil _) (Av.none _ _) (fun _ => by omega)
  rw [e5] at h4
  have H1 := Lib.hid h1
  have H2 := Lib.hid h2
  have H3 := Lib.hid h3
  have H4 := Lib.hid h4
  have kc := fun (w : World) (C : Array Value) (n c : Nat) => Lib.run_convert_bytes_const (P := Try.prog) w 34 5 C n c Try.underlying34 Try.underlying5
  clear h1 h2 h3 h4 e1 e2 e3 e4 e5 k0 k1 k2 k3
  go_enter Try.func8, Try.ntmps8
  go_wp2_with (fail)
  refine H0.out.mono ?_
  rintro e w1 ⟨g, X0, rfl, q1, x1, T1⟩
  have O1 : Hid (OneAt w.heap.size (F g he0) X0 w1) := ⟨q1, x1, T1.size⟩
  have U1 := T1
  clear q1 x1 T1
  go_wp2_with (fail)
  refine (H1.out g _ X0 O1.out.p).mono ?_
  rintro e w2 ⟨At, nt, ct, X2, rfl, pt, q2, t2⟩
  obtain rfl : 1 = nt := pt.len
  obtain ⟨o2, b2⟩ := O1.out.turn (P' := F g he1) q2 t2
  have U2 := (nxt U1 (Below.refl _ w1)).trans b2
  have V2 := (Below.refl _ w2).alloc (Nat.le_refl _) (.cells #[.int .u8 97] 5 (1, 2))
  have O2 := Lib.hid (o2.below (C.holds _ _) V2)
  have PT2 := Lib.hid (pt.below V2)
  have U2a := nxt U2 V2
  have av2 : Hid (Av X2 1 (some ⟨w2.heap.size, 0, none⟩)) := Av.of (fun hx => by have := (C.holds _ _).lt q2 _ hx; omega)
  clear q2 t2 o2 b2 pt V2 U2 U1
  go_wp2_with (fail)
  refine (H2.out g _ _ _ X2 O2.out.p (lit97h w2) av2.out).mono ?_
  rintro e w3 ⟨Ax, nx, cx, X3, rfl, px, q3, t3⟩
  obtain rfl : 0 = nx := px.len
  obtain ⟨o3, b3⟩ := O2.out.turn (P' := F g he2) q3 t3
  have O3 := Lib.hid o3
  have PT3 := Lib.hid (PT2.out.turn t3 (fun k _ hk => .inl hk))
  have U3 := U2a.trans b3
  clear q3 t3 o3 b3 px U2a PT2 O2
  go_wp2_with (fail)
  refine (H3.out g _ X3 O3.out.p).mono ?_
  rintro e w4 ⟨Am, nm, cm, X4, rfl, bm, am, -, q4, t4⟩
  obtain rfl : 1 = nm := bm.len
  obtain ⟨o4, b4⟩ := O3.out.turn (P' := F g he3) q4 t4
  have O4 := Lib.hid o4
  have PT4 := Lib.hid (PT3.out.turn t4 (fun k _ hk => .inl hk))
  have BM4 := Lib.hid (And.intro bm am)
  have U4 := U3.trans b4
  clear q4 t4 o4 b4 bm am U3 PT3 O3
  go_wp2_with (fail)
  refine (H4.out g _ X4 O4.out.p).mono ?_
  rintro e w5 ⟨Ay, ny, cy, X5, rfl, py, q5, t5⟩
  obtain rfl : 1 = ny := py.len
  obtain ⟨o5, b5⟩ := O4.out.turn q5 t5
  have PT5 := Lib.hid (PT4.out.turn t5 (fun k _ hk => .inl hk))
  have PY5 := Lib.hid py
  have BM5 := Lib.hid (BM4.out.1.off BM4.out.2 t5.off)
  have U5 := U4.trans b5
  clear q5 t5 o5 b5 py U4 PT4 O4 BM4
  go_wp2_with (fail)
  refine (HN.out _ _).mono ?_
  rintro e w6 ⟨rfl, rfl⟩
  have V6 := (Below.refl _ w5).alloc (Nat.le_refl _) (.cells #[.int .i64 0, .int .i64 0, .slice none 0 0] 36)
  have HSA := Lib.hid (rsameall13 _ _ _ _ _ _ _ _ _ _ (PT5.out.below V6) (lit_pk w5 0 0))
  have PY6 := Lib.hid (PY5.out.below V6)
  have BM6 := Lib.hid (BM5.out.below V6)
  have U6 := nxt U5 V6
  clear V6 PT5 PY5 BM5 U5
  go_wp2_with (fail)
  refine HSA.out.mono ?_
  rintro e w7 ⟨rfl, T7⟩
  have PY7 := PY6.out.below T7
  have BM7 := BM6.out.below T7
  have ks := conv_bys BM7
  have V8 := (Below.refl _ w7).alloc (Nat.le_refl _) (.cells #[.int .i64 4, .int .i64 0, .slice none 0 0] 36)
  have HSB := Lib.hid (rsameall13 _ _ _ _ _ _ _ _ _ _ (PY7.below V8) (lit_pk w7 4 0))
  have U8 := nxt (nxt U6 T7) V8
  clear V8 HSA PY6 BM6 U6 PY7 BM7 T7
  go_wp2_with (fail)
  refine HSB.out.mono ?_
  rintro e w9 ⟨rfl, T9⟩
  have U9 := nxt U8 T9
  go_wp2
  go_ret
  exact ⟨rfl, U9⟩
end Go.Proofs.Ytpdnpfohcnpenaa
