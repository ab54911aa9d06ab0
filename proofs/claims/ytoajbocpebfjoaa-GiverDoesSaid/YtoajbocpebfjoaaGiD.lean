/- What layer 28's law's own live answers, over the contracts of giver. -/
import Derived.Test.YtoajbocpebfjoaaGiC

namespace Go.Proofs.Ytoajbocpebfjoaa
open Go.RowKit
set_option maxRecDepth 20000

theorem lit97g (w : World) : Bys (w.alloc (.cells #[.int .u8 97] 5 (1, 2))) (some ⟨w.heap.size, 0, none⟩) 1 1 [97] := Bys.litf w [97] (1, 2) (by decide)
theorem Us.lit98 (w : World) : Us (w.alloc (.cells #[.int .u64 9, .int .u64 8] 38)) (some ⟨w.heap.size, 0, none⟩) 2 2 [9, 8] :=
  ⟨rfl, Nat.le_refl _, by unfold maxLen; omega, fun _ => ⟨w.heap.size, 0, rfl, by simp, fun j hj => by
    match j, hj with
    | 0, _ => simp [uvs]
    | 1, _ => simp [uvs]⟩⟩
def gv0 : Gvs := ⟨2, [], [9, 8], 0 + 1, nx [9, 8] 0, false, false, 0, 0, 0, 0, 0⟩
def gv1 : Gvs := gvTake gv0 0 5 0 []
def gv2 : Gvs := gvTake gv1 2 5 8 [97]
def gv3 : Gvs := gvRecv gv2
theorem gv_few : GvFew 0 gv0 ∧ GvFew 1 gv1 ∧ GvFew 2 gv2 := by
  have h0 : GvFew 0 gv0 := GvFew.new 2 [9, 8] (by omega) (by omega) (by simp)
  have h1 : GvFew 1 gv1 := h0.take (by omega) 0 (by omega) 0 []
  exact ⟨h0, h1, h1.take (by omega) 2 (by omega) 8 [97]⟩
theorem gv_says : gvTakeL gv0 0 5 0 = [(1, 5, 8, 9, [])] ∧ gvTakeL gv1 2 5 8 = [] ∧ gv2.ls.headD [] = [97] ∧ (!gv2.ls.isEmpty) = true ∧ gvRecvL gv2 = [(3, 5, 0, 9, [])] := ⟨rfl, rfl, rfl, rfl, rfl⟩
/-- a token with no bytes as the call's own literal -/
theorem lit_tk (w : World) (k : Int) (x y z : Nat) : Tks (w.alloc (.cells #[.int .i64 k, .int .u64 (x : Int), .int .u64 (y : Int), .int .u64 (z : Int), .slice none 0 0] 41)) (fun _ => False) (some ⟨w.heap.size, 0, none⟩) 1 1 [(k, x, y, z, [])] := Tks.one (Bys.nil _) (Av.none _ _) (fun h => h)
set_option maxHeartbeats 8000000 in
theorem live28_any {S : Nat → List Nat → Nat → World → (Nat → Prop) → Prop} (N : NoC S) {G : Nat → Nat → Gvs → World → (Nat → Prop) → Prop} (C : GiC S G) (w : World) : Calls Try.prog 7 #[] w fun e w' => e = .returned (.bool true) ∧ Below w.heap.size w w' := by
  obtain ⟨k0, k1, k2⟩ := gv_few
  obtain ⟨e1, e2, e3, e4, e5⟩ := gv_says
  have HS := Lib.hid (fun W A c h => N.new A 2 c [9, 8] W h (by simp) (by omega))
  have H0 := Lib.hid (fun gs W Xs h => C.new_yes 2 gs [9, 8] 0 W Xs (by omega) (by omega) h (by simp) (by omega))
  have HN := Lib.hid num28_any
  have h1 := fun g gs W X h => C.take g gs gv0 0 5 0 0 none 0 0 [] W X h k0.1 (by have := k0.2.1; omega) (by have := k0.2.2.1; omega) ⟨by omega, by omega⟩ (by omega) (by omega) (by omega) (Bys.nil _) (Av.none _ _)
  rw [e1] at h1
  have h2 := fun g gs A c W X h hB hA => C.take g gs gv1 2 5 8 0 A 1 c [97] W X h k1.1 (by have := k1.2.1; omega) (by have := k1.2.2.1; omega) ⟨by omega, by omega⟩ (by omega) (by omega) (by omega) hB hA
  rw [e2] at h2
  have h3 := fun g gs W X h => C.recv g gs gv2 W X h k2.1 (by have := k2.2.2.2; omega)
  rw [e3, e4, e5] at h3
  have H1 := Lib.hid h1
  have H2 := Lib.hid h2
  have H3 := Lib.hid h3
  have kc := fun (w : World) (C : Array Value) (n c : Nat) => Lib.run_convert_bytes_const (P := Try.prog) w 39 5 C n c Try.underlying39 Try.underlying5
  clear h1 h2 h3 e1 e2 e3 e4 e5 k0 k1 k2
  go_enter Try.func7, Try.ntmps7
  go_wp2_with (fail)
  refine (HS.out _ _ _ (Us.lit98 w)).mono ?_
  rintro e w0 ⟨gs, Xs, rfl, q0, x0, T0⟩
  have U0 := nxt ((Below.refl w.heap.size w).alloc (Nat.le_refl _) (.cells #[.int .u64 9, .int .u64 8] 38)) T0
  have O0 : Hid (OneAt w.heap.size (S gs [9, 8] 0) Xs w0) := ⟨q0, fun k hk => by have := x0 k hk; simp at this; omega, U0.size⟩
  clear q0 x0 T0
  go_wp2_with (fail)
  refine (H0.out gs _ Xs O0.out.p).mono ?_
  rintro e w1 ⟨g, X0, rfl, q1, t1⟩
  obtain ⟨o1, b1⟩ := O0.out.turn (P' := G g gs gv0) q1 t1
  have O1 := Lib.hid o1
  have U1 := U0.trans b1
  clear q1 t1 o1 b1 O0 U0
  go_wp2_with (fail)
  refine (H1.out g gs _ X0 O1.out.p).mono ?_
  rintro e w2 ⟨At, nt, ct, X2, rfl, pt, q2, t2⟩
  obtain rfl : 1 = nt := pt.len
  obtain ⟨o2, b2⟩ := O1.out.turn (P' := G g gs gv1) q2 t2
  have U2 := U1.trans b2
  have V2 := (Below.refl _ w2).alloc (Nat.le_refl _) (.cells #[.int .u8 97] 5 (1, 2))
  have O2 := Lib.hid (o2.below (C.holds _ _ _) V2)
  have PT2 := Lib.hid (pt.below V2)
  have U2a := nxt U2 V2
  have av2 : Hid (Av X2 1 (some ⟨w2.heap.size, 0, none⟩)) := Av.of (fun hx => by have := (C.holds _ _ _).lt q2 _ hx; omega)
  clear q2 t2 o2 b2 pt V2 U2 U1
  go_wp2_with (fail)
  refine (H2.out g gs _ _ _ X2 O2.out.p (lit97g w2) av2.out).mono ?_
  rintro e w3 ⟨Ax, nx, cx, X3, rfl, px, q3, t3⟩
  obtain rfl : 0 = nx := px.len
  obtain ⟨o3, b3⟩ := O2.out.turn (P' := G g gs gv2) q3 t3
  have O3 := Lib.hid o3
  have PT3 := Lib.hid (PT2.out.turn t3 (fun k _ hk => .inl hk))
  have U3 := U2a.trans b3
  clear q3 t3 o3 b3 px U2a PT2 O2
  go_wp2_with (fail)
  refine (H3.out g gs _ X3 O3.out.p).mono ?_
  rintro e w4 ⟨Am, nm, cm, Ay, ny, cy, X4, rfl, bm, am, -, py, q4, t4⟩
  obtain rfl : 1 = nm := bm.len
  obtain rfl : 1 = ny := py.len
  obtain ⟨o4, b4⟩ := O3.out.turn q4 t4
  have PT4 := Lib.hid (PT3.out.turn t4 (fun k _ hk => .inl hk))
  have PY4 := Lib.hid py
  have BM4 := Lib.hid bm
  have U4 := U3.trans b4
  clear q4 t4 o4 b4 bm am py U3 PT3 O3
  go_wp2_with (fail)
  refine (HN.out _ _).mono ?_
  rintro e w6 ⟨rfl, rfl⟩
  have V6 := (Below.refl _ w4).alloc (Nat.le_refl _) (.cells #[.int .i64 1, .int .u64 5, .int .u64 8, .int .u64 9, .slice none 0 0] 41)
  have HSA := Lib.hid (rsameall15 _ _ _ _ _ _ _ _ _ _ (PT4.out.below V6) (lit_tk w4 1 5 8 9))
  have PY6 := Lib.hid (PY4.out.below V6)
  have BM6 := Lib.hid (BM4.out.below V6)
  have U6 := nxt U4 V6
  clear V6 PT4 PY4 BM4 U4
  go_wp2_with (fail)
  refine HSA.out.mono ?_
  rintro e w7 ⟨rfl, T7⟩
  have PY7 := PY6.out.below T7
  have BM7 := BM6.out.below T7
  have ks := conv_bys BM7
  have V8 := (Below.refl _ w7).alloc (Nat.le_refl _) (.cells #[.int .i64 3, .int .u64 5, .int .u64 0, .int .u64 9, .slice none 0 0] 41)
  have HSB := Lib.hid (rsameall15 _ _ _ _ _ _ _ _ _ _ (PY7.below V8) (lit_tk w7 3 5 0 9))
  have U8 := nxt (nxt U6 T7) V8
  clear V8 HSA PY6 BM6 U6 PY7 BM7 T7
  go_wp2_with (fail)
  refine HSB.out.mono ?_
  rintro e w9 ⟨rfl, T9⟩
  have U9 := nxt U8 T9
  go_wp2
  go_ret
  exact ⟨rfl, U9⟩
end Go.Proofs.Ytoajbocpebfjoaa
