/- What layer 27's law's own live answers, over the contracts of asker and nonce. -/
import Derived.Test.YtdkebneiikdohaaAsC

namespace Go.Proofs.Ytdkebneiikdohaa
open Go.RowKit
set_option maxRecDepth 20000

theorem lit97a (w : World) : Bys (w.alloc (.cells #[.int .u8 97] 5 (1, 2))) (some ⟨w.heap.size, 0, none⟩) 1 1 [97] := Bys.litf w [97] (1, 2) (by decide)
theorem Us.lit5a (w : World) : Us (w.alloc (.cells #[.int .u64 5] 22)) (some ⟨w.heap.size, 0, none⟩) 1 1 [5] := Us.litz w 5 5 rfl
def lvC : Cfg := ⟨0, 0, 0, 0, 4, 2, 0⟩
def lvA : Ass := as0 lvC [5] 0
def lvB : Ass := asSend lvA [97]
def lvD : Ass := asTake lvB 1 5 9
def lvE : Ass := asTake lvD 1 5 2
theorem lv_few : AsFew 0 lvA ∧ AsFew 1 lvB ∧ AsFew 2 lvD ∧ AsFew 3 lvE := by
  have h0 : AsFew 0 lvA := ⟨AsOk.new (c := lvC) (by decide) (by simp) (by omega), Nat.le_refl _, Nat.le_refl _⟩
  have h1 : AsFew 1 lvB := h0.send (by omega) [97]
  have h2 : AsFew 2 lvD := h1.take (by omega) 1 5 (by omega)
  exact ⟨h0, h1, h2, h2.take (by omega) 1 5 (by omega)⟩
theorem lv_says : asSendN lvA 1 = 0 ∧ quPushE lvA.room lvA.ls 1 = 0 ∧ asSendL lvA 1 = [(0, 5, 0, 0, [])] ∧ asTakeL lvB 1 5 8 9 = [(2, 5, 8, 0, [97])] ∧ asTakeL lvD 1 5 1 2 = [] ∧ asPoll lvE 0 = 2 ∧ asPollE lvE 0 = 0 := ⟨rfl, rfl, rfl, rfl, rfl, rfl, rfl⟩
theorem lit_tka (w : World) (k : Int) (x y z : Nat) : Tks (w.alloc (.cells #[.int .i64 k, .int .u64 (x : Int), .int .u64 (y : Int), .int .u64 (z : Int), .slice none 0 0] 41)) (fun _ => False) (some ⟨w.heap.size, 0, none⟩) 1 1 [(k, x, y, z, [])] := Tks.one (Bys.nil _) (Av.none _ _) (fun h => h)
set_option maxHeartbeats 8000000 in
theorem live27_any {S : Nat → List Nat → Nat → World → (Nat → Prop) → Prop} (N : NoC S) {A : Nat → Nat → Ass → World → (Nat → Prop) → Prop} (C : AsC S A) (w : World) : Calls Try.prog 8 #[] w fun e w' => e = .returned (.bool true) ∧ Below w.heap.size w w' := by
  obtain ⟨k0, k1, k2, k3⟩ := lv_few
  obtain ⟨e1, e2, e3, e4, e5, e6, e7⟩ := lv_says
  have HS := Lib.hid (fun W A c h => N.new A 1 c [5] W h (by simp) (by omega))
  have H0 := Lib.hid (fun gs W Xs h => C.new_yes lvC gs [5] 0 W Xs ⟨⟨by decide, by decide⟩, ⟨by decide, by decide⟩, ⟨by decide, by decide⟩, ⟨by decide, by decide⟩, ⟨by decide, by decide⟩, ⟨by decide, by decide⟩, by decide⟩ (by decide) h (by simp))
  have HN := Lib.hid num27_any
  have h1 := fun g gs P c W X h hB hA => C.send g gs lvA P 1 c [97] W X h k0.1 (by have := k0.2.1; omega) hB hA
  rw [e1, e2, e3] at h1
  have h2 := fun g gs W X h => C.take g gs lvB 1 5 8 9 none 0 0 [] W X h k1.1 (by have := k1.2.1; omega) (by have := k1.2.2; omega) ⟨by omega, by omega⟩ (by omega) (by omega) (by omega) (Bys.nil _) (Av.none _ _)
  rw [e4] at h2
  have h3 := fun g gs W X h => C.take g gs lvD 1 5 1 2 none 0 0 [] W X h k2.1 (by have := k2.2.1; omega) (by have := k2.2.2; omega) ⟨by omega, by omega⟩ (by omega) (by omega) (by omega) (Bys.nil _) (Av.none _ _)
  rw [e5] at h3
  have h4 := fun g gs W X h => C.poll g gs lvE 0 W X h k3.1 ⟨by omega, by omega⟩
  rw [e6, e7] at h4
  have H1 := Lib.hid h1
  have H2 := Lib.hid h2
  have H3 := Lib.hid h3
  have H4 := Lib.hid h4
  have kc := fun (w : World) (C : Array Value) (n c : Nat) => Lib.run_convert_bytes_const (P := Try.prog) w 39 5 C n c Try.underlying39 Try.underlying5
  clear h1 h2 h3 h4 e1 e2 e3 e4 e5 e6 e7 k0 k1 k2 k3
  go_enter Try.func8, Try.ntmps8
  go_wp2_with (fail)
  refine (HS.out _ _ _ (Us.lit5a w)).mono ?_
  rintro e w0 ⟨gs, Xs, rfl, q0, x0, T0⟩
  have U0 := nxt ((Below.refl w.heap.size w).alloc (Nat.le_refl _) (.cells #[.int .u64 5] 22)) T0
  have O0 : Hid (OneAt w.heap.size (S gs [5] 0) Xs w0) := ⟨q0, fun k hk => by have := x0 k hk; simp at this; omega, U0.size⟩
  clear q0 x0 T0
  go_wp2_with (fail)
  refine (H0.out gs _ Xs O0.out.p).mono ?_
  rintro e w1 ⟨g, X0, rfl, q1, t1⟩
  obtain ⟨o1, b1⟩ := O0.out.turn (P' := A g gs lvA) q1 t1
  have V1 := (Below.refl _ w1).alloc (Nat.le_refl _) (.cells #[.int .u8 97] 5 (1, 2))
  have O1 := Lib.hid (o1.below (C.holds _ _ _) V1)
  have av1 : Hid (Av X0 1 (some ⟨w1.heap.size, 0, none⟩)) := Av.of (fun hx => by have := (C.holds _ _ _).lt q1 _ hx; omega)
  have U1 := nxt (U0.trans b1) V1
  clear q1 t1 o1 b1 O0 U0 V1
  go_wp2_with (fail)
  refine (H1.out g gs _ _ _ X0 O1.out.p (lit97a w1) av1.out).mono ?_
  rintro e w2 ⟨At, nt, ct, X2, rfl, pt, q2, t2⟩
  obtain rfl : 1 = nt := pt.len
  obtain ⟨o2, b2⟩ := O1.out.turn (P' := A g gs lvB) q2 t2
  have U2 := U1.trans b2
  have O2 := Lib.hid o2
  have PT2 := Lib.hid pt
  clear q2 t2 o2 b2 pt U1 O1
  go_wp2_with (fail)
  refine (H2.out g gs _ X2 O2.out.p).mono ?_
  rintro e w3 ⟨Ay, ny, cy, X3, rfl, py, q3, t3⟩
  obtain rfl : 1 = ny := py.len
  obtain ⟨o3, b3⟩ := O2.out.turn (P' := A g gs lvD) q3 t3
  have O3 := Lib.hid o3
  have PT3 := Lib.hid (PT2.out.turn t3 (fun k _ hk => .inl hk))
  have PY3 := Lib.hid py
  have U3 := U2.trans b3
  clear q3 t3 o3 b3 py U2 PT2 O2
  go_wp2_with (fail)
  refine (H3.out g gs _ X3 O3.out.p).mono ?_
  rintro e w4 ⟨Az, nz, cz, X4, rfl, -, q4, t4⟩
  obtain ⟨o4, b4⟩ := O3.out.turn (P' := A g gs lvE) q4 t4
  have O4 := Lib.hid o4
  have PT4 := Lib.hid (PT3.out.turn t4 (fun k _ hk => .inl hk))
  have PY4 := Lib.hid (PY3.out.turn t4 (fun k _ hk => .inl hk))
  have U4 := U3.trans b4
  clear q4 t4 o4 b4 U3 PT3 PY3 O3
  go_wp2_with (fail)
  refine (H4.out g gs _ X4 O4.out.p).mono ?_
  rintro e w5 ⟨rfl, T5⟩
  have PT5 := Lib.hid (PT4.out.below T5)
  have PY5 := Lib.hid (PY4.out.below T5)
  have U5 := nxt U4 T5
  clear PT4 PY4 O4 U4 T5
  go_wp2_with (fail)
  refine (HN.out _ _).mono ?_
  rintro e w6 ⟨rfl, rfl⟩
  go_wp2_with (fail)
  refine (HN.out _ _).mono ?_
  rintro e w6 ⟨rfl, rfl⟩
  go_wp2_with (fail)
  refine (HN.out _ _).mono ?_
  rintro e w6 ⟨rfl, rfl⟩
  have V6 := (Below.refl _ w5).alloc (Nat.le_refl _) (.cells #[.int .i64 0, .int .u64 5, .int .u64 0, .int .u64 0, .slice none 0 0] 41)
  have HSA := Lib.hid (rsameall15 _ _ _ _ _ _ _ _ _ _ (PT5.out.below V6) (lit_tka w5 0 5 0 0))
  have PY6 := Lib.hid (PY5.out.below V6)
  have U6 := nxt U5 V6
  clear V6 PT5 PY5 U5
  go_wp2_with (fail)
  refine HSA.out.mono ?_
  rintro e w7 ⟨rfl, T7⟩
  have V7 := (Below.refl _ w7).alloc (Nat.le_refl _) (.cells #[.int .u8 97] 5 (1, 2))
  have V8 := (Below.refl _ (w7.alloc (.cells #[.int .u8 97] 5 (1, 2)))).alloc (Nat.le_refl _) (.cells #[.int .i64 2, .int .u64 5, .int .u64 8, .int .u64 0, .slice (some ⟨w7.heap.size, 0, none⟩) 1 1] 41)
  have hlt := Tks.one (w := w7.alloc (.cells #[.int .u8 97] 5 (1, 2))) (Y := fun _ => False) (k := 2) (x := 5) (y := 8) (z := 0) (lit97a w7) (fun _ _ _ h => h) (fun h => h)
  rw [show (w7.alloc (.cells #[.int .u8 97] 5 (1, 2))).heap.size = w7.heap.size + 1 by simp] at hlt
  have HSB := Lib.hid (rsameall15 _ _ _ _ _ _ _ _ _ _ (((PY6.out.below T7).below V7).below V8) hlt)
  have U8 := nxt (nxt (nxt U6 T7) V7) V8
  clear V7 V8 HSA PY6 U6 T7 hlt
  go_wp2_with (fail)
  refine HSB.out.mono ?_
  rintro e w9 ⟨rfl, T9⟩
  have U9 := nxt U8 T9
  go_wp2
  go_ret
  exact ⟨rfl, U9⟩
end Go.Proofs.Ytdkebneiikdohaa
