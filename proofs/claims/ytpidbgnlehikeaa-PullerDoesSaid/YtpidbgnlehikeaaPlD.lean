/- What layer 25's law's own live answers, over the contracts of puller. -/
import Derived.Test.YtpidbgnlehikeaaPlC
namespace Go.Proofs.Ytpidbgnlehikeaa
open Go.RowKit
set_option maxRecDepth 20000

theorem lit97l (w : World) : Bys (w.alloc (.cells #[.int .u8 97] 5 (1, 2))) (some ⟨w.heap.size, 0, none⟩) 1 1 [97] := Bys.litf w [97] (1, 2) (by decide)
theorem lit98l (w : World) : Bys (w.alloc (.cells #[.int .u8 98] 5 (1, 2))) (some ⟨w.heap.size, 0, none⟩) 1 1 [98] := Bys.litf w [98] (1, 2) (by decide)
def plc0 : Cfg := ⟨0, 2, 9, 2, 0, 4, 0⟩
def pl0 : Pls := ⟨plc0, [], [], 0, 0⟩
def pl1 : Pls := plTake pl0 false 1 [98]
def pl2 : Pls := plTake pl1 false 0 [97]
theorem pl_says : plNew plc0 = 0 ∧ plTakeL pl0 false 1 [98] = [(true, 0, 2, [])] ∧ plTakeL pl1 false 0 [97] = [(true, 2, 0, [])] ∧ pl2.ls.headD [] = [97] ∧ (!pl2.ls.isEmpty) = true := by decide +kernel
theorem pl_few : PlFew 0 pl0 ∧ PlFew 1 pl1 ∧ PlFew 2 pl2 := by
  have h0 : PlFew 0 pl0 := PlFew.new pl_says.1
  have h1 : PlFew 1 pl1 := h0.take false 1 [98]
  exact ⟨h0, h1, h1.take false 0 [97]⟩
set_option maxHeartbeats 8000000 in
theorem live25_any {F : Nat → Pls → World → (Nat → Prop) → Prop} (C : PlC F) (w : World) : Calls Try.prog 7 #[] w fun e w' => e = .returned (.bool true) ∧ Below w.heap.size w w' := by
  obtain ⟨k0, k1, k2⟩ := pl_few
  obtain ⟨e0, e1, e2, e3, e4⟩ := pl_says
  have h0 := C.new_yes plc0 w ⟨⟨by decide, by decide⟩, ⟨by decide, by decide⟩, ⟨by decide, by decide⟩, ⟨by decide, by decide⟩, ⟨by decide, by decide⟩, ⟨by decide, by decide⟩, by decide⟩ e0
  have H0 : Hid (Calls Try.prog 8 #[.agg #[.int .i64 0, .int .i64 2, .int .i64 9, .int .i64 2, .int .i64 0, .int .i64 4, .int .u64 0]] w fun e w' => ∃ g X, e = .returned (.tuple #[.pointer (some ⟨g, 0, none⟩), .int .i64 0]) ∧ F g pl0 w' X ∧ (∀ k, X k → w.heap.size ≤ k) ∧ Below w.heap.size w w') := h0
  have HN := Lib.hid num25_any
  have h1 := fun g A c W X h hB hA => C.take g pl0 false 1 0 A 1 c [98] W X h k0.1 (by have := k0.2; omega) ⟨by omega, by omega⟩ (by omega) hB hA
  rw [e1] at h1
  have h2 := fun g A c W X h hB hA => C.take g pl1 false 0 0 A 1 c [97] W X h k1.1 (by have := k1.2; omega) ⟨by omega, by omega⟩ (by omega) hB hA
  rw [e2] at h2
  have h3 := fun g W X h => C.recv g pl2 W X h k2.1 (by have := k2.2; omega)
  rw [e3, e4] at h3
  have H1 := Lib.hid h1
  have H2 := Lib.hid h2
  have H3 := Lib.hid h3
  have kc := fun (w : World) (C : Array Value) (n c : Nat) => Lib.run_convert_bytes_const (P := Try.prog) w 36 5 C n c Try.underlying36 Try.underlying5
  clear h0 h1 h2 h3 e0 e1 e2 e3 e4 k0 k1 k2
  go_enter Try.func7, Try.ntmps7
  go_wp2_with (fail)
  refine H0.out.mono ?_
  rintro e w1 ⟨g, X0, rfl, q1, x1, T1⟩
  have O1 : Hid (OneAt w.heap.size (F g pl0) X0 w1) := ⟨q1, x1, T1.size⟩
  have U1 := T1.alloc T1.size (.cells #[.int .u8 98] 5 (1, 2))
  have O1a := Lib.hid (O1.out.below (C.holds _ _) ((Below.refl _ w1).alloc (Nat.le_refl _) (.cells #[.int .u8 98] 5 (1, 2))))
  have av1 : Hid (Av X0 1 (some ⟨w1.heap.size, 0, none⟩)) := Av.of (fun hx => by have := (C.holds _ _).lt O1.out.p _ hx; omega)
  clear q1 x1 T1
  go_wp2_with (fail)
  refine (H1.out g _ _ _ X0 O1a.out.p (lit98l w1) av1.out).mono ?_
  rintro e w2 ⟨Aa, na, ca, X2, rfl, pa, q2, t2⟩
  obtain ⟨o2, b2⟩ := O1a.out.turn (P' := F g pl1) q2 t2
  have O2 := Lib.hid o2
  have PA2 := Lib.hid pa
  have U2 := U1.trans b2
  have V2 := U2.alloc U2.size (.cells #[.int .u8 97] 5 (1, 2))
  have T2a := (Below.refl _ w2).alloc (Nat.le_refl _) (.cells #[.int .u8 97] 5 (1, 2))
  have O2a := Lib.hid (O2.out.below (C.holds _ _) T2a)
  have PA2a := Lib.hid (PA2.out.below T2a)
  have av2 : Hid (Av X2 1 (some ⟨w2.heap.size, 0, none⟩)) := Av.of (fun hx => by have := (C.holds _ _).lt O2.out.p _ hx; omega)
  clear q2 t2 o2 b2 U1 pa T2a
  go_wp2_with (fail)
  refine (H2.out g _ _ _ X2 O2a.out.p (lit97l w2) av2.out).mono ?_
  rintro e w3 ⟨Ab, nb, cb, X3, rfl, pb, q3, t3⟩
  obtain ⟨o3, b3⟩ := O2a.out.turn (P' := F g pl2) q3 t3
  have O3 := Lib.hid o3
  have PA3 := Lib.hid (PA2a.out.turn t3 (fun k _ hk => .inl hk))
  have PB3 := Lib.hid pb
  have U3 := V2.trans b3
  clear q3 t3 o3 b3 pb
  go_wp2_with (fail)
  refine (H3.out g _ X3 O3.out.p).mono ?_
  rintro e w4 ⟨Am, nm, cm, Ac, nc, cc, X4, rfl, bm, -, -, -, q4, t4⟩
  obtain ⟨o4, b4⟩ := O3.out.turn q4 t4
  have PA4 := Lib.hid (PA3.out.turn t4 (fun k _ hk => .inl hk))
  have PB4 := Lib.hid (PB3.out.turn t4 (fun k _ hk => .inl hk))
  have BM4 := Lib.hid bm
  have U4 := U3.trans b4
  clear q4 t4 o4 b4 bm
  go_wp2_with (fail)
  refine (HN.out _ _).mono ?_
  rintro e w5 ⟨rfl, rfl⟩
  have V6 := (Below.refl _ w4).alloc (Nat.le_refl _) (.cells #[.bool true, .int .i64 0, .int .u64 2, .slice none 0 0] 38)
  have L1 : Hid (Sls (w4.alloc (.cells #[.bool true, .int .i64 0, .int .u64 2, .slice none 0 0] 38)) (fun _ => False) (some ⟨w4.heap.size, 0, none⟩) 1 1 [(true, 0, 2, [])]) :=
    Sls.one (Y := fun _ => False) (a := true) (s := 0) (u := 2) (Bys.nil _) (fun _ _ _ h => h) (fun h => h)
  have HSA := Lib.hid (rsameall14 _ _ _ _ _ _ _ _ _ _ (PA4.out.below V6) L1.out)
  have PB6 := Lib.hid (PB4.out.below V6)
  have BM6 := Lib.hid (BM4.out.below V6)
  have U6 := nxt U4 V6
  clear V6
  go_wp2_with (fail)
  refine HSA.out.mono ?_
  rintro e w7 ⟨rfl, T7⟩
  have U7 := nxt U6 T7
  have V9 := (Below.refl _ w7).alloc (Nat.le_refl _) (.cells #[.bool true, .int .i64 2, .int .u64 0, .slice none 0 0] 38)
  have L8 : Hid (Sls (w7.alloc (.cells #[.bool true, .int .i64 2, .int .u64 0, .slice none 0 0] 38)) (fun _ => False) (some ⟨w7.heap.size, 0, none⟩) 1 1 [(true, 2, 0, [])]) :=
    Sls.one (Y := fun _ => False) (a := true) (s := 2) (u := 0) (Bys.nil _) (fun _ _ _ h => h) (fun h => h)
  have HSB := Lib.hid (rsameall14 _ _ _ _ _ _ _ _ _ _ (PB6.out.below (T7.trans (V9.mono T7.size))) L8.out)
  have BM9 := Lib.hid (BM6.out.below (T7.trans (V9.mono T7.size)))
  have U9 := nxt U7 V9
  clear V9 T7
  go_wp2_with (fail)
  refine HSB.out.mono ?_
  rintro e w10 ⟨rfl, T10⟩
  have U10 := nxt U9 T10
  have ks := conv_bys (BM9.out.below T10)
  go_wp2
  go_ret
  exact ⟨rfl, U10⟩
end Go.Proofs.Ytpidbgnlehikeaa
