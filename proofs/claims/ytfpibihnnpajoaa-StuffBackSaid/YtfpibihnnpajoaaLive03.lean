/- What kedgelaw03.num and kedgelaw03.live answer. -/
import Derived.Test.YtfpibihnnpajoaaStuffP
import Derived.Test.YtfpibihnnpajoaaStuffG
import Derived.Test.YtfpibihnnpajoaaStuffL
import Derived.Test.YtfpibihnnpajoaaSame
namespace Go.Proofs.Ytfpibihnnpajoaa
open Go.RowKit

theorem num_any (z : Int) (w : World) : Calls Try.prog 14 #[.int .i64 z] w fun e w' => e = .returned (.int .i64 z) ∧ w = w' := by
  go_enter Try.func14, Try.ntmps14
  go_wp2
  go_ret
  exact ⟨rfl, rfl⟩

theorem get0 (A : Option Addr) (c : Nat) (w : World) (h : Bys w A 2 c [0x7d, 0x5d]) : Calls Try.prog 12 #[.slice A 2 c] w fun e w' => ∃ A1 c1, e = .returned (.tuple #[.slice A1 1 c1, .int .i64 0]) ∧ Bys w' A1 1 c1 [0x7d] ∧ Below w.heap.size w w' := by
  refine (stget_any A 2 c _ w h (by decide)).mono ?_
  have hu : unst [0x7d, 0x5d] = some [0x7d] := by decide
  rw [hu]
  rintro e w' ⟨A1, n1, c1, he, hB, hb⟩
  obtain rfl : n1 = 1 := hB.len.symm
  exact ⟨A1, c1, he, hB, hb⟩
theorem get1 (A : Option Addr) (c : Nat) (w : World) (h : Bys w A 2 c [0x7d, 1]) : Calls Try.prog 12 #[.slice A 2 c] w fun e w' => ∃ A1 n1 c1, e = .returned (.tuple #[.slice A1 n1 c1, .int .i64 30]) ∧ Below w.heap.size w w' := by
  refine (stget_any A 2 c _ w h (by decide)).mono ?_
  have hu : unst [0x7d, 1] = none := by decide
  rw [hu]
  rintro e w' ⟨A1, n1, c1, he, hB, hb⟩
  exact ⟨A1, n1, c1, he, hb⟩
/-- four bools: yes, no, no, yes -/
def Four (b o : Nat) (w : World) : Prop := b < w.heap.size ∧ w.cell? ⟨b, o, none⟩ = some (.bool true) ∧ w.cell? ⟨b, o + 1, none⟩ = some (.bool false) ∧ w.cell? ⟨b, o + 2, none⟩ = some (.bool false) ∧ w.cell? ⟨b, o + 3, none⟩ = some (.bool true)
theorem Four.below {b o : Nat} {w w' : World} (h : Four b o w) (g : Below w.heap.size w w') : Four b o w' :=
  ⟨by have := g.size; have := h.1; omega, (g.cell (p := ⟨b, o, none⟩) h.1).trans h.2.1, (g.cell (p := ⟨b, o + 1, none⟩) h.1).trans h.2.2.1, (g.cell (p := ⟨b, o + 2, none⟩) h.1).trans h.2.2.2.1, (g.cell (p := ⟨b, o + 3, none⟩) h.1).trans h.2.2.2.2⟩
theorem Four.alloc {b o : Nat} {w : World} (h : Four b o w) (x : Obj) : Four b o (w.alloc x) := h.below ((Below.refl _ _).alloc (Nat.le_refl _) _)
theorem plain0 (A : Option Addr) (c : Nat) (w : World) (h : Bys w A 4 c [1, 0x7d, 0x5e, 2]) : Calls Try.prog 15 #[.slice A 4 c] w fun e w' => ∃ b o c1, e = .returned (.slice (some ⟨b, o, none⟩) 4 c1) ∧ 4 ≤ c1 ∧ Four b o w' ∧ Below w.heap.size w w' := by
  refine (plain_any A 4 c _ w h (by decide)).mono ?_
  have hu : plainV [1, 0x7d, 0x5e, 2] ([1, 0x7d, 0x5e, 2] : List UInt8).length = [.bool true, .bool false, .bool false, .bool true] := by rfl
  rw [hu]
  rintro e w' ⟨A1, c1, he, hV, hb⟩
  obtain ⟨b, o, rfl, hlt, hc⟩ := hV.at_ (by decide)
  exact ⟨b, o, c1, he, hV.le, ⟨hlt, hc 0 (by decide), hc 1 (by decide), hc 2 (by decide), hc 3 (by decide)⟩, hb⟩
theorem put0 (A : Option Addr) (c : Nat) (w : World) (h : Bys w A 2 c [0x7e, 1]) : Calls Try.prog 7 #[.slice A 2 c] w fun e w' => ∃ A1 c1, e = .returned (.slice A1 3 c1) ∧ Bys w' A1 3 c1 [0x7d, 0x5e, 1] ∧ Below w.heap.size w w' := by
  refine (stput_any A 2 c _ w h (by decide) (by decide)).mono ?_
  have hu : stuffB [0x7e, 1] = [0x7d, 0x5e, 1] := by decide
  rw [hu]
  rintro e w' ⟨A1, n1, c1, he, hB, hb⟩
  obtain rfl : n1 = 3 := hB.len.symm
  exact ⟨A1, c1, he, hB, hb⟩

theorem litA (W : World) : Bys (W.alloc (.cells #[.int .u8 125, .int .u8 93] 5)) (some ⟨W.heap.size, 0, none⟩) 2 2 [0x7d, 0x5d] := Bys.lit W [0x7d, 0x5d] (by decide)
theorem litB (W : World) : Bys (W.alloc (.cells #[.int .u8 125, .int .u8 1] 5)) (some ⟨W.heap.size, 0, none⟩) 2 2 [0x7d, 1] := Bys.lit W [0x7d, 1] (by decide)
theorem litC (W : World) : Bys (W.alloc (.cells #[.int .u8 1, .int .u8 125, .int .u8 94, .int .u8 2] 5)) (some ⟨W.heap.size, 0, none⟩) 4 4 [1, 0x7d, 0x5e, 2] := Bys.lit W [1, 0x7d, 0x5e, 2] (by decide)
theorem litD (W : World) : Bys (W.alloc (.cells #[.int .u8 126, .int .u8 1] 5)) (some ⟨W.heap.size, 0, none⟩) 2 2 [0x7e, 1] := Bys.lit W [0x7e, 1] (by decide)
theorem litE (W : World) : Bys (W.alloc (.cells #[.int .u8 125, .int .u8 94, .int .u8 1] 5)) (some ⟨W.heap.size, 0, none⟩) 3 3 [0x7d, 0x5e, 1] := Bys.lit W [0x7d, 0x5e, 1] (by decide)
theorem litF (W : World) : Bys (W.alloc (.cells #[.int .u8 125] 5)) (some ⟨W.heap.size, 0, none⟩) 1 1 [0x7d] := Bys.lit W [0x7d] (by decide)

set_option maxRecDepth 20000 in
set_option maxHeartbeats 4000000 in
theorem live03 (w : World) : Calls Try.prog 11 #[] w fun e w' => e = .returned (.bool true) ∧ Below w.heap.size w w' := by
  go_enter Try.func11, Try.ntmps11
  go_wp2_with (fail)
  refine (get0 _ 2 _ (litA w)).mono ?_
  rintro e w1 ⟨A1, c1, rfl, B1, G⟩
  have T : Below w.heap.size w w1 := nxt ((Below.refl _ w).alloc (Nat.le_refl _) _) G
  clear G
  go_wp2_with (fail)
  refine (get1 _ 2 _ (litB w1)).mono ?_
  rintro e w2 ⟨A2, n2, c2, rfl, G⟩
  have T := nxt (T.alloc T.size _) G
  have B1 := (B1.alloc _).below G
  clear G
  go_wp2_with (fail)
  refine (plain0 _ 4 _ (litC w2)).mono ?_
  rintro e w3 ⟨b, o, c3, rfl, hc3, P, G⟩
  have T := nxt (T.alloc T.size _) G
  have B1 := (B1.alloc _).below G
  clear G
  go_wp2_with (fail)
  refine (put0 _ 2 _ (litD w3)).mono ?_
  rintro e w4 ⟨A4, c4, rfl, B4, G⟩
  have T := nxt (T.alloc T.size _) G
  have B1 := (B1.alloc _).below G
  have P := (P.alloc _).below G
  clear G
  go_wp2_with (fail)
  refine (same_true A4 _ 3 c4 3 3 _ _ (B4.alloc _) (litE w4)).mono ?_
  rintro e w5 ⟨rfl, G⟩
  have T := nxt (T.alloc T.size _) G
  have B1 := (B1.alloc _).below G
  have P := (P.alloc _).below G
  clear G
  go_wp2_with (fail)
  refine (num_any 0 w5).mono ?_
  rintro e w' ⟨rfl, rfl⟩
  go_wp2_with (fail)
  refine (same_true A1 _ 1 c1 1 1 _ _ (B1.alloc _) (litF w5)).mono ?_
  rintro e w6 ⟨rfl, G⟩
  have T := nxt (T.alloc T.size _) G
  have P := (P.alloc _).below G
  clear G
  go_wp2_with (fail)
  refine (num_any 30 w6).mono ?_
  rintro e w' ⟨rfl, rfl⟩
  obtain ⟨hb, p0, p1, p2, p3⟩ := P
  go_wp2_with (fail)
  go_ret
  exact ⟨rfl, T⟩
end Go.Proofs.Ytfpibihnnpajoaa
