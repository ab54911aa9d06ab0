/- Package probe by its contracts; what layer 13's law's own num and live answer over them. -/
import Derived.Test.YtoaccikhklfeiaaRpr4
namespace Go.Proofs.Ytoaccikhklfeiaa
open Go.RowKit
set_option maxRecDepth 20000

theorem prKind_i64 (h : Nat) (hh : h < 256) : I64 (prKind h) := by
  unfold prKind I64
  split
  · omega
  · split <;> omega
theorem prLabel_i64 (h : Nat) (hh : h < 256) : I64 (prLabel h) := by
  unfold prLabel I64
  split
  · omega
  · split <;> omega
theorem prGetK_i64 (b : List UInt8) : I64 (prGetK b) := by
  cases b with
  | nil => exact ⟨by decide, by decide⟩
  | cons x d =>
    rw [prGetK_cons]
    split
    · exact prKind_i64 _ x.toNat_lt
    · unfold I64; omega
theorem prGetL_i64 (b : List UInt8) : I64 (prGetL b) := by
  cases b with
  | nil => exact ⟨by decide, by decide⟩
  | cons x d =>
    rw [prGetL_cons]
    split
    · exact prLabel_i64 _ x.toNat_lt
    · unfold I64; omega
/-- what package probe answers, in plain words -/
structure PrC : Prop where
  put : ∀ (k l : Int) (A : Option Addr) (n c : Nat) (d : List UInt8) (w : World), I64 k → I64 l → Bys w A n c d → Calls Try.prog 6 #[.agg #[.int .i64 k, .int .i64 l, .slice A n c]] w (GivesI w (prErr k l n) (prPut k l d))
  get : ∀ (A : Option Addr) (n c : Nat) (b : List UInt8) (w : World), Bys w A n c b → n ≤ 140737488355328 → Calls Try.prog 11 #[.slice A n c] w (GivesPr w (prGetK b) (prGetL b) (prGetD b) (prGetE b))
  same : ∀ (k l : Int) (A : Option Addr) (n c : Nat) (d : List UInt8) (k' l' : Int) (A' : Option Addr) (n' c' : Nat) (d' : List UInt8) (w : World), Bys w A n c d → Bys w A' n' c' d' →
    Calls Try.prog 14 #[.agg #[.int .i64 k, .int .i64 l, .slice A n c], .agg #[.int .i64 k', .int .i64 l', .slice A' n' c']] w fun e w' => e = .returned (.bool (prSame k l d k' l' d')) ∧ Below w.heap.size w w'
theorem num13_any (z : Int) (w : World) : Calls Try.prog 8 #[.int .i64 z] w fun e w' => e = .returned (.int .i64 z) ∧ w = w' := by
  go_enter Try.func8, Try.ntmps8
  go_wp2
  go_ret
  exact ⟨rfl, rfl⟩
theorem lit97 (w : World) : Bys (w.alloc (.cells #[.int .u8 97] 5 (1, 2))) (some ⟨w.heap.size, 0, none⟩) 1 1 [97] := Bys.litf w [97] (1, 2) (by decide)
theorem lit03 (w : World) : Bys (w.alloc (.cells #[.int .u8 3] 5)) (some ⟨w.heap.size, 0, none⟩) 1 1 [3] := Bys.lit w [3] (by decide)
theorem lit597 (w : World) : Bys (w.alloc (.cells #[.int .u8 5, .int .u8 97] 5)) (some ⟨w.heap.size, 0, none⟩) 2 2 [5, 97] := Bys.lit w [5, 97] (by decide)
set_option maxHeartbeats 2000000 in
theorem live13_any (C : PrC) (w : World) : Calls Try.prog 10 #[] w fun e w' => e = .returned (.bool true) ∧ Below w.heap.size w w' := by
  have H1 := Lib.hid (fun W A n c h => C.put 3 1 A n c [97] W (by unfold I64; omega) (by unfold I64; omega) h)
  have H2 := Lib.hid (fun W A n c h hn => C.get A n c [3] W h hn)
  have kc := fun (w : World) (C : Array Value) (n c : Nat) => Lib.run_convert_bytes_const (P := Try.prog) w 22 5 C n c Try.underlying22 Try.underlying5
  have e1 : prErr 3 1 1 = 0 := by decide
  have e2 : prPut 3 1 [97] = [5, 97] := by decide
  have e3 : prGetE [3] = 130 := by decide
  have h1 := fun W A c h => H1.out W A 1 c h
  rw [e1, e2] at h1
  rw [e3] at H2
  have H1 := Lib.hid h1
  clear h1 e1 e2 e3
  generalize prGetK [3] = x1 at *
  generalize prGetL [3] = x2 at *
  generalize prGetD [3] = x3 at *
  go_enter Try.func10, Try.ntmps10
  go_wp2_with (fail)
  refine (H1.out _ _ _ (lit97 w)).mono ?_
  rintro e w1 ⟨A1, n1, c1, rfl, B1, T1⟩
  have T1 := nxt ((Below.refl _ w).alloc (Nat.le_refl _) _) T1
  go_wp2_with (fail)
  refine (H2.out _ _ _ _ (lit03 w1) (by decide)).mono ?_
  rintro e w2 ⟨A2, n2, c2, rfl, B2, T2⟩
  have T2 := nxt ((Below.refl _ w1).alloc (Nat.le_refl _) _) T2
  have B1 := B1.below T2
  have T2 := nxt T1 T2
  clear B2
  go_wp2_with (fail)
  refine (num13_any _ _).mono ?_
  rintro e w3 ⟨rfl, rfl⟩
  go_wp2_with (fail)
  have L := lit597 (w2.alloc (.cells #[.int .i64 x1, .int .i64 x2, .slice A2 n2 c2] 24))
  rw [World.size_alloc] at L
  have T2a := T2.alloc T2.size (.cells #[.int .i64 x1, .int .i64 x2, .slice A2 n2 c2] 24)
  refine (same_true A1 _ n1 c1 2 2 [5, 97] _ ((B1.alloc _).alloc _) L).mono ?_
  rintro e w3 ⟨rfl, T3⟩
  have T3 := nxt (T2a.alloc T2a.size _) T3
  clear B1
  go_wp2_with (fail)
  refine (num13_any _ _).mono ?_
  rintro e w4 ⟨rfl, rfl⟩
  go_wp2
  go_ret
  exact ⟨rfl, T3⟩
end Go.Proofs.Ytoaccikhklfeiaa
