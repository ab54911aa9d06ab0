/- Package token by its contracts, over what its table holds (Tab: 'fun _ => True' where it reads none); what layer 15's law's own num and live answer over them. -/
import Derived.Test.YtabackggnkplhaaDoorRtk9
namespace Go.Proofs.YtabackggnkplhaaDoor
open Go.RowKit
set_option maxRecDepth 20000

/-- what package token answers, in plain words -/
structure TkC (Tab : World → Prop) : Prop where
  keep : ∀ w w', Tab w → Below w.heap.size w w' → Tab w'
  put : ∀ (k : Int) (x y z : Nat) (A : Option Addr) (n c : Nat) (d : List UInt8) (w : World), I64 k → x < 18446744073709551616 → y < 18446744073709551616 → z < 18446744073709551616 → Bys w A n c d → Tab w →
    Calls Tryd.prog 6 #[.agg #[.int .i64 k, .int .u64 (x : Int), .int .u64 (y : Int), .int .u64 (z : Int), .slice A n c]] w (GivesI w (tkErr k y z n) (tkPut k x y z d))
  get : ∀ (A : Option Addr) (n c : Nat) (b : List UInt8) (w : World), Bys w A n c b → n ≤ 140737488355328 → Tab w → Calls Tryd.prog 11 #[.slice A n c] w (GivesTk w (tkV b) (tkGetE b))
  same : ∀ (k : Int) (x y z : Nat) (A : Option Addr) (n c : Nat) (d : List UInt8) (k' : Int) (x' y' z' : Nat) (A' : Option Addr) (n' c' : Nat) (d' : List UInt8) (w : World), Bys w A n c d → Bys w A' n' c' d' →
    Calls Tryd.prog 14 #[.agg #[.int .i64 k, .int .u64 (x : Int), .int .u64 (y : Int), .int .u64 (z : Int), .slice A n c], .agg #[.int .i64 k', .int .u64 (x' : Int), .int .u64 (y' : Int), .int .u64 (z' : Int), .slice A' n' c']] w fun e w' => e = .returned (.bool (tkSame k x y z d k' x' y' z' d')) ∧ Below w.heap.size w w'
theorem num15_any (z : Int) (w : World) : Calls Tryd.prog 8 #[.int .i64 z] w fun e w' => e = .returned (.int .i64 z) ∧ w = w' := by
  go_enter Tryd.func8, Tryd.ntmps8
  go_wp2
  go_ret
  exact ⟨rfl, rfl⟩
theorem lit15 (w : World) : Bys (w.alloc (.cells #[.int .u8 0, .int .u8 0, .int .u8 0, .int .u8 0, .int .u8 0, .int .u8 0, .int .u8 0, .int .u8 0, .int .u8 1] 5)) (some ⟨w.heap.size, 0, none⟩) 9 9 [0, 0, 0, 0, 0, 0, 0, 0, 1] := Bys.lit w [0, 0, 0, 0, 0, 0, 0, 0, 1] (by decide)
theorem tlive1 : tkErr 0 0 0 0 = 0 ∧ tkPut 0 1 0 0 [] = [0, 0, 0, 0, 0, 0, 0, 0, 1] := by decide
set_option maxHeartbeats 2000000 in
theorem live15_any {Tab : World → Prop} (C : TkC Tab) (w : World) (hT : Tab w) : Calls Tryd.prog 10 #[] w fun e w' => e = .returned (.bool true) ∧ Below w.heap.size w w' := by
  have h1 := C.put 0 1 0 0 none 0 0 [] w (by unfold I64; omega) (by decide) (by decide) (by decide) (Bys.nil w) hT
  rw [tlive1.1, tlive1.2] at h1
  have H1 := Lib.hid h1
  clear h1 hT
  go_enter Tryd.func10, Tryd.ntmps10
  go_wp2_with (fail)
  refine H1.out.mono ?_
  rintro e w1 ⟨A1, n1, c1, rfl, B1, T1⟩
  go_wp2_with (fail)
  refine (num15_any _ _).mono ?_
  rintro e w3 ⟨rfl, rfl⟩
  go_wp2_with (fail)
  refine (same_true A1 _ n1 c1 9 9 [0, 0, 0, 0, 0, 0, 0, 0, 1] _ (B1.alloc _) (lit15 w1)).mono ?_
  rintro e w3 ⟨rfl, T3⟩
  have T3 := nxt (T1.alloc T1.size _) T3
  clear B1
  go_wp2
  go_ret
  exact ⟨rfl, T3⟩
end Go.Proofs.YtabackggnkplhaaDoor
