/- What kedgeref15.Get answers of bytes that are too few, or have no kind. -/
import Derived.Test.YtabackggnkplhaaDoorRtk2
import Derived.Test.YtabackggnkplhaaDoorRnum
import Derived.Test.YtabackggnkplhaaDoorCutB
import Derived.Test.YtabackggnkplhaaDoorRcopy
namespace Go.Proofs.YtabackggnkplhaaDoor
open Go.RowKit
set_option maxRecDepth 20000

/-- A call's end that makes a packet and a number of the kind int. -/
def GivesTk (w : World) (v : Nat × Nat × Nat × Nat × List UInt8) (r : Int) (e : Ending) (w' : World) : Prop :=
  ∃ A n c, e = .returned (.tuple #[.agg #[.int .i64 (v.1 : Int), .int .u64 (v.2.1 : Int), .int .u64 (v.2.2.1 : Int), .int .u64 (v.2.2.2.1 : Int), .slice A n c], .int .i64 r]) ∧ Bys w' A n c v.2.2.2.2 ∧ Below w.heap.size w w'
def tkZero : Nat × Nat × Nat × Nat × List UInt8 := (0, 0, 0, 0, [])
/-- b[k:] with an address that is not looked at -/
theorem cut_op {w : World} {A : Option Addr} {n c : Nat} {l : List UInt8} (h : Bys w A n c l) (k : Nat) (hk : k ≤ n) :
    ∃ A2, (∀ W, (Instr.sliceAt 23 (.slice A n c) (some (.int .i64 k)) none none).run Tryd.prog W = .ok (.slice A2 (n - k) (c - k)) W) ∧ (∀ W, (Instr.slice 23 (.slice A n c) (some (.int .i64 k)) none none).run Tryd.prog W = .ok (.slice A2 (n - k) (c - k)) W) ∧ Bys w A2 (n - k) (c - k) (l.drop k) :=
  ⟨_, fun W => (at_slice _ _ _ _ W).trans (slice_lo A n c k hk W), fun W => slice_lo A n c k hk W, h.drop k hk⟩
theorem cut_op_hi {w : World} {A : Option Addr} {n c : Nat} {l : List UInt8} (h : Bys w A n c l) (k : Nat) (hk : k ≤ n) :
    (∀ W, (Instr.sliceAt 23 (.slice A n c) none (some (.int .i64 k)) none).run Tryd.prog W = .ok (.slice A k c) W) ∧ (∀ W, (Instr.slice 23 (.slice A n c) none (some (.int .i64 k)) none).run Tryd.prog W = .ok (.slice A k c) W) ∧ Bys w A k c (l.take k) :=
  ⟨(cut_hi h k hk).1, fun W => (at_slice _ _ _ _ W).symm.trans ((cut_hi h k hk).1 W), (cut_hi h k hk).2⟩
set_option maxHeartbeats 4000000 in
theorem rtkget_short (A : Option Addr) (n c : Nat) (w : World) (hn : n < 9) :
    Calls Tryd.prog 12 #[.slice A n c] w (GivesTk w tkZero 130) := by
  have d3 : decide ((n : Int) < 9) = true := by simp; omega
  go_enter Tryd.func12, Tryd.ntmps12
  go_wp2
  (try simp only [Exit.inBlock, Exit.then])
  refine bodyPost_ret (v := .tuple #[.agg #[.int .i64 0, .int .u64 0, .int .u64 0, .int .u64 0, .slice none 0 0], .int .i64 130]) (res_cell_tmp rfl _ _ w.heap.size 25 #[.int .i64 0, .int .u64 0, .int .u64 0, .int .u64 0, .slice none 0 0] (0, 0) _ _ rfl rfl (heap_alloc_new w _) Tryd.underlying25 rfl (by kernel_rfl)) rfl ?_
  exact ⟨_, _, _, rfl, Bys.nil _, (Below.refl _ _).alloc (Nat.le_refl _) _⟩
set_option maxHeartbeats 4000000 in
theorem rtkget_head (A : Option Addr) (n c : Nat) (x : UInt8) (l : List UInt8) (w : World) (hB : Bys w A n c (x :: l)) (hn : 9 ≤ n) (hx : 3 < x.toNat) :
    Calls Tryd.prog 12 #[.slice A n c] w (GivesTk w tkZero 130) := by
  have d3 : decide ((n : Int) < 9) = false := by simp; omega
  obtain ⟨g, o, rfl, hg, hc⟩ := hB.at_ (by omega)
  have q1 := hc 0 (by simp)
  have hle := hB.le
  have hcap := hB.cap
  have hn0 : 0 < n := by omega
  simp only [List.getElem_cons_zero, Nat.add_zero] at q1
  have d4 : decide (3 < (x.toNat : Int)) = true := by simp; omega
  clear hc hB hx
  generalize (x.toNat : Int) = h at *
  go_enter Tryd.func12, Tryd.ntmps12
  go_wp2
  (try simp only [Exit.inBlock, Exit.then])
  refine bodyPost_ret (v := .tuple #[.agg #[.int .i64 0, .int .u64 0, .int .u64 0, .int .u64 0, .slice none 0 0], .int .i64 130]) (res_cell_tmp rfl _ _ w.heap.size 25 #[.int .i64 0, .int .u64 0, .int .u64 0, .int .u64 0, .slice none 0 0] (0, 0) _ _ rfl rfl (heap_alloc_new w _) Tryd.underlying25 rfl (by kernel_rfl)) rfl ?_
  exact ⟨_, _, _, rfl, Bys.nil _, (Below.refl _ _).alloc (Nat.le_refl _) _⟩
end Go.Proofs.YtabackggnkplhaaDoor
