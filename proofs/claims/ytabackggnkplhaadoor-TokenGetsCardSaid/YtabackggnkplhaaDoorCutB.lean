/- A slice of bytes cut at both ends, 'b[k:h]'. -/
import Derived.Test.YtabackggnkplhaaDoorWords
namespace Go.Proofs.YtabackggnkplhaaDoor
open Go.RowKit
set_option maxRecDepth 20000

theorem slice_lh (A : Option Addr) (n c k h : Nat) (hk : k ≤ h) (hh : h ≤ c) (w : World) : (Instr.slice 23 (.slice A n c) (some (.int .i64 k)) (some (.int .i64 h)) none).run Tryd.prog w = .ok (.slice (if c = k then A else A.map (·.add k)) (h - k) (c - k)) w := by
  obtain ⟨i0, hi, hz0, hz1, hz2⟩ := info_parts Tryd.info5
  have ht : Tryd.prog.underlying 23 = some (.slice (Tryd.prog.elem 23)) := by kernel_rfl
  have he : Tryd.prog.elem 23 = 5 := by kernel_rfl
  rw [run_slice_lh _ _ _ _ _ ht .i64 .i64 k h (by omega) (by omega) (by omega), he]
  simp [Go.sizeOf, typeInfo, hi, hz1, sliced]
theorem cut_both {w : World} {A : Option Addr} {n c : Nat} {l : List UInt8} (h : Bys w A n c l) (k m : Nat) (hk : k ≤ m) (hm : m ≤ n) :
    ∃ A2, (∀ W, (Instr.sliceAt 23 (.slice A n c) (some (.int .i64 k)) (some (.int .i64 m)) none).run Tryd.prog W = .ok (.slice A2 (m - k) (c - k)) W) ∧ (∀ W, (Instr.slice 23 (.slice A n c) (some (.int .i64 k)) (some (.int .i64 m)) none).run Tryd.prog W = .ok (.slice A2 (m - k) (c - k)) W) ∧ Bys w A2 (m - k) (c - k) ((l.take m).drop k) :=
  ⟨_, fun W => (at_slice _ _ _ _ W).trans (slice_lh A n c k m hk (by have := h.le; omega) W), fun W => slice_lh A n c k m hk (by have := h.le; omega) W, (h.take m hm).drop k hk⟩
/-- the same at a known place, as the walk itself spells it -/
theorem Bys.part {w : World} {b o n c : Nat} {l : List UInt8} (h : Bys w (some ⟨b, o, none⟩) n c l) (k m : Nat) (hk : k ≤ m) (hm : m ≤ n) (hc : k < c) :
    Bys w (some ⟨b, o + k, none⟩) (m - k) (c - k) ((l.take m).drop k) := by
  have h2 := (h.take m hm).drop k hk
  rw [if_neg (by omega)] at h2
  have e : (some (⟨b, o, none⟩ : Addr)).map (·.add k) = some ⟨b, o + k, none⟩ := by
    simp only [Option.map_some, Addr.add]
    split
    · simp_all
    · rfl
  rw [e] at h2
  exact h2
end Go.Proofs.YtabackggnkplhaaDoor
