/- How an argument that is a slice of layer 21's law's own acts, or of packets, is taken over from the row's reading. -/
import Derived.Test.YtpdnpfohcnpenaaHeC
namespace Go.Proofs.Ytpdnpfohcnpenaa
open Go.Joins Go.ChangeShapes Go.WideShapes Go.ChangeAt Go.RowKit Go.Deep
set_option maxRecDepth 20000
theorem trod_n21 {H : Type} {enc : TypeId × Value → H} {W : World} {v : Value} {y : DataW H × List MemPlace} {fuel : Nat}
    (h : DataW.trod enc Try.prog W 0 (fun _ => true) true fuel 3 [v] = some y) : ∃ k : Int, v = .int .i64 k ∧ I64 k := by
  obtain ⟨k, e, _, hw⟩ := DataW.trod_int Try.underlying3 h
  simp at e
  exact ⟨k, e, bounds_i64 hw⟩
instance : Inhabited Act21 := ⟨(0, (0, 0, []))⟩
instance : Inhabited Pkt := ⟨(0, 0, [])⟩
theorem arg_acts21 {H : Type} {enc : TypeId × Value → H} {W : World} {a : Option Addr} {n c : Nat} {d : DataW H} {p : List MemPlace}
    (h : DataW.Trod enc Try.prog W 0 (fun _ => true) true 23 (.slice a n c) d p) : ∃ l, Recs rdAct21 4 W a n c l := by
  refine arg_recs (te := 38) Try.underlying23 (by kernel_rfl) (by omega) (fun b o cs fuel y h2 hl hc => ?_) h
  obtain ⟨xs, k2, hk2, hxy, _, hxl, hfld⟩ := DataW.trod_struct Try.underlying38 h2
  have c0 : Try.prog.cellsOf 3 = 1 := by kernel_rfl
  have c1 : Try.prog.cellsOf 34 = 1 := by kernel_rfl
  have c2 : Try.prog.cellsOf 36 = 3 := by kernel_rfl
  match xs, hxl, cs, hl with
  | [y0, y3], _, [v0, v3, v4, v5], _ =>
    have g0 := hfld 0 _ rfl
    have g3 := hfld 1 _ rfl
    simp [c0, c2] at g0 g3
    obtain ⟨z0, e0, w0⟩ := trod_n21 g0
    obtain ⟨xs', k2', hk2', hxy', _, hxl', hfld'⟩ := DataW.trod_struct Try.underlying36 g3
    match xs', hxl' with
    | [p0, p1, p2], _ =>
      have q0 := hfld' 0 _ rfl
      have q1 := hfld' 1 _ rfl
      have q2 := hfld' 2 _ rfl
      simp [c0, c1] at q0 q1 q2
      obtain ⟨z3, e3, w3⟩ := trod_n21 q0
      obtain ⟨z4, e4, w4⟩ := trod_n21 q1
      obtain ⟨D, m', d', l', e5, kd⟩ := trod_bys q2
      have k0 := hc 0 (by simp)
      have k1 := hc 1 (by simp)
      have k2 := hc 2 (by simp)
      have k3 := hc 3 (by simp)
      have hl' := kd.len
      subst hl'
      refine ⟨(z0, (z3, z4, l')), ⟨w0, w3, w4⟩, D, d', ?_, ?_, ?_, ?_, kd⟩
      · simpa [e0] using k0
      · simpa [e3] using k1
      · simpa [e4] using k2
      · simpa [e5] using k3
theorem arg_pkts {H : Type} {enc : TypeId × Value → H} {W : World} {a : Option Addr} {n c : Nat} {d : DataW H} {p : List MemPlace}
    (h : DataW.Trod enc Try.prog W 0 (fun _ => true) true 40 (.slice a n c) d p) : ∃ l, Recs rdPkt 3 W a n c l := by
  refine arg_recs (te := 36) Try.underlying40 (by kernel_rfl) (by omega) (fun b o cs fuel y h2 hl hc => ?_) h
  obtain ⟨xs, k2, hk2, hxy, _, hxl, hfld⟩ := DataW.trod_struct Try.underlying36 h2
  have c0 : Try.prog.cellsOf 3 = 1 := by kernel_rfl
  have c1 : Try.prog.cellsOf 34 = 1 := by kernel_rfl
  match xs, hxl, cs, hl with
  | [p0, p1, p2], _, [v3, v4, v5], _ =>
    have q0 := hfld 0 _ rfl
    have q1 := hfld 1 _ rfl
    have q2 := hfld 2 _ rfl
    simp [c0, c1] at q0 q1 q2
    obtain ⟨z3, e3, w3⟩ := trod_n21 q0
    obtain ⟨z4, e4, w4⟩ := trod_n21 q1
    obtain ⟨D, m', d', l', e5, kd⟩ := trod_bys q2
    have k0 := hc 0 (by simp)
    have k1 := hc 1 (by simp)
    have k2 := hc 2 (by simp)
    have hl' := kd.len
    subst hl'
    refine ⟨(z3, z4, l'), ⟨w3, w4⟩, D, d', ?_, ?_, ?_, kd⟩
    · simpa [e3] using k0
    · simpa [e4] using k1
    · simpa [e5] using k2
end Go.Proofs.Ytpdnpfohcnpenaa
