/- How an argument that is a slice of layer 28's law's own acts is taken over from the row's reading. -/
import Derived.Test.YtoajbocpebfjoaaGiC
namespace Go.Proofs.Ytoajbocpebfjoaa
open Go.Joins Go.ChangeShapes Go.WideShapes Go.ChangeAt Go.RowKit Go.Deep
set_option maxRecDepth 20000
theorem trod_n28 {H : Type} {enc : TypeId × Value → H} {W : World} {v : Value} {y : DataW H × List MemPlace} {fuel : Nat}
    (h : DataW.trod enc Try.prog W 0 (fun _ => true) true fuel 3 [v] = some y) : ∃ k : Int, v = .int .i64 k ∧ I64 k := by
  obtain ⟨k, e, _, hw⟩ := DataW.trod_int Try.underlying3 h
  simp at e
  exact ⟨k, e, bounds_i64 hw⟩
theorem trod_u28 {H : Type} {enc : TypeId × Value → H} {W : World} {v : Value} {y : DataW H × List MemPlace} {fuel : Nat}
    (h : DataW.trod enc Try.prog W 0 (fun _ => true) true fuel 38 [v] = some y) : ∃ k : Nat, v = .int .u64 (k : Int) ∧ k < 18446744073709551616 := by
  obtain ⟨k, e, _, hw⟩ := DataW.trod_int Try.underlying38 h
  simp at e
  have hb := bounds_u64 hw
  obtain ⟨m, rfl⟩ := Int.eq_ofNat_of_zero_le hb.1
  exact ⟨m, e, by omega⟩
instance : Inhabited Act28 := ⟨(0, (0, 0, 0, 0, []))⟩
theorem arg_acts28 {H : Type} {enc : TypeId × Value → H} {W : World} {a : Option Addr} {n c : Nat} {d : DataW H} {p : List MemPlace}
    (h : DataW.Trod enc Try.prog W 0 (fun _ => true) true 23 (.slice a n c) d p) : ∃ l, Recs rdAct28 6 W a n c l := by
  refine arg_recs (te := 43) Try.underlying23 (by kernel_rfl) (by omega) (fun b o cs fuel y h2 hl hc => ?_) h
  obtain ⟨xs, k2, hk2, hxy, _, hxl, hfld⟩ := DataW.trod_struct Try.underlying43 h2
  have c0 : Try.prog.cellsOf 3 = 1 := by kernel_rfl
  have c1 : Try.prog.cellsOf 39 = 1 := by kernel_rfl
  have c3 : Try.prog.cellsOf 38 = 1 := by kernel_rfl
  have c2 : Try.prog.cellsOf 41 = 5 := by kernel_rfl
  match xs, hxl, cs, hl with
  | [y0, y3], _, [v0, v3, v4, v5, v6, v7], _ =>
    have g0 := hfld 0 _ rfl
    have g3 := hfld 1 _ rfl
    simp [c0, c2] at g0 g3
    obtain ⟨z0, e0, w0⟩ := trod_n28 g0
    obtain ⟨xs', k2', hk2', hxy', _, hxl', hfld'⟩ := DataW.trod_struct Try.underlying41 g3
    match xs', hxl' with
    | [p0, p1, p2, p3, p4], _ =>
      have q0 := hfld' 0 _ rfl
      have q1 := hfld' 1 _ rfl
      have q2 := hfld' 2 _ rfl
      have q3 := hfld' 3 _ rfl
      have q4 := hfld' 4 _ rfl
      simp [c0, c1, c3] at q0 q1 q2 q3 q4
      obtain ⟨z3, e3, w3⟩ := trod_n28 q0
      obtain ⟨z4, e4, w4⟩ := trod_u28 q1
      obtain ⟨z5, e5, w5⟩ := trod_u28 q2
      obtain ⟨z6, e6, w6⟩ := trod_u28 q3
      obtain ⟨D, m', d', l', e7, kd⟩ := trod_bys q4
      have k0 := hc 0 (by simp)
      have k1 := hc 1 (by simp)
      have k2 := hc 2 (by simp)
      have k3 := hc 3 (by simp)
      have k4 := hc 4 (by simp)
      have k5 := hc 5 (by simp)
      have hl' := kd.len
      subst hl'
      refine ⟨(z0, (z3, z4, z5, z6, l')), ⟨w0, w3, w4, w5, w6⟩, D, d', ?_, ?_, ?_, ?_, ?_, ?_, kd⟩
      · simpa [e0] using k0
      · simpa [e3] using k1
      · simpa [e4] using k2
      · simpa [e5] using k3
      · simpa [e6] using k4
      · simpa [e7] using k5
end Go.Proofs.Ytoajbocpebfjoaa
