/- How an argument that is a slice of layer 25's law's own acts is taken over from the row's reading. -/
import Derived.Test.YtpidbgnlehikeaaPlC
import Derived.Test.YtpidbgnlehikeaaArgsC
namespace Go.Proofs.Ytpidbgnlehikeaa
open Go.Joins Go.ChangeShapes Go.WideShapes Go.ChangeAt Go.RowKit Go.Deep
set_option maxRecDepth 20000
theorem trod_bool1 {H : Type} {enc : TypeId × Value → H} {W : World} {v : Value} {y : DataW H × List MemPlace} {fuel : Nat}
    (h : DataW.trod enc Try.prog W 0 (fun _ => true) true fuel 4 [v] = some y) : ∃ k : Bool, v = .bool k := by
  obtain ⟨k, e, _⟩ := DataW.trod_bool Try.underlying4 h
  simp at e
  exact ⟨k, e⟩
instance : Inhabited Act25 := ⟨(0, (false, 0, 0, []))⟩
theorem arg_acts25 {H : Type} {enc : TypeId × Value → H} {W : World} {a : Option Addr} {n c : Nat} {d : DataW H} {p : List MemPlace}
    (h : DataW.Trod enc Try.prog W 0 (fun _ => true) true 25 (.slice a n c) d p) : ∃ l, Recs rdAct25 5 W a n c l := by
  refine arg_recs (te := 40) Try.underlying25 (by kernel_rfl) (by omega) (fun b o cs fuel y h2 hl hc => ?_) h
  obtain ⟨xs, k2, hk2, hxy, _, hxl, hfld⟩ := DataW.trod_struct Try.underlying40 h2
  have c0 : Try.prog.cellsOf 3 = 1 := by kernel_rfl
  have c1 : Try.prog.cellsOf 36 = 1 := by kernel_rfl
  have c2 : Try.prog.cellsOf 38 = 4 := by kernel_rfl
  have c3 : Try.prog.cellsOf 4 = 1 := by kernel_rfl
  have c4 : Try.prog.cellsOf 22 = 1 := by kernel_rfl
  match xs, hxl, cs, hl with
  | [y0, y3], _, [v0, v3, v4, v5, v6], _ =>
    have g0 := hfld 0 _ rfl
    have g3 := hfld 1 _ rfl
    simp [c0, c2] at g0 g3
    obtain ⟨z0, e0, w0⟩ := trod_i64 g0
    obtain ⟨xs', k2', hk2', hxy', _, hxl', hfld'⟩ := DataW.trod_struct Try.underlying38 g3
    match xs', hxl' with
    | [p0, p1, p2, p3], _ =>
      have q0 := hfld' 0 _ rfl
      have q1 := hfld' 1 _ rfl
      have q2 := hfld' 2 _ rfl
      have q3 := hfld' 3 _ rfl
      simp [c0, c1, c3, c4] at q0 q1 q2 q3
      obtain ⟨z3, e3⟩ := trod_bool1 q0
      obtain ⟨z4, e4, w4⟩ := trod_i64 q1
      obtain ⟨z5, e5, w5⟩ := trod_u64 q2
      obtain ⟨D, m', d', l', e6, kd⟩ := trod_bys q3
      have k0 := hc 0 (by simp)
      have k3 := hc 1 (by simp)
      have k4 := hc 2 (by simp)
      have k5 := hc 3 (by simp)
      have k6 := hc 4 (by simp)
      have hl' := kd.len
      subst hl'
      refine ⟨(z0, (z3, z4, z5, l')), ⟨w0, w4, w5⟩, D, d', ?_, ?_, ?_, ?_, ?_, kd⟩
      · simpa [e0] using k0
      · simpa [e3] using k3
      · simpa [e4] using k4
      · simpa [e5] using k5
      · simpa [e6] using k6
end Go.Proofs.Ytpidbgnlehikeaa
