/- How an argument that is a slice of layer 23's law's own acts is taken over from the row's reading. -/
import Derived.Test.YtlghpbknlohafaaLaws23
namespace Go.Proofs.Ytlghpbknlohafaa
open Go.Joins Go.ChangeShapes Go.WideShapes Go.ChangeAt Go.RowKit Go.Deep
set_option maxRecDepth 20000
theorem arg_acts23 {H : Type} {enc : TypeId × Value → H} {W : World} {a : Option Addr} {n c : Nat} {d : DataW H} {p : List MemPlace}
    (h : DataW.Trod enc Try.prog W 0 (fun _ => true) true 22 (.slice a n c) d p) : ∃ l, Recs rdAct23 2 W a n c l := by
  refine arg_recs (te := 33) Try.underlying22 (by kernel_rfl) (by omega) (fun b o cs fuel y h2 hl hc => ?_) h
  obtain ⟨xs, k2, hk2, hxy, _, hxl, hfld⟩ := DataW.trod_struct Try.underlying33 h2
  have c0 : Try.prog.cellsOf 3 = 1 := by kernel_rfl
  match xs, hxl, cs, hl with
  | [y0, y1], _, [v0, v1], _ =>
    have g0 := hfld 0 _ rfl
    have g1 := hfld 1 _ rfl
    simp [c0] at g0 g1
    obtain ⟨z0, e0, -, w0⟩ := DataW.trod_int Try.underlying3 g0
    obtain ⟨z1, e1, -, w1⟩ := DataW.trod_int Try.underlying3 g1
    simp at e0 e1
    have k0 := hc 0 (by simp)
    have k1 := hc 1 (by simp)
    have b0 := bounds_i64 w0
    have b1 := bounds_i64 w1
    refine ⟨(z0, z1), ?_, ?_, ⟨by omega, by omega⟩, ⟨by omega, by omega⟩⟩
    · simpa [e0] using k0
    · simpa [e1] using k1
end Go.Proofs.Ytlghpbknlohafaa
