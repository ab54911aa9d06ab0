/- How an argument that is a slice of a law's own acts is taken over from the row's reading. -/
import Derived.Test.YtgnndoljeddfgaaQuC
namespace Go.Proofs.Ytgnndoljeddfgaa
open Go.Joins Go.ChangeShapes Go.WideShapes Go.ChangeAt Go.RowKit Go.Deep
set_option maxRecDepth 20000
instance : Inhabited (Bool × List UInt8) := ⟨(false, [])⟩
theorem arg_acts19 {H : Type} {enc : TypeId × Value → H} {W : World} {a : Option Addr} {n c : Nat} {d : DataW H} {p : List MemPlace}
    (h : DataW.Trod enc Try.prog W 0 (fun _ => true) true 22 (.slice a n c) d p) : ∃ l, Recs rdAct19 2 W a n c l := by
  refine arg_recs (te := 35) Try.underlying22 (by kernel_rfl) (by omega) (fun b o cs fuel y h2 hl hc => ?_) h
  obtain ⟨xs, k2, hk2, hxy, _, hxl, hfld⟩ := DataW.trod_struct Try.underlying35 h2
  have c0 : Try.prog.cellsOf 4 = 1 := by kernel_rfl
  have c1 : Try.prog.cellsOf 33 = 1 := by kernel_rfl
  match xs, hxl, cs, hl with
  | [y0, y1], _, [v0, v1], _ =>
    have g0 := hfld 0 _ rfl
    have g1 := hfld 1 _ rfl
    simp [c0, c1] at g0 g1
    obtain ⟨z0, e0, -⟩ := DataW.trod_bool Try.underlying4 g0
    obtain ⟨A, m, d, l, e1, kb⟩ := trod_bys g1
    simp at e0
    have k0 := hc 0 (by simp)
    have k1 := hc 1 (by simp)
    have hl := kb.len
    subst hl
    refine ⟨(z0, l), A, d, ?_, ?_, kb⟩
    · simpa [e0] using k0
    · simpa [e1] using k1
end Go.Proofs.Ytgnndoljeddfgaa
