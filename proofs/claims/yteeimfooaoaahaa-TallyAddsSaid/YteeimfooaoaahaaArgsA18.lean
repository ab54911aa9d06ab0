/- How an argument that is a slice of a law's own told messages is taken over from the row's reading. -/
import Derived.Test.YteeimfooaoaahaaTlH
import Derived.Test.YteeimfooaoaahaaRecsW
namespace Go.Proofs.Yteeimfooaoaahaa
open Go.Joins Go.ChangeShapes Go.WideShapes Go.ChangeAt Go.RowKit Go.Deep
set_option maxRecDepth 20000
theorem trod_i64 {H : Type} {enc : TypeId × Value → H} {W : World} {v : Value} {y : DataW H × List MemPlace} {fuel : Nat}
    (h : DataW.trod enc Try.prog W 0 (fun _ => true) true fuel 3 [v] = some y) : ∃ k : Int, v = .int .i64 k ∧ I64 k := by
  obtain ⟨k, e, _, hw⟩ := DataW.trod_int Try.underlying3 h
  simp at e
  exact ⟨k, e, bounds_i64 hw⟩
instance : Inhabited Tld := ⟨(0, [], false)⟩
theorem arg_told18 {H : Type} {enc : TypeId × Value → H} {W : World} {a : Option Addr} {n c : Nat} {d : DataW H} {p : List MemPlace}
    (h : DataW.Trod enc Try.prog W 0 (fun _ => true) true 22 (.slice a n c) d p) (hw : Reach 22 d) : ∃ l, Recs rdTold18 3 W a n c l := by
  refine arg_recs_w (te := 33) Try.underlying22 (by kernel_rfl) (by omega) (fun b o cs fuel y h2 hl hc hre => ?_) h hw
  obtain ⟨xs, k2, hk2, hxy, _, hxl, hfld⟩ := DataW.trod_struct Try.underlying33 h2
  have c0 : Try.prog.cellsOf 3 = 1 := by kernel_rfl
  have c1 : Try.prog.cellsOf 23 = 1 := by kernel_rfl
  have c2 : Try.prog.cellsOf 4 = 1 := by kernel_rfl
  rw [hxy] at hre
  match xs, hxl, cs, hl with
  | [y0, y1, y2], _, [v0, v1, v2], _ =>
    have g0 := hfld 0 _ rfl
    have g1 := hfld 1 _ rfl
    have g2 := hfld 2 _ rfl
    simp [c0, c1, c2] at g0 g1 g2
    have hr1 := reach_field Try.underlying33 hre 1 _ y1 rfl rfl
    obtain ⟨k, e0, hk⟩ := trod_i64 g0
    obtain ⟨A, m, d, l, e1, kb, hm⟩ := trod_bys_w g1 hr1
    obtain ⟨z, e2, -⟩ := DataW.trod_bool Try.underlying4 g2
    simp at e2
    have k0 := hc 0 (by simp)
    have k1 := hc 1 (by simp)
    have k2 := hc 2 (by simp)
    have hl := kb.len
    subst hl
    refine ⟨(k, l, z), ⟨hk, hm⟩, A, d, ?_, ?_, ?_, kb⟩
    · simpa [e0] using k0
    · simpa [e1] using k1
    · simpa [e2] using k2
end Go.Proofs.Yteeimfooaoaahaa
