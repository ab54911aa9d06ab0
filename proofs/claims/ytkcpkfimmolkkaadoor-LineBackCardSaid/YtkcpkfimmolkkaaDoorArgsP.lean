/- How an argument that is a slice of points (pairs of numbers) is taken over from the row's reading into the words of my walks. -/
import Derived.Test.YtkcpkfimmolkkaaDoorArgs
import Derived.Test.YtkcpkfimmolkkaaDoorPtV
import Derived.Deep.SlicePairs
namespace Go.Proofs.YtkcpkfimmolkkaaDoor
open Go.ChangeShapes Go.WideShapes Go.ChangeAt Go.RowKit

instance : Inhabited Pt := ⟨(0, 0)⟩
theorem arg_pts {H : Type} {enc : TypeId × Value → H} {W : World} {a : Option Addr} {n c : Nat} {d : DataW H} {p : List MemPlace}
    (h : DataW.Trod enc Tryd.prog W 0 (fun _ => true) true 28 (.slice a n c) d p) : ∃ l, Ps W a n c l := by
  obtain ⟨fuel, hf⟩ := h
  have c0 : Tryd.prog.cellsOf 3 = 1 := by kernel_rfl
  rcases Go.Deep.open_slice_pairs Tryd.underlying28 Tryd.underlying37 (by kernel_rfl) rfl rfl c0 c0 hf with ⟨hcs, hx⟩ | ⟨x, len, cap, m, k, V0, V1, D0, D1, P0, P1, hcs, hb, hl, hm, hmm, hx, hcell⟩
  · simp [Value.cells] at hcs
    obtain ⟨rfl, rfl, rfl⟩ := hcs
    exact ⟨[], Ps.nil _⟩
  · simp [Value.cells] at hcs
    obtain ⟨rfl, rfl, rfl⟩ := hcs
    simp only [if_true] at hmm
    have each : ∀ i, i < n → ∃ e : Pt, W.cell? (x.add (i * 2)) = some (.int .i64 e.1) ∧ W.cell? (x.add (i * 2 + 1)) = some (.int .i64 e.2) := by
      intro i hi
      obtain ⟨h0, h1, g0, g1⟩ := hcell i (by omega)
      obtain ⟨z0, e0, -, -⟩ := DataW.trod_int Tryd.underlying3 g0
      obtain ⟨z1, e1, -, -⟩ := DataW.trod_int Tryd.underlying3 g1
      simp at e0 e1
      exact ⟨(z0, z1), by rw [h0, e0], by rw [h1, e1]⟩
    obtain ⟨E, hE⟩ := Go.Deep.choose_lt each
    refine ⟨(List.range n).map E, by simp, hl, hm, fun hn => ?_⟩
    obtain ⟨b, o, spot⟩ := x
    have h0 := (hE 0 hn).1
    have hspot : spot = none := by simpa [Addr.add] using World.cell?_spot h0
    subst hspot
    refine ⟨b, o, rfl, ?_, fun j hj => ?_⟩
    · have := block_lt_of_cell h0
      simpa [Addr.add] using this
    · simp at hj
      have ad : ∀ (o k : Nat), (⟨b, o, none⟩ : Addr).add k = ⟨b, o + k, none⟩ := fun o k => by unfold Addr.add; split <;> simp_all
      have := hE j hj
      rw [ad, ad] at this
      simpa [Nat.add_assoc] using this
end Go.Proofs.YtkcpkfimmolkkaaDoor
