/- How an argument that is a struct of bytes, two slices of points and a number (kedgelaw12.Heard) is taken over from the row's reading. -/
import Derived.Test.YtkcpkfimmolkkaaDoorArgsP
import Derived.Lib.SmallJoins
namespace Go.Proofs.YtkcpkfimmolkkaaDoor
open Go.Joins Go.ChangeShapes Go.WideShapes Go.ChangeAt Go.RowKit Go.Deep

set_option maxRecDepth 20000
theorem trod_bytes {H : Type} {enc : TypeId × Value → H} {W : World} {v : Value} {y : DataW H × List MemPlace} {fuel : Nat}
    (h : DataW.trod enc Tryd.prog W 0 (fun _ => true) true fuel 22 [v] = some y) : ∃ a n c l, v = .slice a n c ∧ Bys W a n c l := by
  rcases open_ints Tryd.underlying22 Tryd.underlying5 (by kernel_rfl) h with ⟨hcs, hx⟩ | ⟨x, l, cc, zs, hcs, _, hl, hm, hz, hx, hcell, hwz⟩
  · simp at hcs
    exact ⟨none, 0, 0, [], hcs, Bys.nil _⟩
  · simp at hcs
    simp only [if_true] at hz
    exact ⟨_, _, _, _, hcs, bys_of_ints hl hm hz hcell hwz⟩
theorem trod_pts {H : Type} {enc : TypeId × Value → H} {W : World} {v : Value} {y : DataW H × List MemPlace} {fuel : Nat}
    (h : DataW.trod enc Tryd.prog W 0 (fun _ => true) true fuel 28 [v] = some y) : ∃ a n c l, v = .slice a n c ∧ Ps W a n c l := by
  obtain ⟨a, n, c, rfl⟩ : ∃ a n c, v = .slice a n c := by
    have c0 : Tryd.prog.cellsOf 3 = 1 := by kernel_rfl
    rcases Go.Deep.open_slice_pairs Tryd.underlying28 Tryd.underlying37 (by kernel_rfl) rfl rfl c0 c0 h with ⟨hcs, hx⟩ | ⟨x, len, cap, m, k, V0, V1, D0, D1, P0, P1, hcs, _⟩
    · simp at hcs
      exact ⟨_, _, _, hcs⟩
    · simp at hcs
      exact ⟨_, _, _, hcs⟩
  obtain ⟨d, p⟩ := y
  obtain ⟨l, hl⟩ := arg_pts (d := d) (p := p) ⟨fuel, h⟩
  exact ⟨a, n, c, l, rfl, hl⟩
theorem arg_heard {H : Type} {enc : TypeId × Value → H} {W : World} {r : Reach} {b0 : Nat} {t : TypeId} {f0 f1 f2 f3 : Field} {v : Value} {d : DataW H} {p : List MemPlace} (hs : Tryd.prog.underlying t = some (.struct #[f0, f1, f2, f3])) (hone : oneCellFields Tryd.prog #[f0, f1, f2, f3] = true) (hC : Tryd.prog.cellsOf t = 4)
    (e0 : f0.type = 22) (e1 : f1.type = 28) (e2 : f2.type = 28) (e3 : f3.type = 3)
    (hv : Value.okWide Tryd.prog W r b0 t v) (h : DataW.Trod enc Tryd.prog W 0 (fun _ => true) true t v d p) :
    ∃ a n c l a' n' c' l' a'' n'' c'' l'' o, v = .agg #[.slice a n c, .slice a' n' c', .slice a'' n'' c'', .int .i64 o] ∧ Bys W a n c l ∧ Ps W a' n' c' l' ∧ Ps W a'' n'' c'' l'' ∧ (-9223372036854775808 ≤ o ∧ o ≤ 9223372036854775807) := by
  obtain ⟨v0, v1, v2, v3, y0, y1, y2, y3, n, rfl, rfl, rfl, h0, h1, h2, h3⟩ := open_agg4 hs hone hC hv h
  rw [e0] at h0
  rw [e1] at h1
  rw [e2] at h2
  rw [e3] at h3
  obtain ⟨a, m, c, l, rfl, k0⟩ := trod_bytes h0
  obtain ⟨a', m', c', l', rfl, k1⟩ := trod_pts h1
  obtain ⟨a'', m'', c'', l'', rfl, k2⟩ := trod_pts h2
  obtain ⟨o, ho, _, wo⟩ := DataW.trod_int Tryd.underlying3 h3
  cases ho
  have := bounds_i64 wo
  exact ⟨_, _, _, _, _, _, _, _, _, _, _, _, o, rfl, k0, k1, k2, by omega, by omega⟩
end Go.Proofs.YtkcpkfimmolkkaaDoor
