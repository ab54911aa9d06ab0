/- How an argument that is a slice of layer 16's law's own acts is taken over from the row's reading. -/
import Derived.Test.YtgppoapdpgblmaaFliD
import Derived.Test.YtgppoapdpgblmaaArgsE
namespace Go.Proofs.Ytgppoapdpgblmaa
open Go.Joins Go.ChangeShapes Go.WideShapes Go.ChangeAt Go.RowKit Go.Deep
set_option maxRecDepth 20000
theorem trod_eds {H : Type} {enc : TypeId × Value → H} {W : World} {v : Value} {y : DataW H × List MemPlace} {fuel : Nat}
    (h : DataW.trod enc Try.prog W 0 (fun _ => true) true fuel 34 [v] = some y) : ∃ a n c l, v = .slice a n c ∧ Eds W a n c l := by
  rcases Go.Deep.open_slice Try.underlying34 h with ⟨hcs, hx⟩ | ⟨x, len, cap, m, k, D, Pl, hcs, hb, hl, hm, hmm, hx, hcell⟩
  · simp at hcs
    exact ⟨none, 0, 0, [], hcs, Eds.nil _⟩
  · simp at hcs
    subst hcs
    obtain ⟨n, hnl⟩ : ∃ n, len = n := ⟨_, rfl⟩
    subst hnl
    simp only [if_true] at hmm
    refine ⟨some x, len, cap, ?_⟩
    suffices hs : ∃ l, Eds W (some x) len cap l by
      obtain ⟨l, hl⟩ := hs
      exact ⟨l, rfl, hl⟩
    have ce : Try.prog.cellsOf 80 = 3 := by kernel_rfl
    have c0 : Try.prog.cellsOf 3 = 1 := by kernel_rfl
    have c1 : Try.prog.cellsOf 5 = 1 := by kernel_rfl
    have each : ∀ i, i < len → ∃ e : Ed, W.cell? (x.add (i * 3)) = some (.int .i64 e.kind) ∧ W.cell? ((x.add (i * 3)).add 1) = some (.int .i64 e.at_) ∧ W.cell? ((x.add (i * 3)).add 2) = some (.int .u8 (e.b.toNat : Int)) := by
      intro i hi
      obtain ⟨cs', h1, h2⟩ := hcell i (by omega)
      rw [ce] at h1
      obtain ⟨_, hlen, hc⟩ := World.cells?_some h1
      obtain ⟨xs, k2, hk2, hxy, _, hxl, hfld⟩ := DataW.trod_struct Try.underlying80 h2
      match xs, hxl, cs', hlen with
      | [y0, y1, y2], _, [v0, v1, v2], _ =>
        have g0 := hfld 0 _ rfl
        have g1 := hfld 1 _ rfl
        have g2 := hfld 2 _ rfl
        simp [c0, c1] at g0 g1 g2
        obtain ⟨z0, e0, -, w0⟩ := DataW.trod_int Try.underlying3 g0
        obtain ⟨z1, e1, -, w1⟩ := DataW.trod_int Try.underlying3 g1
        obtain ⟨z2, e2, -, w2⟩ := DataW.trod_int Try.underlying5 g2
        simp at e0 e1 e2
        have k0 := hc 0 (by omega)
        have k1 := hc 1 (by omega)
        have k2 := hc 2 (by omega)
        refine ⟨⟨z0, z1, UInt8.ofNat z2.toNat⟩, ?_, ?_, ?_⟩
        · simpa [Addr.add, e0] using k0
        · simpa [e1] using k1
        · rw [← u8_back w2]
          simpa [e2] using k2
    obtain ⟨E, hE⟩ := Go.Deep.choose_lt each
    refine ⟨(List.range len).map E, by simp, hl, hm, fun hn => ?_⟩
    obtain ⟨b, o, spot⟩ := x
    have h0 := (hE 0 hn).1
    have hspot : spot = none := by simpa [Addr.add] using World.cell?_spot h0
    subst hspot
    refine ⟨b, o, rfl, ?_, fun j hj => ?_⟩
    · have := block_lt_of_cell h0
      simpa [Addr.add] using this
    · simp at hj
      have ad : ∀ (o k : Nat), (⟨b, o, none⟩ : Addr).add k = ⟨b, o + k, none⟩ := fun o k => by unfold Addr.add; split <;> simp_all
      have := hE j hj
      rw [ad, ad, ad] at this
      simpa using this
theorem trod_i64 {H : Type} {enc : TypeId × Value → H} {W : World} {v : Value} {y : DataW H × List MemPlace} {fuel : Nat}
    (h : DataW.trod enc Try.prog W 0 (fun _ => true) true fuel 3 [v] = some y) : ∃ k : Int, v = .int .i64 k ∧ I64 k := by
  obtain ⟨k, e, _, hw⟩ := DataW.trod_int Try.underlying3 h
  simp at e
  exact ⟨k, e, bounds_i64 hw⟩
instance : Inhabited Act16 := ⟨(0, 0, 0, [], [])⟩
theorem arg_acts16 {H : Type} {enc : TypeId × Value → H} {W : World} {a : Option Addr} {n c : Nat} {d : DataW H} {p : List MemPlace}
    (h : DataW.Trod enc Try.prog W 0 (fun _ => true) true 22 (.slice a n c) d p) (_ : ∀ m ∈ d.weights Try.prog 22, m ≤ 140737488351232) : ∃ l, Recs rdAct16 5 W a n c l := by
  refine arg_recs (te := 36) Try.underlying22 (by kernel_rfl) (by omega) (fun b o cs fuel y h2 hl hc => ?_) h
  obtain ⟨xs, k2, hk2, hxy, _, hxl, hfld⟩ := DataW.trod_struct Try.underlying36 h2
  have c0 : Try.prog.cellsOf 3 = 1 := by kernel_rfl
  have c1 : Try.prog.cellsOf 33 = 1 := by kernel_rfl
  have c2 : Try.prog.cellsOf 34 = 1 := by kernel_rfl
  match xs, hxl, cs, hl with
  | [y0, y1, y2, y3, y4], _, [v0, v1, v2, v3, v4], _ =>
    have g0 := hfld 0 _ rfl
    have g1 := hfld 1 _ rfl
    have g2 := hfld 2 _ rfl
    have g3 := hfld 3 _ rfl
    have g4 := hfld 4 _ rfl
    simp [c0, c1, c2] at g0 g1 g2 g3 g4
    obtain ⟨z0, e0, w0⟩ := trod_i64 g0
    obtain ⟨z1, e1, w1⟩ := trod_i64 g1
    obtain ⟨z2, e2, w2⟩ := trod_i64 g2
    obtain ⟨A, m, d, l, e3, kb⟩ := trod_bys g3
    obtain ⟨E, m', d', es, e4, ke⟩ := trod_eds g4
    have k0 := hc 0 (by simp)
    have k1 := hc 1 (by simp)
    have k2 := hc 2 (by simp)
    have k3 := hc 3 (by simp)
    have k4 := hc 4 (by simp)
    have hl := kb.len
    have hl' := ke.1
    subst hl hl'
    refine ⟨(z0, z1, z2, l, es), ⟨w0, w1, w2⟩, A, d, E, d', ?_, ?_, ?_, ?_, ?_, kb, ke⟩
    · simpa [e0] using k0
    · simpa [e1] using k1
    · simpa [e2] using k2
    · simpa [e3] using k3
    · simpa [e4] using k4
end Go.Proofs.Ytgppoapdpgblmaa
