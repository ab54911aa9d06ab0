/- How an argument that is a slice of edits is taken over from the row's reading into the words of my walks. -/
import Derived.Test.YtgppoapdpgblmaaArgs
import Derived.Test.YtgppoapdpgblmaaEdV
import Derived.Deep.Slices
namespace Go.Proofs.Ytgppoapdpgblmaa
open Go.ChangeShapes Go.WideShapes Go.ChangeAt Go.RowKit
set_option maxRecDepth 20000

instance : Inhabited Ed := ⟨⟨0, 0, 0⟩⟩
theorem u8_back {z : Int} (h : (Lit.int .u8 z).wf = true) : z = ((UInt8.ofNat z.toNat).toNat : Int) := by
  have h2 := bounds_u8 h
  rw [UInt8.toNat_ofNat']
  omega
theorem arg_eds {H : Type} {enc : TypeId × Value → H} {W : World} {a : Option Addr} {n c : Nat} {d : DataW H} {p : List MemPlace}
    (h : DataW.Trod enc Try.prog W 0 (fun _ => true) true 34 (.slice a n c) d p) : ∃ l, Eds W a n c l := by
  obtain ⟨fuel, hf⟩ := h
  rcases Go.Deep.open_slice Try.underlying34 hf with ⟨hcs, hx⟩ | ⟨x, len, cap, m, k, D, Pl, hcs, hb, hl, hm, hmm, hx, hcell⟩
  · simp [Value.cells] at hcs
    obtain ⟨rfl, rfl, rfl⟩ := hcs
    exact ⟨[], Eds.nil _⟩
  · simp [Value.cells] at hcs
    obtain ⟨rfl, rfl, rfl⟩ := hcs
    simp only [if_true] at hmm
    have ce : Try.prog.cellsOf 80 = 3 := by kernel_rfl
    have c0 : Try.prog.cellsOf 3 = 1 := by kernel_rfl
    have c1 : Try.prog.cellsOf 5 = 1 := by kernel_rfl
    have each : ∀ i, i < n → ∃ e : Ed, W.cell? (x.add (i * 3)) = some (.int .i64 e.kind) ∧ W.cell? ((x.add (i * 3)).add 1) = some (.int .i64 e.at_) ∧ W.cell? ((x.add (i * 3)).add 2) = some (.int .u8 (e.b.toNat : Int)) := by
      intro i hi
      obtain ⟨cs', h1, h2⟩ := hcell i (by omega)
      rw [ce] at h1
      obtain ⟨_, hlen, hc⟩ := World.cells?_some h1
      obtain ⟨xs, k2, hk2, hxy, _, hxl, hfld⟩ := DataW.trod_struct Try.underlying80 h2
      match xs, hxl, cs', hlen with
      | [y0, y1, y2], _, [v0, v1, v2], _ =>
        have g0 := hfld 0 _ rfl
        have g1 := hfld 1 _ rfl
        have g2 := hfld 2 _ rfl
        simp [c0, c1] at g0 g1 g2
        obtain ⟨z0, e0, -, w0⟩ := DataW.trod_int Try.underlying3 g0
        obtain ⟨z1, e1, -, w1⟩ := DataW.trod_int Try.underlying3 g1
        obtain ⟨z2, e2, -, w2⟩ := DataW.trod_int Try.underlying5 g2
        simp at e0 e1 e2
        have k0 := hc 0 (by omega)
        have k1 := hc 1 (by omega)
        have k2 := hc 2 (by omega)
        refine ⟨⟨z0, z1, UInt8.ofNat z2.toNat⟩, ?_, ?_, ?_⟩
        · simpa [Addr.add, e0] using k0
        · simpa [e1] using k1
        · rw [← u8_back w2]
          simpa [e2] using k2
    obtain ⟨E, hE⟩ := Go.Deep.choose_lt each
    refine ⟨(List.range n).map E, by simp, hl, hm, fun hn => ?_⟩
    obtain ⟨b, o, spot⟩ := x
    have h0 := (hE 0 hn).1
    have hspot : spot = none := by simpa [Addr.add] using World.cell?_spot h0
    subst hspot
    refine ⟨b, o, rfl, ?_, fun j hj => ?_⟩
    · have := block_lt_of_cell h0
      simpa [Addr.add] using this
    · simp at hj
      have ad : ∀ (o k : Nat), (⟨b, o, none⟩ : Addr).add k = ⟨b, o + k, none⟩ := fun o k => by unfold Addr.add; split <;> simp_all
      have := hE j hj
      rw [ad, ad, ad] at this
      simpa using this
end Go.Proofs.Ytgppoapdpgblmaa
