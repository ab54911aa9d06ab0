/- What the tables of package hamming hold when a call begins: out of the row's condition, for the contracts. -/
import Derived.Test.YtngcjbfjhaelbaaDoorRows
import Derived.Test.YtngcjbfjhaelbaaDoorHaC
import Derived.Lib.LaidTab
import Derived.MakeChecks
import Derived.Stop.LaidErr
import Derived.ChangeSame
namespace Go.Proofs.YtngcjbfjhaelbaaDoor
open Go.RowKit

theorem gOwn : Tryd.prog.globalNamed "kedge/hamming.own" = some 1 := by kernel_rfl
theorem gTogether : Tryd.prog.globalNamed "kedge/hamming.together" = some 0 := by kernel_rfl
/-- an array of structs of two integers that reads as such a table holds the table's numbers -/
theorem cells_of_pairs {H : Type} {enc : TypeId × Value → H} {P : Program} {w : World} {base : Nat} {sp : Nat → Bool} {held : Bool} {fuel : Nat} {t e : TypeId} {n : Nat} {f0 f1 : Field} {k0 k1 : IntKind} {cs : List Value} {zs : List (Int × Int)} {p : List MemPlace}
    (ht : P.underlying t = some (.array n e)) (he : P.underlying e = some (.struct #[f0, f1])) (h0 : P.underlying f0.type = some (.int k0)) (h1 : P.underlying f1.type = some (.int k1)) (o0 : f0.offset = 0) (o1 : f1.offset = 1)
    (hc0 : P.cellsOf f0.type = 1) (hc1 : P.cellsOf f1.type = 1) (hce : P.cellsOf e = 2) (hzn : zs.length = n)
    (h : DataW.trod enc P w base sp held fuel t cs = some (.agg (zs.map fun z => .agg [.lit (.int k0 z.1), .lit (.int k1 z.2)]), p)) :
    ∀ i (hi : i < zs.length), cs[i * 2]? = some (.int k0 zs[i].1) ∧ cs[i * 2 + 1]? = some (.int k1 zs[i].2) := by
  cases fuel with
  | zero => simp [DataW.trod] at h
  | succ fuel =>
    simp only [DataW.trod, ht, hce] at h
    split at h
    · obtain ⟨xs, hm, hx⟩ := Option.map_eq_some_iff.1 h
      have hxs : xs.map (·.1) = zs.map fun z => (DataW.agg [.lit (.int k0 z.1), .lit (.int k1 z.2)] : DataW H) := by
        have := congrArg Prod.fst hx
        simpa using this
      intro i hi
      obtain ⟨b, hb, hf⟩ := Lib.mapM_at hm i i (by simp [← hzn, hi])
      obtain ⟨y0, y1, m, rfl, _, d0, d1⟩ := ChangeShapes.trod_struct2 he hf
      rw [o0, hc0] at d0
      rw [o1, hc1] at d1
      obtain ⟨z0, e0, rfl, _⟩ := DataW.trod_int h0 d0
      obtain ⟨z1, e1, rfl, _⟩ := DataW.trod_int h1 d1
      have hq : (xs.map (·.1))[i]? = (zs.map fun z => (DataW.agg [.lit (.int k0 z.1), .lit (.int k1 z.2)] : DataW H))[i]? := by rw [hxs]
      rw [List.getElem?_map, List.getElem?_map, hb, List.getElem?_eq_getElem hi] at hq
      simp only [Option.map_some, Option.some.injEq, DataW.agg.injEq, List.cons.injEq, DataW.lit.injEq, Lit.int.injEq, true_and, and_true] at hq
      obtain ⟨q0, q1⟩ := hq
      subst q0 q1
      have a0 : ((cs.drop (i * 2)).take 2)[0]? = some (Value.int k0 zs[i].1) := by
        have := congrArg (·[0]?) e0
        simpa using this
      have a1 : ((cs.drop (i * 2)).take 2)[1]? = some (Value.int k1 zs[i].2) := by
        have := congrArg (·[0]?) e1
        simpa [List.getElem?_take, List.getElem?_drop] using this
      rw [List.getElem?_take, if_pos (by decide), List.getElem?_drop] at a0 a1
      exact ⟨a0, a1⟩
    · cases h
/-- the tables' cells -/
def Tab10 (w : World) : Prop := 1 < w.heap.size ∧ 0 < w.heap.size ∧ (∀ i, i < 4 → w.cell? ⟨1, i, none⟩ = some (.int .i64 (([3, 5, 6, 7] : List Int).getD i 0))) ∧ (∀ i, i < 4 → w.cell? ⟨0, i * 2, none⟩ = some (.int .i64 (([1, 2, 4, 0] : List Int).getD i 0)) ∧ w.cell? ⟨0, i * 2 + 1, none⟩ = some (.int .u8 (([170, 204, 240, 255] : List Int).getD i 0)))
theorem tab10_keep (w w' : World) (h : Tab10 w) (k : Below w.heap.size w w') : Tab10 w' := by
  obtain ⟨h1, h2, h3, h4⟩ := h
  have := k.size
  exact ⟨by omega, by omega, fun i hi => (k.cell (p := ⟨1, i, none⟩) h1).trans (h3 i hi), fun i hi => ⟨(k.cell (p := ⟨0, i * 2, none⟩) h2).trans (h4 i hi).1, (k.cell (p := ⟨0, i * 2 + 1, none⟩) h2).trans (h4 i hi).2⟩⟩
theorem tab10_of {W : World} (h : laidMetH Tryd.prog [("kedge/hamming.own", Rows.laid_kedge_hamming_own), ("kedge/hamming.together", Rows.laid_kedge_hamming_together)] W) : Tab10 W := by
  rw [MakeChecks.laidMetH_plain _ _ _ (by kernel_rfl)] at h
  have t1 : Lib.TabIs Tryd.prog W "kedge/hamming.own" .i64 [3, 5, 6, 7] := Lib.tabIs_of_head gOwn (by kernel_rfl) Tryd.underlying53 Tryd.underlying3 (by kernel_rfl) (by kernel_rfl) h
  have c1 := t1.cell gOwn
  have h2 := laidMet.tail h
  obtain ⟨ps, ⟨g', t', cs, fuel, p, q, hg', ht', hvar, hd, _, _⟩, _⟩ := h2
  obtain rfl := Option.some.inj (gTogether.symm.trans hg')
  have hy : (Tryd.prog.globals[0]?).map (·.type) = some 51 := by kernel_rfl
  obtain rfl := Option.some.inj (hy.symm.trans ht')
  have hz := cells_of_pairs (zs := [(1, 170), (2, 204), (4, 240), (0, 255)]) Tryd.underlying51 Tryd.underlying50 Tryd.underlying3 Tryd.underlying5 rfl rfl (by kernel_rfl) (by kernel_rfl) (by kernel_rfl) rfl hd
  have hc : ∀ j (v : Value), cs.toList[j]? = some v → W.cell? ⟨0, j, none⟩ = some v := by
    intro j v hv
    have := World.var?_cell gTogether hvar j
    rw [this]
    simpa using hv
  have k : ∀ i, i < 4 → W.cell? ⟨0, i * 2, none⟩ = some (.int .i64 (([1, 2, 4, 0] : List Int).getD i 0)) ∧ W.cell? ⟨0, i * 2 + 1, none⟩ = some (.int .u8 (([170, 204, 240, 255] : List Int).getD i 0)) := by
    intro i hi
    obtain ⟨z1, z2⟩ := hz i hi
    refine ⟨(hc _ _ z1).trans ?_, (hc _ _ z2).trans ?_⟩ <;>
    · rcases i with _ | _ | _ | _ | i
      · rfl
      · rfl
      · rfl
      · rfl
      · omega
  exact ⟨block_lt_of_cell (c1 0 (by decide)), block_lt_of_cell (k 0 (by decide)).1, fun i hi => c1 i hi, k⟩
end Go.Proofs.YtngcjbfjhaelbaaDoor
