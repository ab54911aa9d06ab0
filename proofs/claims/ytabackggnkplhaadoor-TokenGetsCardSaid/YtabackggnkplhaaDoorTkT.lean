/- What the table of package token holds when a call begins: out of the row's condition, for the contracts. -/
import Derived.Test.YtabackggnkplhaaDoorRows
import Derived.Test.YtabackggnkplhaaDoorTokenM
import Derived.Lib.LaidTab
import Derived.MakeChecks
import Derived.Stop.LaidErr
import Derived.ChangeSame
namespace Go.Proofs.YtabackggnkplhaaDoor
open Go.RowKit
set_option maxRecDepth 20000

theorem gPackets : Tryd.prog.globalNamed "kedge/token.packets" = some 0 := by kernel_rfl
/-- which numbers a packet has, by its kind; how many bytes of Data -/
def tkHas (k i : Nat) : Bool := (([[true, false, false], [true, true, true], [true, true, false], [true, false, true]] : List (List Bool)).getD k []).getD i false
def tkMost (k : Nat) : Int := ([0, 0, 64, 0] : List Int).getD k 0
/-- an array of three truths that reads as such holds them -/
theorem cells_of_bools {H : Type} {enc : TypeId × Value → H} {P : Program} {w : World} {base : Nat} {sp : Nat → Bool} {held : Bool} {fuel : Nat} {t e : TypeId} {cs : List Value} {zs : List Bool} {p : List MemPlace} {n : Nat}
    (ht : P.underlying t = some (.array n e)) (he : P.underlying e = some .bool) (hce : P.cellsOf e = 1) (hzn : zs.length = n)
    (h : DataW.trod enc P w base sp held fuel t cs = some (.agg (zs.map fun z => .lit (.bool z)), p)) : ∀ i (hi : i < zs.length), cs[i]? = some (.bool zs[i]) := by
  cases fuel with
  | zero => simp [DataW.trod] at h
  | succ fuel =>
    simp only [DataW.trod, ht, hce] at h
    split at h
    · obtain ⟨xs, hm, hx⟩ := Option.map_eq_some_iff.1 h
      have hxs : xs.map (·.1) = zs.map fun z => (DataW.lit (.bool z) : DataW H) := by
        have := congrArg Prod.fst hx
        simpa using this
      intro i hi
      obtain ⟨b, hb, hf⟩ := Lib.mapM_at hm i i (by simp [← hzn, hi])
      obtain ⟨z0, e0, rfl⟩ := DataW.trod_bool he hf
      have hq : (xs.map (·.1))[i]? = (zs.map fun z => (DataW.lit (.bool z) : DataW H))[i]? := by rw [hxs]
      rw [List.getElem?_map, List.getElem?_map, hb, List.getElem?_eq_getElem hi] at hq
      simp only [Option.map_some, Option.some.injEq, DataW.lit.injEq, Lit.bool.injEq] at hq
      subst hq
      have := congrArg (·[0]?) e0
      simpa using this
    · cases h
/-- an array of such structs -/
theorem cells_of_has {H : Type} {enc : TypeId × Value → H} {P : Program} {w : World} {base : Nat} {sp : Nat → Bool} {held : Bool} {fuel : Nat} {t e eb : TypeId} {n : Nat} {f0 f1 : Field} {k1 : IntKind} {cs : List Value} {zs : List (List Bool × Int)} {p : List MemPlace}
    (ht : P.underlying t = some (.array n e)) (he : P.underlying e = some (.struct #[f0, f1])) (h0 : P.underlying f0.type = some (.array 3 eb)) (hb : P.underlying eb = some .bool) (h1 : P.underlying f1.type = some (.int k1)) (o0 : f0.offset = 0) (o1 : f1.offset = 3)
    (hcb : P.cellsOf eb = 1) (hc0 : P.cellsOf f0.type = 3) (hc1 : P.cellsOf f1.type = 1) (hce : P.cellsOf e = 4) (hzn : zs.length = n) (hz3 : ∀ z ∈ zs, z.1.length = 3)
    (h : DataW.trod enc P w base sp held fuel t cs = some (.agg (zs.map fun z => .agg [.agg (z.1.map fun x => .lit (.bool x)), .lit (.int k1 z.2)]), p)) :
    ∀ i (hi : i < zs.length), (∀ j (hj : j < zs[i].1.length), cs[i * 4 + j]? = some (.bool (zs[i].1[j]))) ∧ cs[i * 4 + 3]? = some (.int k1 zs[i].2) := by
  cases fuel with
  | zero => simp [DataW.trod] at h
  | succ fuel =>
    simp only [DataW.trod, ht, hce] at h
    split at h
    · obtain ⟨xs, hm, hx⟩ := Option.map_eq_some_iff.1 h
      have hxs : xs.map (·.1) = zs.map fun z => (DataW.agg [.agg (z.1.map fun x => .lit (.bool x)), .lit (.int k1 z.2)] : DataW H) := by
        have := congrArg Prod.fst hx
        simpa using this
      intro i hi
      obtain ⟨b, hbi, hf⟩ := Lib.mapM_at hm i i (by simp [← hzn, hi])
      obtain ⟨⟨y0, p0⟩, y1, m, rfl, _, d0, d1⟩ := ChangeShapes.trod_struct2 he hf
      rw [o0, hc0] at d0
      rw [o1, hc1] at d1
      obtain ⟨z1, e1, rfl, _⟩ := DataW.trod_int h1 d1
      have hq : (xs.map (·.1))[i]? = (zs.map fun z => (DataW.agg [.agg (z.1.map fun x => .lit (.bool x)), .lit (.int k1 z.2)] : DataW H))[i]? := by rw [hxs]
      rw [List.getElem?_map, List.getElem?_map, hbi, List.getElem?_eq_getElem hi] at hq
      simp only [Option.map_some, Option.some.injEq, DataW.agg.injEq, List.cons.injEq, DataW.lit.injEq, Lit.int.injEq, true_and, and_true] at hq
      obtain ⟨q0, q1⟩ := hq
      subst q0 q1
      have h3 := hz3 _ (List.getElem_mem hi)
      have b0 := cells_of_bools h0 hb hcb h3 d0
      refine ⟨fun j hj => ?_, ?_⟩
      · have a0 := b0 j hj
        simp only [List.drop_zero, List.getElem?_take, List.getElem?_drop] at a0
        rw [if_pos (by omega), if_pos (by omega)] at a0
        exact a0
      · have a1 := congrArg (·[0]?) e1
        simp [List.getElem?_drop] at a1
        exact a1
    · cases h
/-- the table's cells -/
def Tab15 (w : World) : Prop := 0 < w.heap.size ∧ ∀ k, k < 4 → (∀ j, j < 3 → w.cell? ⟨0, k * 4 + j, none⟩ = some (.bool (tkHas k j))) ∧ w.cell? ⟨0, k * 4 + 3, none⟩ = some (.int .i64 (tkMost k))
theorem tab15_keep (w w' : World) (h : Tab15 w) (k : Below w.heap.size w w') : Tab15 w' := by
  obtain ⟨h1, h2⟩ := h
  have := k.size
  exact ⟨by omega, fun q hq => ⟨fun j hj => (k.cell (p := ⟨0, q * 4 + j, none⟩) h1).trans ((h2 q hq).1 j hj), (k.cell (p := ⟨0, q * 4 + 3, none⟩) h1).trans (h2 q hq).2⟩⟩
theorem tab15_of {W : World} (h : laidMetH Tryd.prog [("kedge/token.packets", Rows.laid_kedge_token_packets)] W) : Tab15 W := by
  rw [MakeChecks.laidMetH_plain _ _ _ (by kernel_rfl)] at h
  obtain ⟨ps, ⟨g', t', cs, fuel, p, q, hg', ht', hvar, hd, _, _⟩, _⟩ := h
  obtain rfl := Option.some.inj (gPackets.symm.trans hg')
  have hy : (Tryd.prog.globals[0]?).map (·.type) = some 47 := by kernel_rfl
  obtain rfl := Option.some.inj (hy.symm.trans ht')
  have hz := cells_of_has (zs := [([true, false, false], 0), ([true, true, true], 0), ([true, true, false], 64), ([true, false, true], 0)]) Tryd.underlying47 Tryd.underlying46 Tryd.underlying45 Tryd.underlying4 Tryd.underlying3 rfl rfl (by kernel_rfl) (by kernel_rfl) (by kernel_rfl) (by kernel_rfl) rfl (by decide) hd
  have hc : ∀ j (v : Value), cs.toList[j]? = some v → W.cell? ⟨0, j, none⟩ = some v := by
    intro j v hv
    have := World.var?_cell gPackets hvar j
    rw [this]
    simpa using hv
  have k : ∀ i, i < 4 → (∀ j, j < 3 → W.cell? ⟨0, i * 4 + j, none⟩ = some (.bool (tkHas i j))) ∧ W.cell? ⟨0, i * 4 + 3, none⟩ = some (.int .i64 (tkMost i)) := by
    intro i hi
    obtain ⟨z1, z2⟩ := hz i hi
    rcases i with _ | _ | _ | _ | i
    · refine ⟨fun j hj => (hc _ _ (z1 j hj)).trans ?_, (hc _ _ z2).trans rfl⟩
      rcases j with _ | _ | _ | j
      · rfl
      · rfl
      · rfl
      · omega
    · refine ⟨fun j hj => (hc _ _ (z1 j hj)).trans ?_, (hc _ _ z2).trans rfl⟩
      rcases j with _ | _ | _ | j
      · rfl
      · rfl
      · rfl
      · omega
    · refine ⟨fun j hj => (hc _ _ (z1 j hj)).trans ?_, (hc _ _ z2).trans rfl⟩
      rcases j with _ | _ | _ | j
      · rfl
      · rfl
      · rfl
      · omega
    · refine ⟨fun j hj => (hc _ _ (z1 j hj)).trans ?_, (hc _ _ z2).trans rfl⟩
      rcases j with _ | _ | _ | j
      · rfl
      · rfl
      · rfl
      · omega
    · omega
  exact ⟨block_lt_of_cell ((k 0 (by decide)).1 0 (by decide)), k⟩
end Go.Proofs.YtabackggnkplhaaDoor
