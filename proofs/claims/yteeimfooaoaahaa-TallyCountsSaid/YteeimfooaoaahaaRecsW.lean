/- A slice of structs as an argument, with the reach of what each holds. Nothing of the program's own functions is in here. -/
import Derived.Test.YteeimfooaoaahaaRecs
namespace Go.Proofs.Yteeimfooaoaahaa
open Go.Joins Go.ChangeShapes Go.WideShapes Go.ChangeAt Go.RowKit Go.Deep
set_option maxRecDepth 20000

def Reach {H : Type} (t : TypeId) (d : DataW H) : Prop := ∀ m ∈ d.weights Try.prog t, m ≤ 140737488351232
theorem arg_recs_w {α : Type} [Inhabited α] {rd : World → Nat → Nat → α → Prop} {sz : Nat} {H : Type} {enc : TypeId × Value → H} {W : World} {ts te : TypeId} {a : Option Addr} {n c : Nat} {d : DataW H} {p : List MemPlace}
    (hs : Try.prog.underlying ts = some (.slice te)) (hsz : Try.prog.cellsOf te = sz) (hz0 : 0 < sz)
    (hrd : ∀ (b o : Nat) (cs : List Value) (fuel : Nat) (y : DataW H × List MemPlace), DataW.trod enc Try.prog W 0 (fun _ => true) true fuel te cs = some y → cs.length = sz → (∀ i (h : i < cs.length), W.cell? ⟨b, o + i, none⟩ = some cs[i]) → Reach te y.1 → ∃ x, rd W b o x)
    (h : DataW.Trod enc Try.prog W 0 (fun _ => true) true ts (.slice a n c) d p) (hw : Reach ts d) : ∃ l, Recs rd sz W a n c l := by
  obtain ⟨fuel, hf⟩ := h
  rcases Go.Deep.open_slice hs hf with ⟨hcs, hx⟩ | ⟨x, len, cap, m, k, D, Pl, hcs, hb, hl, hm, hmm, hx, hcell⟩
  · simp [Value.cells] at hcs
    obtain ⟨rfl, rfl, rfl⟩ := hcs
    exact ⟨[], Recs.nil _ _ _⟩
  · simp [Value.cells] at hcs
    obtain ⟨rfl, rfl, rfl⟩ := hcs
    simp only [if_true] at hmm
    have hwe : ∀ i, i < n → Reach te (D i) := fun i hi m' hm' => hw m' (by
      have e := congrArg Prod.fst hx
      simp only at e
      rw [e]
      simp only [DataW.weights, hs]
      exact List.mem_cons_of_mem _ (List.mem_append.2 (.inl (weights_all (List.mem_map.2 ⟨i, List.mem_range.2 hi, rfl⟩) hm'))))
    obtain ⟨b, o, spot⟩ := x
    have hspot : 0 < n → spot = none := fun hn => by
      obtain ⟨cs', h1, h2⟩ := hcell 0 (by omega)
      rw [hsz] at h1
      obtain ⟨_, hlen, hc⟩ := World.cells?_some h1
      have h0 := hc 0 (by omega)
      rw [List.getElem?_eq_getElem (by omega)] at h0
      simpa [Addr.add] using World.cell?_spot h0
    have each : ∀ i, i < n → ∃ e : α, rd W b (o + i * sz) e := by
      intro i hi
      have hsp := hspot (by omega)
      subst hsp
      obtain ⟨cs', h1, h2⟩ := hcell i (by omega)
      rw [hsz] at h1
      obtain ⟨_, hlen, hc⟩ := World.cells?_some h1
      refine hrd b (o + i * sz) cs' _ _ h2 (by omega) (fun j hj => ?_) (hwe i hi)
      have h3 := hc j (by omega)
      rw [List.getElem?_eq_getElem hj] at h3
      rw [← h3]
      have e : ((⟨b, o, none⟩ : Addr).add (i * sz)).add j = ⟨b, o + i * sz + j, none⟩ := by
        have k1 : (⟨b, o, none⟩ : Addr).add (i * sz) = ⟨b, o + i * sz, none⟩ := by unfold Addr.add; split <;> simp_all
        rw [k1]
        unfold Addr.add; split <;> simp_all
      rw [e]
    obtain ⟨E, hE⟩ := Go.Deep.choose_lt each
    refine ⟨(List.range n).map E, by simp, hl, hm, fun hn => ?_⟩
    have hsp := hspot hn
    subst hsp
    refine ⟨b, o, rfl, ?_, fun j hj => ?_⟩
    · obtain ⟨cs', h1, h2⟩ := hcell 0 (by omega)
      rw [hsz] at h1
      obtain ⟨_, hlen, hc⟩ := World.cells?_some h1
      have h0 := hc 0 (by omega)
      rw [List.getElem?_eq_getElem (by omega)] at h0
      simpa [Addr.add] using block_lt_of_cell h0
    · simp at hj
      have := hE j hj
      simpa using this
/-- a field's data of a struct's -/
theorem reach_field {H : Type} {t : TypeId} {fs : Array Field} {xs : List (DataW H × List MemPlace)} (ht : Try.prog.underlying t = some (.struct fs)) (hw : Reach t (.agg (xs.map (·.1)))) (i : Nat) (f : Field) (y : DataW H × List MemPlace) (hf : fs[i]? = some f) (hy : xs[i]? = some y) : Reach f.type y.1 := fun m hm => hw m (by
  simp only [DataW.weights, ht]
  exact DataW.weights_mem_each (j := i) (by simp [hf]) (by simp [hy]) m hm)
theorem trod_bys_w {H : Type} {enc : TypeId × Value → H} {W : World} {v : Value} {y : DataW H × List MemPlace} {fuel : Nat}
    (h : DataW.trod enc Try.prog W 0 (fun _ => true) true fuel 23 [v] = some y) (hw : Reach 23 y.1) : ∃ a n c l, v = .slice a n c ∧ Bys W a n c l ∧ n ≤ 140737488351232 := by
  rcases open_ints Try.underlying23 Try.underlying5 (by kernel_rfl) h with ⟨hcs, hx⟩ | ⟨x, l, cc, zs, hcs, _, hl, hm, hz, hx, hcell, hwz⟩
  · simp at hcs
    exact ⟨none, 0, 0, [], hcs, Bys.nil _, by omega⟩
  · simp at hcs
    simp only [if_true] at hz
    refine ⟨_, _, _, _, hcs, bys_of_ints hl hm hz hcell hwz, ?_⟩
    have := hw (cc * 1) (by
      rw [hx]
      simp only [DataW.weights, Try.underlying23, Try.bytes5, lits, List.length_map, List.length_take, List.length_drop]
      refine List.mem_cons.2 (.inl ?_)
      omega)
    omega
end Go.Proofs.Yteeimfooaoaahaa
