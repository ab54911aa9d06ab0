/- How an argument that is a slice of numbers of the kind uint64 is taken over from the row's reading. -/
import Derived.Test.YtoajbocpebfjoaaArgs
import Derived.Test.YtoajbocpebfjoaaUntV
namespace Go.Proofs.Ytoajbocpebfjoaa
open Go.ChangeShapes Go.WideShapes Go.ChangeAt Go.RowKit

theorem us_of {w : World} {x : Addr} {len cap : Nat} {zs : List Int} (hl : len ≤ cap) (hm : cap ≤ maxLen) (hz : zs.length = cap) (hc : ∀ i, i < zs.length → w.cell? (x.add i) = some (.int .u64 (zs.getD i 0))) (hw : ∀ n ∈ zs, (Lit.int .u64 n).wf = true) :
    Us w (some x) len cap ((zs.take len).map Int.toNat) ∧ ∀ k ∈ (zs.take len).map Int.toNat, k < 18446744073709551616 := by
  refine ⟨⟨by simp [uvs]; omega, hl, hm, fun hn => ?_⟩, fun k hk => ?_⟩
  · obtain ⟨b, o, spot⟩ := x
    have h0 := hc 0 (by omega)
    have hspot : spot = none := by simpa [Addr.add] using World.cell?_spot h0
    subst hspot
    refine ⟨b, o, rfl, ?_, fun j hj => ?_⟩
    · have := block_lt_of_cell h0
      simpa [Addr.add] using this
    · have hj1 : j < len := by simp [uvs] at hj; omega
      have hj2 : j < zs.length := by omega
      have ea : (⟨b, o, none⟩ : Addr).add j = ⟨b, o + j, none⟩ := by unfold Addr.add; split <;> simp_all
      have h1 := hc j hj2
      have hb := bounds_u64 (hw _ (List.getElem_mem hj2))
      rw [ea] at h1
      rw [h1, List.getD_eq_getElem?_getD, List.getElem?_eq_getElem hj2]
      simp [uvs]
      omega
  · obtain ⟨z, hz1, rfl⟩ := List.mem_map.1 hk
    have hb := bounds_u64 (hw z (List.mem_of_mem_take hz1))
    omega
theorem arg_u64s {H : Type} {enc : TypeId × Value → H} {W : World} {a : Option Addr} {n c : Nat} {d : DataW H} {p : List MemPlace}
    (h : DataW.Trod enc Try.prog W 0 (fun _ => true) true 22 (.slice a n c) d p) : ∃ l, Us W a n c l ∧ ∀ x ∈ l, x < 18446744073709551616 := by
  obtain ⟨fuel, hf⟩ := h
  rcases open_ints Try.underlying22 Try.underlying38 (by kernel_rfl) hf with ⟨hcs, hx⟩ | ⟨x, l, cc, zs, hcs, _, hl, hm, hz, hx, hcell, hwz⟩
  · simp [Value.cells] at hcs
    obtain ⟨rfl, rfl, rfl⟩ := hcs
    exact ⟨[], ⟨rfl, Nat.le_refl _, Nat.zero_le _, fun h => absurd h (by omega)⟩, fun x hx => by cases hx⟩
  · simp [Value.cells] at hcs
    obtain ⟨rfl, rfl, rfl⟩ := hcs
    simp only [if_true] at hz
    exact ⟨_, us_of hl hm hz hcell hwz⟩
theorem arg_u64r {H : Type} {enc : TypeId × Value → H} {W : World} {a : Option Addr} {n c : Nat} {d : DataW H} {p : List MemPlace}
    (h : DataW.Trod enc Try.prog W 0 (fun _ => true) true 22 (.slice a n c) d p) : ∃ l, (Us W a n c l ∧ ∀ x ∈ l, x < 18446744073709551616) ∧ n = lenOf d := by
  obtain ⟨fuel, hf⟩ := h
  rcases open_ints Try.underlying22 Try.underlying38 (by kernel_rfl) hf with ⟨hcs, hx⟩ | ⟨x, l, cc, zs, hcs, _, hl, hm, hz, hx, hcell, hwz⟩
  · simp [Value.cells] at hcs
    obtain ⟨rfl, rfl, rfl⟩ := hcs
    injection hx with hx _
    subst hx
    exact ⟨[], ⟨⟨rfl, Nat.le_refl _, Nat.zero_le _, fun h => absurd h (by omega)⟩, fun x hx => by cases hx⟩, rfl⟩
  · simp [Value.cells] at hcs
    obtain ⟨rfl, rfl, rfl⟩ := hcs
    simp only [if_true] at hz
    injection hx with hx _
    subst hx
    exact ⟨_, us_of hl hm hz hcell hwz, by simp [lenOf, lits]; omega⟩
theorem Try.bytes8 : Try.prog.bytesOf 38 = 8 := by kernel_rfl
theorem reach_len8 {H : Type} {ts : List TypeId} {ds : List (DataW H)} (h : (DataW.weightsEach Try.prog ts ds).all (· ≤ reachBytes) = true) (j : Nat) (t e : TypeId) (d : DataW H) (ht : ts[j]? = some t) (hd : ds[j]? = some d) (hu : Try.prog.underlying t = some (.slice e)) (hb : Try.prog.bytesOf e = 8) :
    lenOf d ≤ 17592186043904 := by
  cases d with
  | slice el sp =>
    have := sized_slice h (j := j) (t := t) (e := e) ht hd hu
    rw [hb] at this
    simp only [lenOf, reachBytes] at this ⊢
    omega
  | _ => simp [lenOf]
end Go.Proofs.Ytoajbocpebfjoaa
