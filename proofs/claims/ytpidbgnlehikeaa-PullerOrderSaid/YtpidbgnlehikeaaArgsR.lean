/- How an argument that is a slice of slices of bytes is taken over from the row's reading into the words of my walks. -/
import Derived.Test.YtpidbgnlehikeaaArgs
import Derived.Deep.Matrix
namespace Go.Proofs.Ytpidbgnlehikeaa
open Go.ChangeShapes Go.WideShapes Go.ChangeAt Go.RowKit

theorem arg_rows {H : Type} {enc : TypeId × Value → H} {W : World} {a : Option Addr} {n c : Nat} {d : DataW H} {p : List MemPlace}
    (h : DataW.Trod enc Try.prog W 0 (fun _ => true) true 57 (.slice a n c) d p) : ∃ ls, Rws W a n c ls ∧ ((∀ m ∈ d.weights Try.prog 57, m ≤ 140737488351232) → ∀ k (h : k < ls.length), ls[k].length ≤ 140737488351232) := by
  obtain ⟨fuel, hf⟩ := h
  rcases Deep.open_int_rows Try.underlying57 Try.underlying36 Try.underlying5 (by kernel_rfl) (by kernel_rfl) hf with ⟨hcs, hx⟩ | ⟨x, len, cap, A, L, C, Z, hcs, _, hl, hm, hx, hcell⟩
  · simp [Value.cells] at hcs
    obtain ⟨rfl, rfl, rfl⟩ := hcs
    exact ⟨[], ⟨rfl, Nat.le_refl _, Nat.zero_le _, fun h => absurd h (by omega)⟩, fun _ k h => by simp at h⟩
  · simp [Value.cells] at hcs
    obtain ⟨rfl, rfl, rfl⟩ := hcs
    obtain ⟨len, hlen⟩ : ∃ len, len = n := ⟨_, rfl⟩
    subst hlen
    injection hx with hx _
    refine ⟨(List.range len).map fun r => Lib.bytesOf ((Z r).take (L r)), ⟨by simp, hl, hm, fun hn => ?_⟩, fun hw k hk => ?_⟩
    rotate_left
    · simp at hk
      obtain ⟨_, h1, h2, h3, h4, h5, _⟩ := hcell k (by omega)
      have e2 : (((List.range len).map fun r => Lib.bytesOf ((Z r).take (L r)))[k]'(by simpa using hk)).length = L k := by simp [Lib.bytesOf]; omega
      rw [e2]
      rcases hA : A k with _ | x1
      · have := h5 hA; omega
      · have hmem : Deep.intRow (H := H) .u8 (A k) (L k) (Z k) ∈ (List.range len).map fun r => Deep.intRow (H := H) .u8 (A r) (L r) (Z r) := List.mem_map.2 ⟨k, List.mem_range.2 hk, rfl⟩
        have hin : C k * 1 ∈ (Deep.intRow (H := H) .u8 (A k) (L k) (Z k)).weights Try.prog 36 := by
          rw [hA]
          simp only [Deep.intRow, DataW.weights, Try.underlying36, Try.bytes5, lits, List.length_map, List.length_take, List.length_drop]
          refine List.mem_cons.2 (.inl ?_)
          omega
        have := hw (C k * 1) (by
          rw [hx]
          simp only [DataW.weights, Try.underlying57]
          exact List.mem_cons_of_mem _ (List.mem_append.2 (.inl (weights_all hmem hin))))
        omega
    obtain ⟨b, o, spot⟩ := x
    have h0 := (hcell 0 (by omega)).1
    have hspot : spot = none := by simpa [Addr.add] using World.cell?_spot h0
    subst hspot
    refine ⟨b, o, (List.range len).map fun r => .slice (A r) (L r) (C r), rfl, ?_, by simp, fun j hj => ?_, fun j hj hj' => ?_⟩
    · have := block_lt_of_cell h0
      simpa [Addr.add] using this
    · simp at hj
      have ea : (⟨b, o, none⟩ : Addr).add j = ⟨b, o + j, none⟩ := by unfold Addr.add; split <;> simp_all
      have := (hcell j (by omega)).1
      rw [ea] at this
      simpa using this
    · simp at hj
      obtain ⟨_, h1, h2, h3, h4, h5, h6⟩ := hcell j (by omega)
      refine ⟨A j, C j, ?_, ?_⟩
      · simp [Lib.bytesOf]; omega
      · have e1 : ((List.range len).map fun r => Lib.bytesOf ((Z r).take (L r)))[j] = Lib.bytesOf ((Z j).take (L j)) := by simp
        have e2 : (Lib.bytesOf ((Z j).take (L j))).length = L j := by simp [Lib.bytesOf]; omega
        rw [e1, e2]
        rcases hA : A j with _ | x
        · have := h5 hA
          have hL : L j = 0 := by omega
          rw [hL]
          exact Bys.empty _ _ _ h2
        · exact bys_of_ints h1 h2 h3 (fun i hi => (h6 x hA).2 i (by omega)) h4

end Go.Proofs.Ytpidbgnlehikeaa
