/- How an argument that is a slice of bytes, is taken over from the row's reading into the words of my walks. -/
import Derived.Test.YtoajbocpebfjoaaWords
import Derived.ProofKit
import Derived.SizedLaws
import Derived.OpenShut
namespace Go.Proofs.Ytoajbocpebfjoaa
open Go.ChangeShapes Go.WideShapes Go.ChangeAt Go.RowKit

def lenOf {H : Type} : DataW H → Nat
  | .slice el _ => el.length
  | _ => 0

theorem bys_of_ints {w : World} {x : Addr} {len cap : Nat} {zs : List Int} (hl : len ≤ cap) (hm : cap ≤ maxLen) (hz : zs.length = cap) (hc : ∀ i, i < zs.length → w.cell? (x.add i) = some (.int .u8 (zs.getD i 0))) (hw : ∀ n ∈ zs, (Lit.int .u8 n).wf = true) :
    Bys w (some x) len cap (Lib.bytesOf (zs.take len)) := by
  refine ⟨by simp [Lib.bytesOf]; omega, hl, hm, fun hn => ?_⟩
  obtain ⟨b, o, spot⟩ := x
  have h0 := hc 0 (by omega)
  have hspot : spot = none := by simpa [Addr.add] using World.cell?_spot h0
  subst hspot
  refine ⟨b, o, rfl, ?_, fun j hj => ?_⟩
  · have := block_lt_of_cell h0
    simpa [Addr.add] using this
  · have hj1 : j < len := by simp [Lib.bytesOf] at hj; omega
    have hj2 : j < zs.length := by omega
    have ea : (⟨b, o, none⟩ : Addr).add j = ⟨b, o + j, none⟩ := by unfold Addr.add; split <;> simp_all
    have h1 := hc j hj2
    rw [ea] at h1
    rw [h1, List.getD_eq_getElem?_getD, List.getElem?_eq_getElem hj2]
    have h2 := bounds_u8 (hw zs[j] (List.getElem_mem hj2))
    simp [Lib.bytesOf]
    omega

theorem arg_bytes {H : Type} {enc : TypeId × Value → H} {W : World} {a : Option Addr} {n c : Nat} {d : DataW H} {p : List MemPlace}
    (h : DataW.Trod enc Try.prog W 0 (fun _ => true) true 39 (.slice a n c) d p) : ∃ l, Bys W a n c l ∧ n = lenOf d := by
  obtain ⟨fuel, hf⟩ := h
  rcases open_ints Try.underlying39 Try.underlying5 (by kernel_rfl) hf with ⟨hcs, hx⟩ | ⟨x, l, cc, zs, hcs, _, hl, hm, hz, hx, hcell, hwz⟩
  · simp [Value.cells] at hcs
    obtain ⟨rfl, rfl, rfl⟩ := hcs
    injection hx with hx _
    subst hx
    exact ⟨[], Bys.nil _, rfl⟩
  · simp [Value.cells] at hcs
    obtain ⟨rfl, rfl, rfl⟩ := hcs
    injection hx with hx _
    subst hx
    simp only [if_true] at hz
    exact ⟨_, bys_of_ints hl hm hz hcell hwz, by simp [lenOf, lits]; omega⟩
theorem weights_all {H : Type} {P : Program} {e : TypeId} {d : DataW H} {n : Nat} : ∀ {l : List (DataW H)}, d ∈ l → n ∈ d.weights P e → n ∈ DataW.weightsAll P e l
  | [], h, _ => by cases h
  | x :: r, h, hn => by
    simp only [DataW.weightsAll, List.mem_append]
    rcases List.mem_cons.1 h with rfl | h
    · exact .inl hn
    · exact .inr (weights_all h hn)
theorem Try.bytes5 : Try.prog.bytesOf 5 = 1 := by kernel_rfl
theorem reach_all {H : Type} {ts : List TypeId} {ds : List (DataW H)} (h : (DataW.weightsEach Try.prog ts ds).all (· ≤ reachBytes) = true) (j : Nat) (t : TypeId) (d : DataW H) (ht : ts[j]? = some t) (hd : ds[j]? = some d) :
    ∀ m ∈ d.weights Try.prog t, m ≤ 140737488351232 := by
  intro m hm
  exact of_decide_eq_true (List.all_eq_true.1 h _ (DataW.weights_mem_each ht hd m hm))
theorem reach_len {H : Type} {ts : List TypeId} {ds : List (DataW H)} (h : (DataW.weightsEach Try.prog ts ds).all (· ≤ reachBytes) = true) (j : Nat) (t e : TypeId) (d : DataW H) (ht : ts[j]? = some t) (hd : ds[j]? = some d) (hu : Try.prog.underlying t = some (.slice e)) (hb : 1 ≤ Try.prog.bytesOf e) :
    lenOf d ≤ 140737488351232 := by
  cases d with
  | slice el sp =>
    have := sized_slice h (j := j) (t := t) (e := e) ht hd hu
    simp only [lenOf, reachBytes] at this ⊢
    have h2 : el.length ≤ (el.length + sp.length) * Try.prog.bytesOf e := Nat.le_trans (Nat.le_add_right _ _) (Nat.le_mul_of_pos_right _ hb)
    omega
  | _ => simp [lenOf]
end Go.Proofs.Ytoajbocpebfjoaa
