/- Package tally, as landed: Rows. -/
import Derived.Test.YtpdnpfohcnpenaaTlK4
namespace Go.Proofs.Ytpdnpfohcnpenaa
open Go.RowKit Go.Maps
set_option maxRecDepth 20000

def RrowT (w : World) (Y : Nat → Prop) (m : Tam) (t : Tal) : Prop := m.1 = t.1 ∧ m.2.2 = t.2.2 ∧ ∃ A d, m.2.1 = .slice A t.2.1.length d ∧ Fre w Y A t.2.1.length d t.2.1
def RrowsT (w : World) (Y : Nat → Prop) (ms : List Tam) (l : List Tal) : Prop := ms.length = l.length ∧ ∀ j (h : j < ms.length) (h' : j < l.length), RrowT w Y ms[j] l[j]
theorem RrowT.imp {w : World} {Y Y' : Nat → Prop} {m : Tam} {t : Tal} (h : RrowT w Y m t) (hY : ∀ k, k < w.heap.size → Y' k → Y k) : RrowT w Y' m t := by
  obtain ⟨h1, h2, A, d, h3, h4, h5, h6⟩ := h
  refine ⟨h1, h2, A, d, h3, h4, fun hn p e hy => ?_, h6⟩
  obtain ⟨b, o, e', hb, _⟩ := h4.at_ hn
  rw [e] at e'
  injection e' with e'
  subst e'
  exact h5 hn _ e (hY _ hb hy)
theorem RrowT.off {X Y : Nat → Prop} {w w' : World} {m : Tam} {t : Tal} (h : RrowT w Y m t) (o : Off X w w') (hX : ∀ k, k < w.heap.size → X k → Y k) : RrowT w' Y m t := by
  obtain ⟨h1, h2, A, d, h3, h4, h5, h6⟩ := h
  refine ⟨h1, h2, A, d, h3, h4.off (fun hn p e hx => ?_) o, h5, fun hn => ?_⟩
  · obtain ⟨b, o', e', hb, _⟩ := h4.at_ hn
    rw [e] at e'
    injection e' with e'
    subst e'
    exact h5 hn _ e (hX _ hb hx)
  · obtain ⟨b, o1, e, hf⟩ := h6 hn
    obtain ⟨b', o', e', hb, _⟩ := h4.at_ hn
    rw [e] at e'
    injection e' with e'
    injection e' with e1 e2
    subst e1 e2
    refine ⟨b, o1, e, fun j hj => ?_⟩
    rw [frozen_of_block (o.block b hb (fun hx => h5 hn _ e (hX _ hb hx)))]
    exact hf j hj
theorem RrowsT.imp {w : World} {Y Y' : Nat → Prop} {ms : List Tam} {l : List Tal} (h : RrowsT w Y ms l) (hY : ∀ k, k < w.heap.size → Y' k → Y k) : RrowsT w Y' ms l := ⟨h.1, fun j h1 h2 => (h.2 j h1 h2).imp hY⟩
theorem RrowsT.off {X Y : Nat → Prop} {w w' : World} {ms : List Tam} {l : List Tal} (h : RrowsT w Y ms l) (o : Off X w w') (hX : ∀ k, k < w.heap.size → X k → Y k) : RrowsT w' Y ms l := ⟨h.1, fun j h1 h2 => (h.2 j h1 h2).off o hX⟩
theorem RrowsT.nil (w : World) (Y : Nat → Prop) : RrowsT w Y [] [] := ⟨rfl, fun j h => absurd h (by simp)⟩
theorem RrowsT.snoc {w : World} {Y : Nat → Prop} {ms : List Tam} {l : List Tal} {m : Tam} {t : Tal} (h : RrowsT w Y ms l) (k : RrowT w Y m t) : RrowsT w Y (ms ++ [m]) (l ++ [t]) := by
  refine ⟨by simp [h.1], fun j h1 h2 => ?_⟩
  have hl := h.1
  rcases Nat.lt_or_ge j ms.length with hj | hj
  · rw [List.getElem_append_left hj, List.getElem_append_left (by omega)]
    exact h.2 j hj (by omega)
  · have hj1 : j = ms.length := by simp at h1; omega
    subst hj1
    simpa [h.1] using k
theorem RrowsT.set {w : World} {Y : Nat → Prop} {ms : List Tam} {l : List Tal} (h : RrowsT w Y ms l) (j : Nat) (hj : j < ms.length) (hj' : j < l.length) (k : Nat) : RrowsT w Y (ms.set j (ms[j].1, ms[j].2.1, k)) (l.set j (l[j].1, l[j].2.1, k)) := by
  refine ⟨by simp [h.1], fun i h1 h2 => ?_⟩
  by_cases e : i = j
  · subst e
    simp only [List.getElem_set_self]
    obtain ⟨k1, k2, A, d, k3⟩ := h.2 i hj hj'
    exact ⟨k1, rfl, A, d, k3⟩
  · rw [List.getElem_set_ne (Ne.symm e), List.getElem_set_ne (Ne.symm e)]
    exact h.2 i (by simpa using h1) (by simpa using h2)
end Go.Proofs.Ytpdnpfohcnpenaa
