/- Plain facts for layer 16's FlightOnce: what holds of a flight's first direction behind every act. -/
import Derived.Test.YtgppoapdpgblmaaFliD
namespace Go.Proofs.Ytgppoapdpgblmaa
open Go.RowKit
set_option maxRecDepth 20000

/-- ps: what was put, in order; T: which numbers were taken -/
structure OInv (life : Nat) (ps : List (List UInt8)) (T : Int → Bool) (s : Fs) : Prop where
  sent : s.s0 = ps.length
  lf : s.life = life
  num : ∀ f ∈ s.l0, 1 ≤ f.1 ∧ f.1 ≤ ps.length ∧ ps[f.1 - 1]? = some f.2.2 ∧ T (f.1 : Int) = false
  up : (s.l0.map fun f => f.1).Pairwise (· < ·)
  young : 0 < life → ∀ f ∈ s.l0, ps.length - f.1 < life
  tk : ∀ k : Int, T k = true → 1 ≤ k ∧ k ≤ (ps.length : Int)
theorem OInv.new (life : Nat) : OInv life [] (fun _ => false) ⟨life, 0, [], 0, [], 0⟩ := ⟨rfl, rfl, (fun f h => by cases h), List.Pairwise.nil, (fun _ f h => by cases h), (fun k h => by cases h)⟩
theorem rising_le (l : List Nat) : ∀ lo hi : Nat, l.Pairwise (· < ·) → (∀ x ∈ l, lo < x ∧ x ≤ hi) → l.length ≤ hi - lo := by
  induction l with
  | nil => intro _ _ _ _; simp
  | cons x r ih =>
    intro lo hi hp hb
    rw [List.pairwise_cons] at hp
    have h1 := hb x (List.mem_cons_self)
    have h2 := ih x hi hp.2 (fun y hy => ⟨hp.1 y hy, (hb y (List.mem_cons_of_mem _ hy)).2⟩)
    simp
    omega
/-- with a life, no more are on their way than it lets -/
theorem OInv.few {life : Nat} {ps : List (List UInt8)} {T : Int → Bool} {s : Fs} (h : OInv life ps T s) (hl : 0 < life) : s.l0.length ≤ life := by
  have h1 := rising_le (s.l0.map fun f => f.1) (ps.length - life) ps.length h.up (fun x hx => by
    obtain ⟨f, hf, rfl⟩ := List.mem_map.1 hx
    have h2 := h.young hl f hf
    have h3 := h.num f hf
    exact ⟨by omega, h3.2.1⟩)
  rw [List.length_map] at h1
  omega
theorem OInv.put {life : Nat} {ps : List (List UInt8)} {T : Int → Bool} {s : Fs} (h : OInv life ps T s) (b : List UInt8) : OInv life (ps ++ [b]) T (fsPut0 s b) := by
  have hsub : ∀ f, f ∈ fsKeep s.life (s.s0 + 1) (s.l0 ++ [(s.s0 + 1, b, b)]) → f ∈ s.l0 ∨ f = (s.s0 + 1, b, b) := fun f hf => by
    unfold fsKeep at hf
    split at hf
    · simpa using hf
    · simpa using prune_mem hf
  have hslt : (fsKeep s.life (s.s0 + 1) (s.l0 ++ [(s.s0 + 1, b, b)])).Sublist (s.l0 ++ [(s.s0 + 1, b, b)]) := by
    unfold fsKeep
    split
    · exact List.Sublist.refl _
    · exact List.filter_sublist
  refine ⟨by simp [fsPut0, h.sent], h.lf, fun f hf => ?_, ?_, fun hl f hf => ?_, fun k hk => by have := h.tk k hk; simp; omega⟩
  · rcases hsub f hf with h1 | rfl
    · obtain ⟨a1, a2, a3, a4⟩ := h.num f h1
      refine ⟨a1, by simp; omega, ?_, a4⟩
      rw [List.getElem?_append_left (by omega)]
      exact a3
    · refine ⟨by simp, by simp [h.sent], ?_, ?_⟩
      · simp [h.sent]
      · cases hT : T ((s.s0 + 1 : Nat) : Int) with
        | false => rfl
        | true =>
          have := h.tk _ hT
          have := h.sent
          omega
  · refine List.Pairwise.sublist (List.Sublist.map _ hslt) ?_
    rw [List.map_append, List.pairwise_append]
    refine ⟨h.up, List.pairwise_singleton _ _, fun x hx y hy => ?_⟩
    obtain ⟨f, hf, rfl⟩ := List.mem_map.1 hx
    have h1 := (h.num f hf).2.1
    have h2 := h.sent
    simp at hy
    omega
  · have hk : s.s0 + 1 - f.1 < life := by
      have hl2 : s.life ≠ 0 := by rw [h.lf]; omega
      have hf2 : f ∈ fsPrune s.life (s.s0 + 1) (s.l0 ++ [(s.s0 + 1, b, b)]) := by
        have : f ∈ fsKeep s.life (s.s0 + 1) (s.l0 ++ [(s.s0 + 1, b, b)]) := hf
        unfold fsKeep at this
        rw [if_neg hl2] at this
        exact this
      have := (List.mem_filter.1 hf2).2
      rw [h.lf] at this
      simpa using this
    rw [List.length_append, ← h.sent]
    simpa using hk
theorem OInv.spoil {life : Nat} {ps : List (List UInt8)} {T : Int → Bool} {s : Fs} (h : OInv life ps T s) (i : Int) (es : List Ed) : OInv life ps T (fsSpoil s 0 i es) := by
  unfold fsSpoil
  split
  · rename_i he
    rw [if_pos rfl]
    obtain ⟨j, rfl, hj⟩ : ∃ j : Nat, i = (j : Int) ∧ j < s.l0.length := by
      rcases fsAt_ok he with ⟨_, j, hij, hj, _⟩ | ⟨h0, _⟩
      · exact ⟨j, hij, hj⟩
      · omega
    rw [Int.toNat_natCast]
    have hg : s.l0.getD j (0, [], []) = s.l0[j] := by rw [List.getD_eq_getElem?_getD, List.getElem?_eq_getElem hj]; rfl
    have hmem : ∀ f ∈ spoilL s.l0 j es, ∃ f' ∈ s.l0, f.1 = f'.1 ∧ f.2.2 = f'.2.2 := fun f hf => by
      unfold spoilL at hf
      rcases List.mem_or_eq_of_mem_set hf with h1 | rfl
      · exact ⟨f, h1, rfl, rfl⟩
      · exact ⟨s.l0[j], List.getElem_mem hj, by rw [hg], by rw [hg]⟩
    refine ⟨h.sent, h.lf, fun f hf => ?_, ?_, fun hl f hf => ?_, h.tk⟩
    · obtain ⟨f', h1, e1, e2⟩ := hmem f hf
      have := h.num f' h1
      rw [← e1, ← e2] at this
      exact this
    · have e : (spoilL s.l0 j es).map (fun f => f.1) = s.l0.map fun f => f.1 := by
        unfold spoilL
        rw [List.map_set, hg]
        have e2 : s.l0[j].1 = (s.l0.map fun f => f.1)[j]'(by simpa using hj) := by simp
        show (s.l0.map fun f => f.1).set j s.l0[j].1 = _
        rw [e2, List.set_getElem_self]
      show ((spoilL s.l0 j es).map fun f => f.1).Pairwise (· < ·)
      rw [e]
      exact h.up
    · obtain ⟨f', h1, e1, e2⟩ := hmem f hf
      rw [e1]
      exact h.young hl f' h1
  · exact h
theorem OInv.take {life : Nat} {ps : List (List UInt8)} {T : Int → Bool} {s : Fs} (h : OInv life ps T s) (j : Nat) (hj : j < s.l0.length) : OInv life ps (fun k => decide (k = (s.l0[j].1 : Int)) || T k) { s with l0 := s.l0.eraseIdx j } := by
  have hn := h.num s.l0[j] (List.getElem_mem hj)
  have hne : ∀ f ∈ s.l0.eraseIdx j, f.1 ≠ s.l0[j].1 := fun f hf e => by
    obtain ⟨i, hi, he⟩ := List.mem_eraseIdx_iff_getElem.1 hf
    have hp := List.pairwise_iff_getElem.1 h.up
    have hi1 := hi
    rcases Nat.lt_trichotomy i j with h1 | h1 | h1
    · have := hp i j (by simpa using (by omega : i < s.l0.length)) (by simpa using hj) h1
      simp at this
      have e2 := he.2
      rw [← e2] at e
      omega
    · exact absurd h1 he.1
    · have hil : i < s.l0.length := hi
      have := hp j i (by simpa using hj) (by simpa using hil) h1
      simp at this
      have e2 := he.2
      rw [← e2] at e
      omega
  refine ⟨h.sent, h.lf, fun f hf => ?_, List.Pairwise.sublist (List.Sublist.map _ (List.eraseIdx_sublist _ _)) h.up, fun hl f hf => h.young hl f (erase_mem hf), fun k hk => ?_⟩
  · obtain ⟨a1, a2, a3, a4⟩ := h.num f (erase_mem hf)
    refine ⟨a1, a2, a3, ?_⟩
    have := hne f hf
    simp [a4]
    omega
  · simp at hk
    rcases hk with rfl | hk
    · omega
    · exact h.tk k hk
end Go.Proofs.Ytgppoapdpgblmaa
