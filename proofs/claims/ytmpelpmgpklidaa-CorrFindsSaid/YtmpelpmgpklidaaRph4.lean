/- What kedgeref07's Bytes answers. -/
import Derived.Test.YtmpelpmgpklidaaRph3
namespace Go.Proofs.Ytmpelpmgpklidaa
open Go.RowKit

/-- A call's end that makes a []byte and tells a number beside it. -/
def GivesT (w : World) (r : List UInt8 × Int) (e : Ending) (w' : World) : Prop :=
  ∃ A n c, e = .returned (.tuple #[.slice A n c, .int .i64 r.2]) ∧ Bys w' A n c r.1 ∧ Below w.heap.size w w'
theorem bytesB_long {l : List Pt} (h : 16385 < l.length) : bytesB l = ([], 2) := by unfold bytesB; rw [if_pos h]
theorem bytesB_form {l : List Pt} (h : ¬ 16385 < l.length) (h2 : l.length % 4 ≠ 1 ∨ kindI (l.getD 0 (0, 0)) < 0) : bytesB l = ([], 70) := by unfold bytesB; rw [if_neg h, if_pos h2]
theorem bytesB_step {l : List Pt} (h : ¬ 16385 < l.length) (h2 : ¬ (l.length % 4 ≠ 1 ∨ kindI (l.getD 0 (0, 0)) < 0)) (i : Nat) (h0 : 0 < i) (hi : i < l.length) (hs : stepI (l[i - 1]'(by omega)) l[i] < 0) : bytesB l = ([], 70) := by
  unfold bytesB
  rw [if_neg h, if_neg h2, if_pos]
  have e := stepsP_take l i h0 hi
  have hsub : ∀ k ∈ stepsP (l.take (i + 1)), k ∈ stepsP l := by
    have key : ∀ (l : List Pt) (m : Nat), ∀ k ∈ stepsP (l.take m), k ∈ stepsP l := by
      intro l
      induction l with
      | nil => intro m k hk; simpa using hk
      | cons a r ih =>
        intro m k hk
        match m, r with
        | 0, _ => simp [stepsP] at hk
        | m + 1, [] => simpa using hk
        | 1, b :: r => simp [stepsP] at hk
        | m + 2, b :: r =>
          simp only [List.take_succ_cons, stepsP, List.mem_cons] at hk ⊢
          rcases hk with hk | hk
          · exact .inl hk
          · exact .inr (ih (m + 1) k (by simpa using hk))
    exact key l (i + 1)
  exact ⟨_, hsub _ (by rw [e]; simp), hs⟩
theorem bytesB_ok {l : List Pt} (h : ¬ 16385 < l.length) (h2 : ¬ (l.length % 4 ≠ 1 ∨ kindI (l.getD 0 (0, 0)) < 0)) (h3 : ∀ k ∈ stepsP l, 0 ≤ k) : bytesB l = ((pkRun (stepsP l)).out, 0) := by
  unfold bytesB
  rw [if_neg h, if_neg h2, if_neg (by rintro ⟨k, hk, h4⟩; have := h3 k hk; omega)]
theorem stepsP_le (l : List Pt) : ∀ k ∈ stepsP l, k ≤ 3 := by
  induction l with
  | nil => intro k hk; simp [stepsP] at hk
  | cons a r ih =>
    match r with
    | [] => intro k hk; simp [stepsP] at hk
    | b :: r =>
      intro k hk
      simp only [stepsP, List.mem_cons] at hk
      rcases hk with rfl | hk
      · exact (stepI_range a b).2
      · exact ih k hk
theorem pk_len (l : List Int) : ∀ s : Pk, (l.foldl pkStep s).out.length ≤ s.out.length + l.length := by
  induction l with
  | nil => intro s; simp
  | cons k r ih =>
    intro s
    rw [List.foldl_cons]
    have h1 := ih (pkStep s k)
    have h2 : (pkStep s k).out.length ≤ s.out.length + 1 := by unfold pkStep; split <;> simp
    simp only [List.length_cons]
    omega
theorem tmod_nat (i : Nat) : (i : Int).tmod 4 = ((i % 4 : Nat) : Int) := by rw [Int.tmod_eq_emod_of_nonneg (by omega)]; omega

end Go.Proofs.Ytmpelpmgpklidaa
