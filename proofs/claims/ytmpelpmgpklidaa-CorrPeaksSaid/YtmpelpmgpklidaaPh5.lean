/- Package phase: Bytes. -/
import Derived.Test.YtmpelpmgpklidaaPh4
import Derived.Test.YtmpelpmgpklidaaPhQ
namespace Go.Proofs.Ytmpelpmgpklidaa
open Go.RowKit

theorem kindI_step {a b : Pt} (h : kindI b < 0) : stepI a b < 0 := by unfold stepI; rw [if_pos (.inr h)]; decide
theorem kindI_step2 {a b : Pt} (ha : 0 ≤ kindI a) (hb : 0 ≤ kindI b) : stepI a b = (kindI b - kindI a) % 4 := by unfold stepI; rw [if_neg (by omega)]
theorem u8_or4 (a s : Nat) (h : a < 64) (hs : s < 4) : bits .or .u8 (4 * (a : Int)) (s : Int) = 4 * (a : Int) + (s : Int) := by
  have key : ∀ a : Fin 64, ∀ s : Fin 4, bits .or .u8 (4 * ((a.val : Nat) : Int)) ((s.val : Nat) : Int) = 4 * ((a.val : Nat) : Int) + ((s.val : Nat) : Int) := by decide +kernel
  exact key ⟨a, h⟩ ⟨s, hs⟩
/-- two bits more, as the code reckons them -/
theorem two_and (ka kb s : Nat) (hs : ((kb : Int) - (ka : Int)) % 4 = s) : bits .and .i64 ((kb : Int) - (ka : Int)) 3 = (s : Int) := (i64_and3 _).trans hs
theorem two_or (n s : Nat) (hn : n < 64) (hs : s < 4) : bits .or .u8 ((n : Int) * 4) (s : Int) = ((4 * n + s : Nat) : Int) := by
  rw [Int.mul_comm, u8_or4 _ _ hn hs]
  omega
/-- the row of bytes, as far as it is filled -/
def rowP (L : Nat) (s : Pk) : List UInt8 := (s.out ++ UInt8.ofNat s.n :: List.replicate L 0).take L
theorem rowP_len (L : Nat) (s : Pk) : (rowP L s).length = L := by unfold rowP; simp; omega
theorem rowP_start (L : Nat) : rowP L ⟨[], 0, 0⟩ = List.replicate L 0 := by
  unfold rowP
  have e : ([] : List UInt8) ++ UInt8.ofNat 0 :: List.replicate L 0 = List.replicate (L + 1) 0 := rfl
  rw [e, List.take_replicate, Nat.min_eq_left (by omega)]
theorem rowP_at (L : Nat) (s : Pk) (h : s.out.length < L) : (rowP L s)[s.out.length]'(by rw [rowP_len]; exact h) = UInt8.ofNat s.n := by
  unfold rowP
  simp
theorem rowP_end (L : Nat) (s : Pk) (h : s.out.length = L) : rowP L s = s.out := by
  unfold rowP
  rw [List.take_append_of_le_length (by omega), ← h, List.take_length]
theorem rowP_step (L : Nat) (s : Pk) (k : Int) (h : s.out.length < L) : rowP L (pkStep s k) = (rowP L s).set s.out.length (UInt8.ofNat (4 * s.n + k.toNat)) := by
  unfold rowP
  rw [← List.take_set, List.set_append_right _ _ (Nat.le_refl _), Nat.sub_self, List.set_cons_zero]
  unfold pkStep
  split
  · simp only
    obtain ⟨m, hm⟩ : ∃ m, L - s.out.length = m + 1 := ⟨L - s.out.length - 1, by omega⟩
    have e : UInt8.ofNat 0 :: List.replicate L (0 : UInt8) = List.replicate (L + 1) 0 := rfl
    rw [List.append_assoc, List.singleton_append, List.take_append, List.take_append, hm, List.take_succ_cons, List.take_succ_cons, e, List.take_replicate, List.take_replicate, Nat.min_eq_left (by omega), Nat.min_eq_left (by omega)]
  · rfl
theorem pk_cnt (l : List Int) : ∀ s : Pk, s.c < 4 → 4 * (l.foldl pkStep s).out.length + (l.foldl pkStep s).c = 4 * s.out.length + s.c + l.length := by
  induction l with
  | nil => intro s _; simp
  | cons k r ih =>
    intro s hc
    rw [List.foldl_cons]
    by_cases h : s.c = 3
    · have e : pkStep s k = ⟨s.out ++ [UInt8.ofNat (4 * s.n + k.toNat)], 0, 0⟩ := by unfold pkStep; rw [if_pos h]
      rw [ih _ (by rw [e]; show 0 < 4; omega), e]
      simp only [List.length_append, List.length_cons, List.length_nil]
      omega
    · have e : pkStep s k = ⟨s.out, 4 * s.n + k.toNat, s.c + 1⟩ := by unfold pkStep; rw [if_neg h]
      rw [ih _ (by rw [e]; show s.c + 1 < 4; omega), e]
      simp only [List.length_cons]
      omega
end Go.Proofs.Ytmpelpmgpklidaa
