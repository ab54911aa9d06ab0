/- Plain facts on places that are told modulo some number. Nothing of the program is in here. -/
import Derived.Test.YtpidbgnlehikeaaWords
namespace Go.Proofs.Ytpidbgnlehikeaa
open Go.RowKit
set_option maxRecDepth 20000

def rgCheck (w m l : Int) : Int :=
  if l < 1 ∨ 4096 < l then 222 else if w < 1 ∨ l < w ∨ 64 < w then 220 else if m ≤ 2 * (w + l) ∨ 65536 < m then 221 else 0
def rgMod (p m : Int) : Int := if m < 1 then 0 else p % m
def rgAhead (f t m : Int) : Int := if m < 1 then 0 else rgMod (rgMod t m - rgMod f m) m
/-- of n places from i on the first one whose number is seq -/
def rgScan (base seq m : Int) : Nat → Nat → Option Int
  | 0, _ => none
  | n + 1, i => if rgMod (base + i) m = seq then some (base + i) else rgScan base seq m n (i + 1)
def rgNear (base span seq m : Int) : Option Int := if base < 0 ∨ 1152921504606846976 < base ∨ span < 0 ∨ 65536 < span ∨ m < 1 ∨ 65536 < m then none else rgScan base seq m span.toNat 0
theorem rgMod_range (p m : Int) (h : 1 ≤ m) : 0 ≤ rgMod p m ∧ rgMod p m < m := by
  unfold rgMod
  rw [if_neg (by omega)]
  exact ⟨Int.emod_nonneg _ (by omega), Int.emod_lt_of_pos _ (by omega)⟩
theorem rgAhead_range (f t m : Int) : 0 ≤ rgAhead f t m ∧ (m < 1 ∨ rgAhead f t m < m) := by
  unfold rgAhead
  split
  · exact ⟨by decide, .inl (by omega)⟩
  · have := rgMod_range (rgMod t m - rgMod f m) m (by omega)
    exact ⟨this.1, .inr this.2⟩
theorem rgMod_tmod (p m : Int) (h : 1 ≤ m) : rgMod p m = if p.tmod m < 0 then p.tmod m + m else p.tmod m := by
  unfold rgMod
  rw [if_neg (by omega)]
  by_cases hp : p < 0
  · have h1 : p.tmod m = -((-p) % m) := by
      have e : p = -(-p) := by omega
      rw [e, Int.neg_tmod, Int.tmod_eq_emod_of_nonneg (by omega)]
      simp
    have h2 := Int.emod_nonneg (-p) (show m ≠ 0 by omega)
    have h3 := Int.emod_lt_of_pos (-p) (show 0 < m by omega)
    by_cases hz : (-p) % m = 0
    · rw [h1, hz]
      have hd : m ∣ p := by
        have := Int.dvd_of_emod_eq_zero hz
        exact (Int.dvd_neg).1 this
      rw [if_neg (by decide), Int.emod_eq_zero_of_dvd hd]
      rfl
    · rw [h1, if_pos (by omega)]
      have e0 := Int.mul_ediv_add_emod (-p) m
      have e3 : p = (m - (-p) % m) + m * (-((-p) / m) - 1) := by
        rw [Int.mul_sub, Int.mul_neg]
        omega
      have e2 : p % m = (m - (-p) % m) % m := by
        conv => lhs; rw [e3]
        rw [Int.add_mul_emod_self_left]
      rw [e2, Int.emod_eq_of_lt (by omega) (by omega)]
      omega
  · rw [Int.tmod_eq_emod_of_nonneg (by omega), if_neg (by have := Int.emod_nonneg p (show m ≠ 0 by omega); omega)]
/-- P22.3 -/
theorem rg_enough (p q m d : Int) (hm : 1 ≤ m) (h1 : q ≠ p) (h2 : p - d ≤ q) (h3 : q ≤ p + d) (hd : d < m) : rgMod q m ≠ rgMod p m := by
  intro h
  unfold rgMod at h
  rw [if_neg (by omega), if_neg (by omega)] at h
  have e1 := Int.mul_ediv_add_emod q m
  have e2 := Int.mul_ediv_add_emod p m
  rw [h] at e1
  have e3 : q - p = m * (q / m - p / m) := by rw [Int.mul_sub]; omega
  generalize q / m - p / m = k at e3
  rcases Int.lt_trichotomy k 0 with hk | hk | hk
  · have : m * k ≤ m * (-1) := Int.mul_le_mul_of_nonneg_left (by omega) (by omega)
    omega
  · subst hk
    rw [Int.mul_zero] at e3
    omega
  · have : m * 1 ≤ m * k := Int.mul_le_mul_of_nonneg_left (by omega) (by omega)
    omega
theorem rgScan_step (base seq m : Int) (n i : Nat) (h : rgMod (base + i) m ≠ seq) : rgScan base seq m (n + 1) i = rgScan base seq m n (i + 1) := by
  show (if _ then _ else _) = _
  rw [if_neg h]
theorem rgScan_hit (base seq m : Int) (n i : Nat) (h : rgMod (base + i) m = seq) : rgScan base seq m (n + 1) i = some (base + i) := by
  show (if _ then _ else _) = _
  rw [if_pos h]
end Go.Proofs.Ytpidbgnlehikeaa
