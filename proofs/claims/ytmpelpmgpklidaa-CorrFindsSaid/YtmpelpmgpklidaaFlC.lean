/- Plain facts on complex numbers whose parts are small whole numbers: sums, differences, products, the second part turned about. Nothing of the program is in here. -/
import Derived.Test.YtmpelpmgpklidaaFl
import Derived.Test.YtmpelpmgpklidaaPhM
namespace Go.Proofs.Ytmpelpmgpklidaa

theorem fl_cmul {a b c d : Nat} {p q : Pt} (ha : Fl a p.1) (hb : Fl b p.2) (hc : Fl c q.1) (hd : Fl d q.2) (hp : -1000000 ≤ p.1 ∧ p.1 ≤ 1000000 ∧ -1000000 ≤ p.2 ∧ p.2 ≤ 1000000) (hq : -1000000 ≤ q.1 ∧ q.1 ≤ 1000000 ∧ -1000000 ≤ q.2 ∧ q.2 ≤ 1000000) :
    ∃ x y, cMulBits a b c d = some (x, y) ∧ Fl x (p.1 * q.1 - p.2 * q.2) ∧ Fl y (p.1 * q.2 + p.2 * q.1) := by
  have key : ∀ {m n : Int}, -1000000 ≤ m → m ≤ 1000000 → -1000000 ≤ n → n ≤ 1000000 → (m * n).natAbs ≤ 1000000000000 := fun {m n} h1 h2 h3 h4 => by
    rw [Int.natAbs_mul]
    exact Nat.le_trans (Nat.mul_le_mul (show m.natAbs ≤ 1000000 by omega) (show n.natAbs ≤ 1000000 by omega)) (by decide)
  have k1 := key hp.1 hp.2.1 hq.1 hq.2.1
  have k2 := key hp.2.2.1 hp.2.2.2 hq.2.2.1 hq.2.2.2
  have k3 := key hp.1 hp.2.1 hq.2.2.1 hq.2.2.2
  have k4 := key hp.2.2.1 hp.2.2.2 hq.1 hq.2.1
  obtain ⟨ac, e1, f1⟩ := fl_mul ha hc (by omega)
  obtain ⟨bd, e2, f2⟩ := fl_mul hb hd (by omega)
  obtain ⟨x, e3, f3⟩ := fl_sub f1 f2 (by omega)
  obtain ⟨ad, e4, f4⟩ := fl_mul ha hd (by omega)
  obtain ⟨bc, e5, f5⟩ := fl_mul hb hc (by omega)
  obtain ⟨y, e6, f6⟩ := fl_add f4 f5 (by omega)
  exact ⟨x, y, by simp [cMulBits, e1, e2, e3, e4, e5, e6], f3, f6⟩
theorem fl_cadd {a b c d : Nat} {p q : Pt} (ha : Fl a p.1) (hb : Fl b p.2) (hc : Fl c q.1) (hd : Fl d q.2) (h1 : (p.1 + q.1).natAbs < 9007199254740992) (h2 : (p.2 + q.2).natAbs < 9007199254740992) :
    ∃ x y, cSumBits .add .f64 a b c d = some (x, y) ∧ Fl x (p.1 + q.1) ∧ Fl y (p.2 + q.2) := by
  obtain ⟨x, e1, f1⟩ := fl_add ha hc h1
  obtain ⟨y, e2, f2⟩ := fl_add hb hd h2
  exact ⟨x, y, by simp [cSumBits, e1, e2], f1, f2⟩
/-- '-x' of a float -/
theorem fl_neg {a : Nat} {n : Int} (ha : Fl a n) : ∃ r, floatBits .sub .f64 0 a = some r ∧ Fl r (-n) := by
  have h := ha.small
  obtain ⟨r, e, f⟩ := fl_sub fl_zero ha (by omega)
  rw [Int.zero_sub] at f
  exact ⟨r, e, f⟩
theorem flip_low (b : Nat) : (b ^^^ 9223372036854775808) % 9223372036854775808 = b % 9223372036854775808 := by
  have h := Nat.xor_mod_two_pow (a := b) (b := 9223372036854775808) (n := 63)
  rw [show (2 : Nat) ^ 63 = 9223372036854775808 by decide +kernel, Nat.mod_self, Nat.xor_zero] at h
  exact h
theorem flip_high (b : Nat) : ((b ^^^ 9223372036854775808) / 9223372036854775808 % 2 == 1) = !(b / 9223372036854775808 % 2 == 1) := by
  have h := Nat.xor_div_two_pow (a := b) (b := 9223372036854775808) (n := 63)
  rw [show (2 : Nat) ^ 63 = 9223372036854775808 by decide +kernel, Nat.div_self (by decide)] at h
  rw [h]
  generalize b / 9223372036854775808 = x
  have h2 := Nat.xor_mod_two_pow (a := x) (b := 1) (n := 1)
  rw [Nat.pow_one] at h2
  rw [h2]
  have h3 : x % 2 = 0 ∨ x % 2 = 1 := by omega
  rcases h3 with h3 | h3 <;> rw [h3] <;> decide
theorem read_flip (b m : Nat) (s : Bool) (e : Int) (h : Ieee.double.read b = .number s m e) : Ieee.double.read (b ^^^ 9223372036854775808) = .number (!s) m e := by
  unfold Ieee.Format.read at h ⊢
  rw [double_sw] at h ⊢
  dsimp only at h ⊢
  rw [flip_low, flip_high]
  generalize (b / 9223372036854775808 % 2 == 1) = S at *
  generalize b % 9223372036854775808 = M at *
  by_cases h1 : M < Ieee.double.binade
  · rw [if_pos h1] at h ⊢
    simp only [Ieee.Datum.number.injEq] at h ⊢
    exact ⟨by rw [h.1], h.2.1, h.2.2⟩
  · rw [if_neg h1] at h ⊢
    by_cases h2 : M < Ieee.double.infRung
    · rw [if_pos h2] at h ⊢
      simp only [Ieee.Datum.number.injEq] at h ⊢
      exact ⟨by rw [h.1], h.2.1, h.2.2⟩
    · rw [if_neg h2] at h
      split at h <;> cases h
/-- '-x' of a float, as the machine does it: the sign turned -/
theorem fl_flip {a : Nat} {n : Int} (ha : Fl a n) : Fl (Op.negFloat .f64 a) (-n) := by
  obtain ⟨h, s, k, e1, s1, s2⟩ := ha
  refine ⟨by omega, !s, k, ?_, fun hn => by rw [s2 (by omega)]; rfl, fun hn => by rw [s1 (by omega)]; rfl⟩
  rw [Int.natAbs_neg]
  exact read_flip a _ s _ e1
end Go.Proofs.Ytmpelpmgpklidaa
