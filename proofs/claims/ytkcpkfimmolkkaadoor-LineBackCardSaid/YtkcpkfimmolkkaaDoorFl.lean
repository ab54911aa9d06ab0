/- Plain facts on floats: which bits stand for a small whole number (a zero with either sign), and what '+', '-', '*', comparisons and conversions make of them. Nothing of the program is in here. -/
import Derived.Laws.ComplexArith
namespace Go.Proofs.YtkcpkfimmolkkaaDoor
open Ieee

/-- the bits b stand for the whole number n -/
def Fl (b : Nat) (n : Int) : Prop :=
  n.natAbs < 9007199254740992 ∧ ∃ (s : Bool) (k : Nat), double.read b = .number s (n.natAbs * 2 ^ k) (-(k : Int)) ∧ (n < 0 → s = true) ∧ (0 < n → s = false)
theorem Fl.small {b : Nat} {n : Int} (h : Fl b n) : n.natAbs < 9007199254740992 := h.1

theorem cut_pow (way : Toward) (neg : Bool) (a d : Nat) : way.cut neg (a * 2 ^ d) d = a := by
  have key : (a * 2 ^ d) / (1 <<< min d ((a * 2 ^ d).log2 + 2)) = a ∧ (a * 2 ^ d) % (1 <<< min d ((a * 2 ^ d).log2 + 2)) = 0 := by
    rw [Nat.one_shiftLeft]
    by_cases h0 : a = 0
    · subst h0; simp
    · have h1 : d ≤ (a * 2 ^ d).log2 + 2 := by
        have h2 : 2 ^ d ≤ a * 2 ^ d := Nat.le_mul_of_pos_left _ (Nat.pos_of_ne_zero h0)
        have : d ≤ (a * 2 ^ d).log2 := (Nat.le_log2 (by have := Nat.two_pow_pos d; omega)).2 h2
        omega
      rw [Nat.min_eq_left h1]
      exact ⟨Nat.mul_div_cancel _ (Nat.two_pow_pos d), Nat.mul_mod_left _ _⟩
  unfold Toward.cut
  simp only [key.1, key.2]
  have hg : ∀ g : Nat, 0 < 1 <<< g := fun g => by rw [Nat.one_shiftLeft]; exact Nat.two_pow_pos g
  cases way with
  | even =>
    have := hg (min d ((a * 2 ^ d).log2 + 2))
    have e1 : decide (1 <<< min d ((a * 2 ^ d).log2 + 2) < 2 * 0) = false := by simp
    have e2 : (1 <<< min d ((a * 2 ^ d).log2 + 2) == 2 * 0) = false := by simp
    simp only [e1, e2]
    rfl
  | down => simp
  | up => simp
  | zero => simp

theorem double_sw : double.signWeight = 9223372036854775808 := by decide +kernel
theorem double_bin : double.binade = 4503599627370496 := by decide +kernel
theorem double_inf : double.infRung = 9218868437227405312 := by decide +kernel
theorem double_least : double.leastPlace = -1074 := by decide +kernel
theorem double_fb : double.fractionBits = 52 := rfl

set_option maxRecDepth 10000 in
theorem read_word (s : Bool) (q K : Nat) (hq : q ≤ 1000) (h1 : 4503599627370496 ≤ K) (h2 : K < 9007199254740992) :
    double.read (double.word s ((q + 1022) * 4503599627370496 + K)) = .number s K ((q : Int) - 52) := by
  have hr : (q + 1022) * 4503599627370496 + K < 9218868437227405312 := by omega
  have hb : 4503599627370496 ≤ (q + 1022) * 4503599627370496 + K := by omega
  have e1 : double.word s ((q + 1022) * 4503599627370496 + K) % 9223372036854775808 = (q + 1022) * 4503599627370496 + K := by
    unfold Format.word
    rw [double_sw]
    split <;> omega
  have e2 : (double.word s ((q + 1022) * 4503599627370496 + K) / 9223372036854775808 % 2 == 1) = s := by
    unfold Format.word
    rw [double_sw]
    cases s with
    | true => simp only [if_true]; rw [beq_iff_eq]; omega
    | false => simp only [Bool.false_eq_true, if_false]; rw [beq_eq_false_iff_ne]; omega
  have e3 : ((q + 1022) * 4503599627370496 + K) / 4503599627370496 = q + 1023 := by omega
  have e4 : ((q + 1022) * 4503599627370496 + K) % 4503599627370496 = K - 4503599627370496 := by omega
  have e5 : ¬ ((q + 1022) * 4503599627370496 + K < 4503599627370496) := by omega
  have e6 : 4503599627370496 + (K - 4503599627370496) = K := by omega
  have e7 : (-1074 : Int) + ((q + 1023 - 1 : Nat) : Int) = (q : Int) - 52 := by omega
  unfold Format.read
  generalize double.word s ((q + 1022) * 4503599627370496 + K) = W at *
  generalize (q + 1022) * 4503599627370496 + K = R at *
  rw [double_sw, double_bin, double_inf, double_least, e1, e2]
  dsimp only
  rw [e3, e4, if_neg e5, if_pos hr, e6, e7]
theorem read_zero (s : Bool) : double.read (double.word s 0) = .number s 0 (-1074) := by cases s <;> decide +kernel

/-- what is written of a small whole number is that number -/
theorem read_nearest (s : Bool) (a k : Nat) (ha : a < 9007199254740992) : ∃ k' : Nat, double.read (double.nearest s (a * 2 ^ k) (-(k : Int))) = .number s (a * 2 ^ k') (-(k' : Int)) := by
  by_cases h0 : a = 0
  · subst h0
    obtain ⟨k', hk'⟩ : ∃ k' : Nat, k' = 1074 := ⟨_, rfl⟩
    refine ⟨k', ?_⟩
    unfold Format.nearest
    rw [if_pos (Nat.zero_mul _), read_zero, Nat.zero_mul, hk']
    rfl
  · have hL : (a * 2 ^ k).log2 = a.log2 + k := by
      have hne : a * 2 ^ k ≠ 0 := Nat.mul_ne_zero h0 (by have := Nat.two_pow_pos k; omega)
      apply Nat.le_antisymm
      · have h1 : a * 2 ^ k < 2 ^ (a.log2 + k + 1) := by
          have := Nat.lt_log2_self (n := a)
          rw [show a.log2 + k + 1 = a.log2 + 1 + k by omega, Nat.pow_add]
          exact Nat.mul_lt_mul_of_pos_right this (Nat.two_pow_pos k)
        have := (Nat.log2_lt hne).2 h1
        omega
      · refine (Nat.le_log2 hne).2 ?_
        rw [Nat.pow_add]
        exact Nat.mul_le_mul_right _ (Nat.log2_self_le h0)
    have hq : a.log2 ≤ 52 := by
      have : a.log2 < 53 := (Nat.log2_lt h0).2 (by have : (2 : Nat) ^ 53 = 9007199254740992 := by decide +kernel
                                                   omega)
      omega
    obtain ⟨q, hqd⟩ : ∃ q, a.log2 = q := ⟨_, rfl⟩
    have hlo := Nat.log2_self_le h0
    have hhi := Nat.lt_log2_self (n := a)
    rw [hqd] at hL hq hlo hhi
    -- the significand
    have hK1 : 4503599627370496 ≤ a * 2 ^ (52 - q) := by
      have h1 : 2 ^ q * 2 ^ (52 - q) ≤ a * 2 ^ (52 - q) := Nat.mul_le_mul_right _ hlo
      rw [← Nat.pow_add, show q + (52 - q) = 52 by omega] at h1
      have : (2 : Nat) ^ 52 = 4503599627370496 := by decide +kernel
      omega
    have hK2 : a * 2 ^ (52 - q) < 9007199254740992 := by
      have h1 : a * 2 ^ (52 - q) < 2 ^ (q + 1) * 2 ^ (52 - q) := Nat.mul_lt_mul_of_pos_right hhi (Nat.two_pow_pos _)
      rw [← Nat.pow_add, show q + 1 + (52 - q) = 53 by omega] at h1
      have : (2 : Nat) ^ 53 = 9007199254740992 := by decide +kernel
      omega
    have hkept : Toward.even.cut s ((a * 2 ^ k) <<< (-(k : Int) - ((q : Int) - 52)).toNat) (((q : Int) - 52) - -(k : Int)).toNat = a * 2 ^ (52 - q) := by
      by_cases hk : 52 - q ≤ k
      · rw [show (-(k : Int) - ((q : Int) - 52)).toNat = 0 by omega, show (((q : Int) - 52) - -(k : Int)).toNat = k - (52 - q) by omega, Nat.shiftLeft_zero]
        have : a * 2 ^ k = a * 2 ^ (52 - q) * 2 ^ (k - (52 - q)) := by rw [Nat.mul_assoc, ← Nat.pow_add]; congr 2; omega
        rw [this]
        exact cut_pow _ _ _ _
      · rw [show (-(k : Int) - ((q : Int) - 52)).toNat = (52 - q) - k by omega, show (((q : Int) - 52) - -(k : Int)).toNat = 0 by omega, Nat.shiftLeft_eq, Nat.mul_assoc, ← Nat.pow_add, show k + (52 - q - k) = 52 - q by omega]
        have := cut_pow .even s (a * 2 ^ (52 - q)) 0
        simpa using this
    refine ⟨52 - q, ?_⟩
    have hne : a * 2 ^ k ≠ 0 := Nat.mul_ne_zero h0 (by have := Nat.two_pow_pos k; omega)
    have hlast : max (-(k : Int) + ((a * 2 ^ k).log2 : Int) - (52 : Nat)) (-1074) = (q : Int) - 52 := by
      rw [hL]
      push_cast
      omega
    unfold Format.nearest
    rw [if_neg hne]
    simp only [double_least, double_bin, double_inf, double_fb]
    rw [hlast, hkept, show (((q : Int) - 52) - -1074).toNat = q + 1022 by omega]
    generalize a * 2 ^ (52 - q) = KK at *
    rw [Nat.min_eq_left (by omega)]
    rw [read_word s q _ (by omega) hK1 hK2]
    congr 1
    omega

/-- any number whose bits are written of an exact datum -/
theorem fl_write (s : Bool) (n : Int) (k : Nat) (hn : n.natAbs < 9007199254740992) (h1 : n < 0 → s = true) (h2 : 0 < n → s = false) : Fl (double.write (.number s (n.natAbs * 2 ^ k) (-(k : Int)))) n := by
  obtain ⟨k', hk⟩ := read_nearest s n.natAbs k hn
  exact ⟨hn, s, k', hk, h1, h2⟩
theorem fl_int (n : Int) (hn : n.natAbs < 9007199254740992) : Fl (floatOfInt .f64 n) n := by
  have := fl_write (decide (n < 0)) n 0 hn (fun h => by simpa using h) (fun h => by simp; omega)
  rw [Nat.pow_zero, Nat.mul_one] at this
  exact this
theorem signed_eq {s : Bool} {n : Int} (k u : Nat) (h1 : n < 0 → s = true) (h2 : 0 < n → s = false) : signed s (n.natAbs * 2 ^ k) u = n * 2 ^ (k + u) := by
  have e : ((n.natAbs * 2 ^ k) <<< u : Nat) = n.natAbs * 2 ^ (k + u) := by rw [Nat.shiftLeft_eq, Nat.mul_assoc, ← Nat.pow_add]
  unfold signed
  rw [e]
  have c : ((n.natAbs * 2 ^ (k + u) : Nat) : Int) = (n.natAbs : Int) * 2 ^ (k + u) := by push_cast; rfl
  rcases Int.lt_trichotomy n 0 with h | h | h
  · rw [h1 h, if_pos rfl, c, show (n.natAbs : Int) = -n by omega, Int.neg_mul, Int.neg_neg]
  · subst h; simp
  · rw [h2 h, if_neg (by simp), c, show (n.natAbs : Int) = n by omega]
theorem natAbs_pow (n : Int) (k : Nat) : (n * 2 ^ k).natAbs = n.natAbs * 2 ^ k := by
  rw [Int.natAbs_mul, Int.natAbs_pow]; rfl
theorem pow_pos_int (k : Nat) : (0 : Int) < 2 ^ k := Int.pow_pos (by decide)

theorem sum_exact {s t : Bool} {m n : Int} {i j : Nat} (hs1 : m < 0 → s = true) (hs2 : 0 < m → s = false) (ht1 : n < 0 → t = true) (ht2 : 0 < n → t = false) (hb : (m + n).natAbs < 9007199254740992) :
    ∃ d, Datum.sum (.number s (m.natAbs * 2 ^ i) (-(i : Int))) (.number t (n.natAbs * 2 ^ j) (-(j : Int))) = some d ∧ Fl (double.write d) (m + n) := by
  obtain ⟨K, hK⟩ : ∃ K : Nat, min (-(i : Int)) (-(j : Int)) = -(K : Int) := ⟨max i j, by omega⟩
  have hi : i ≤ K := by omega
  have hj : j ≤ K := by omega
  have e1 : signed s (m.natAbs * 2 ^ i) (-(i : Int) - -(K : Int)).toNat = m * 2 ^ K := by rw [signed_eq i _ hs1 hs2]; congr 2; omega
  have e2 : signed t (n.natAbs * 2 ^ j) (-(j : Int) - -(K : Int)).toNat = n * 2 ^ K := by rw [signed_eq j _ ht1 ht2]; congr 2; omega
  have e3 : m * 2 ^ K + n * 2 ^ K = (m + n) * 2 ^ K := by rw [Int.add_mul]
  refine ⟨.number (if (m + n) * 2 ^ K = 0 then s && t else decide ((m + n) * 2 ^ K < 0)) ((m + n) * 2 ^ K).natAbs (-(K : Int)), by simp only [Datum.sum, hK, e1, e2, e3], ?_⟩
  rw [natAbs_pow]
  have hp := pow_pos_int K
  refine fl_write _ _ K hb (fun h => ?_) (fun h => ?_)
  · have : (m + n) * 2 ^ K < 0 := Int.mul_neg_of_neg_of_pos h hp
    rw [if_neg (by omega)]
    simpa using this
  · have : 0 < (m + n) * 2 ^ K := Int.mul_pos h hp
    rw [if_neg (by omega)]
    simp; omega
theorem fl_add {a b : Nat} {m n : Int} (ha : Fl a m) (hb : Fl b n) (h : (m + n).natAbs < 9007199254740992) : ∃ r, floatBits .add .f64 a b = some r ∧ Fl r (m + n) := by
  obtain ⟨-, s, i, e1, s1, s2⟩ := ha
  obtain ⟨-, t, j, e2, t1, t2⟩ := hb
  obtain ⟨d, h1, h2⟩ := sum_exact (i := i) (j := j) s1 s2 t1 t2 h
  refine ⟨double.write d, ?_, h2⟩
  show (Datum.sum (double.read a) (double.read b)).map double.write = _
  rw [e1, e2, h1]
  rfl
theorem fl_sub {a b : Nat} {m n : Int} (ha : Fl a m) (hb : Fl b n) (h : (m - n).natAbs < 9007199254740992) : ∃ r, floatBits .sub .f64 a b = some r ∧ Fl r (m - n) := by
  obtain ⟨-, s, i, e1, s1, s2⟩ := ha
  obtain ⟨-, t, j, e2, t1, t2⟩ := hb
  obtain ⟨d, h1, h2⟩ := sum_exact (m := m) (n := -n) (s := s) (t := !t) (i := i) (j := j) s1 s2 (fun h => by rw [t2 (by omega)]; rfl) (fun h => by rw [t1 (by omega)]; rfl) (by rw [← Int.sub_eq_add_neg]; exact h)
  refine ⟨double.write d, ?_, by rw [← Int.sub_eq_add_neg] at h2; exact h2⟩
  show (Datum.sum (double.read a) (double.read b).opposite).map double.write = _
  rw [Int.natAbs_neg] at h1
  rw [e1, e2]
  show (Datum.sum _ (.number (!t) _ _)).map double.write = _
  rw [h1]
  rfl
theorem fl_mul {a b : Nat} {m n : Int} (ha : Fl a m) (hb : Fl b n) (h : (m * n).natAbs < 9007199254740992) : ∃ r, floatBits .mul .f64 a b = some r ∧ Fl r (m * n) := by
  obtain ⟨-, s, i, e1, s1, s2⟩ := ha
  obtain ⟨-, t, j, e2, t1, t2⟩ := hb
  refine ⟨double.write (.number (s ^^ t) ((m * n).natAbs * 2 ^ (i + j)) (-((i + j : Nat) : Int))), ?_, fl_write _ _ _ h (fun h => ?_) (fun h => ?_)⟩
  · show (Datum.product (double.read a) (double.read b)).map double.write = _
    rw [e1, e2]
    have e3 : m.natAbs * 2 ^ i * (n.natAbs * 2 ^ j) = (m * n).natAbs * 2 ^ (i + j) := by
      rw [Int.natAbs_mul, Nat.pow_add, Nat.mul_mul_mul_comm]
    have e4 : -(i : Int) + -(j : Int) = -((i + j : Nat) : Int) := by push_cast; omega
    simp only [Datum.product, e3, e4, Option.map_some]
  · rcases Int.lt_trichotomy m 0 with hm | hm | hm
    · rcases Int.lt_trichotomy n 0 with hn | hn | hn
      · have := Int.mul_pos_of_neg_of_neg hm hn; omega
      · subst hn; simp at h
      · rw [s1 hm, t2 hn]; rfl
    · subst hm; simp at h
    · rcases Int.lt_trichotomy n 0 with hn | hn | hn
      · rw [s2 hm, t1 hn]; rfl
      · subst hn; simp at h
      · have := Int.mul_pos hm hn; omega
  · rcases Int.lt_trichotomy m 0 with hm | hm | hm
    · rcases Int.lt_trichotomy n 0 with hn | hn | hn
      · rw [s1 hm, t1 hn]; rfl
      · subst hn; simp at h
      · have := Int.mul_neg_of_neg_of_pos hm hn; omega
    · subst hm; simp at h
    · rcases Int.lt_trichotomy n 0 with hn | hn | hn
      · have := Int.mul_neg_of_pos_of_neg hm hn; omega
      · subst hn; simp at h
      · rw [s2 hm, t2 hn]; rfl
theorem compare_pow (m n : Int) (K : Nat) : compare (m * 2 ^ K) (n * 2 ^ K) = compare m n := by
  have hp := pow_pos_int K
  rcases Int.lt_trichotomy m n with h | h | h
  · rw [Int.compare_eq_lt.2 h, Int.compare_eq_lt.2 (Int.mul_lt_mul_of_pos_right h hp)]
  · subst h; rw [Int.compare_eq_eq.2 rfl, Int.compare_eq_eq.2 rfl]
  · rw [Int.compare_eq_gt.2 h, Int.compare_eq_gt.2 (Int.mul_lt_mul_of_pos_right h hp)]
theorem fl_order {a b : Nat} {m n : Int} (ha : Fl a m) (hb : Fl b n) : double.order a b = some (compare m n) := by
  obtain ⟨-, s, i, e1, s1, s2⟩ := ha
  obtain ⟨-, t, j, e2, t1, t2⟩ := hb
  obtain ⟨K, hK⟩ : ∃ K : Nat, min (-(i : Int)) (-(j : Int)) = -(K : Int) := ⟨max i j, by omega⟩
  have hi : i ≤ K := by omega
  have hj : j ≤ K := by omega
  have c1 : signed s (m.natAbs * 2 ^ i) (-(i : Int) - -(K : Int)).toNat = m * 2 ^ K := by rw [signed_eq i _ s1 s2]; congr 2; omega
  have c2 : signed t (n.natAbs * 2 ^ j) (-(j : Int) - -(K : Int)).toNat = n * 2 ^ K := by rw [signed_eq j _ t1 t2]; congr 2; omega
  unfold Format.order
  rw [e1, e2]
  simp only [Datum.order, hK, c1, c2, compare_pow]
theorem fl_toInt {a : Nat} {n : Int} (ha : Fl a n) : floatToIntVal .f64 a .i64 = some n := by
  obtain ⟨h, s, i, e1, s1, s2⟩ := ha
  have e2 : (FloatKind.decode .f64 a).toInt .zero = some n := by
    show (double.read a).toInt .zero = some n
    rw [e1]
    unfold Datum.toInt Datum.integral
    simp only
    rw [show (-(i : Int)).toNat = 0 by omega, show (- -(i : Int)).toNat = i by omega, Nat.shiftLeft_zero, cut_pow]
    have := signed_eq (n := n) 0 0 s1 s2
    simpa using this
  unfold floatToIntVal
  rw [e2]
  simp only
  rw [if_pos (by constructor <;> simp [IntKind.min, IntKind.max, IntKind.bits, IntKind.signed] <;> omega)]
theorem fl_zero : Fl 0 0 := by
  obtain ⟨k, hk⟩ : ∃ k : Nat, k = 1074 := ⟨_, rfl⟩
  refine ⟨by decide, false, k, ?_, fun h => absurd h (by decide), fun h => absurd h (by decide)⟩
  rw [Int.natAbs_zero, Nat.zero_mul, hk]
  exact read_zero false
theorem fl_one : Fl 4607182418800017408 1 := ⟨by decide, false, 52, by decide +kernel, fun h => absurd h (by decide), fun _ => rfl⟩
theorem fl_minus : Fl 13830554455654793216 (-1) := ⟨by decide, true, 52, by decide +kernel, fun _ => rfl, fun h => absurd h (by decide)⟩
theorem fl_hi : Fl 4787326403894837248 1099511627776 := ⟨by decide, false, 12, by decide +kernel, fun h => absurd h (by decide), fun _ => rfl⟩
theorem fl_lo : Fl 14010698440749613056 (-1099511627776) := ⟨by decide, true, 12, by decide +kernel, fun _ => rfl, fun h => absurd h (by decide)⟩
/-- z times i -/
theorem fl_turn {a b : Nat} {p : Int × Int} (ha : Fl a p.1) (hb : Fl b p.2) : ∃ c d, cMulBits a b 0 4607182418800017408 = some (c, d) ∧ Fl c (-p.2) ∧ Fl d p.1 := by
  have h1 := ha.small
  have h2 := hb.small
  obtain ⟨ac, e1, f1⟩ := fl_mul ha fl_zero (by simp)
  obtain ⟨bd, e2, f2⟩ := fl_mul hb fl_one (by simpa using h2)
  rw [Int.mul_zero] at f1
  rw [Int.mul_one] at f2
  obtain ⟨x, e3, f3⟩ := fl_sub f1 f2 (by omega)
  obtain ⟨ad, e4, f4⟩ := fl_mul ha fl_one (by simpa using h1)
  obtain ⟨bc, e5, f5⟩ := fl_mul hb fl_zero (by simp)
  rw [Int.mul_one] at f4
  rw [Int.mul_zero] at f5
  obtain ⟨y, e6, f6⟩ := fl_add f4 f5 (by omega)
  rw [Int.zero_sub] at f3
  rw [Int.add_zero] at f6
  exact ⟨x, y, by simp [cMulBits, e1, e2, e3, e4, e5, e6], f3, f6⟩
/-- are two numbers the same -/
theorem fl_eq {a b : Nat} {m n : Int} (ha : Fl a m) (hb : Fl b n) : (FloatKind.f64.format.order a b == some .eq) = decide (m = n) := by
  show (double.order a b == some .eq) = _
  rw [fl_order ha hb]
  rcases Int.lt_trichotomy m n with h | h | h
  · rw [Int.compare_eq_lt.2 h, decide_eq_false (by omega)]; rfl
  · rw [Int.compare_eq_eq.2 h, decide_eq_true h]; rfl
  · rw [Int.compare_eq_gt.2 h, decide_eq_false (by omega)]; rfl
theorem fl_ge {a b : Nat} {m n : Int} (ha : Fl a m) (hb : Fl b n) : (FloatKind.f64.format.order a b == some .gt || FloatKind.f64.format.order a b == some .eq) = decide (n ≤ m) := by
  show (double.order a b == some .gt || double.order a b == some .eq) = _
  rw [fl_order ha hb]
  rcases Int.lt_trichotomy m n with h | h | h
  · rw [Int.compare_eq_lt.2 h, decide_eq_false (by omega)]; rfl
  · rw [Int.compare_eq_eq.2 h, decide_eq_true (by omega)]; rfl
  · rw [Int.compare_eq_gt.2 h, decide_eq_true (by omega)]; rfl
theorem fl_le {a b : Nat} {m n : Int} (ha : Fl a m) (hb : Fl b n) : (FloatKind.f64.format.order a b == some .lt || FloatKind.f64.format.order a b == some .eq) = decide (m ≤ n) := by
  show (double.order a b == some .lt || double.order a b == some .eq) = _
  rw [fl_order ha hb]
  rcases Int.lt_trichotomy m n with h | h | h
  · rw [Int.compare_eq_lt.2 h, decide_eq_true (by omega)]; rfl
  · rw [Int.compare_eq_eq.2 h, decide_eq_true (by omega)]; rfl
  · rw [Int.compare_eq_gt.2 h, decide_eq_false (by omega)]; rfl
theorem fl_lt {a b : Nat} {m n : Int} (ha : Fl a m) (hb : Fl b n) : (FloatKind.f64.format.order a b == some .lt) = decide (m < n) := by
  show (double.order a b == some .lt) = _
  rw [fl_order ha hb]
  rcases Int.lt_trichotomy m n with h | h | h
  · rw [Int.compare_eq_lt.2 h, decide_eq_true (by omega)]; rfl
  · rw [Int.compare_eq_eq.2 h, decide_eq_false (by omega)]; rfl
  · rw [Int.compare_eq_gt.2 h, decide_eq_false (by omega)]; rfl
end Go.Proofs.YtkcpkfimmolkkaaDoor
