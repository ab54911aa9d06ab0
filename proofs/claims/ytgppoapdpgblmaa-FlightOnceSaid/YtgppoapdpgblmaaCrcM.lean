/- Plain facts on the sum of layer 2: one step, eight steps for a byte, why four bytes side by side that are other ones are told. No program is named here. -/
import Derived.Laws.BitsAllLaws
namespace Go.Proofs.Ytgppoapdpgblmaa

/-- one of the eight steps -/
def cstep (x : Nat) : Nat := if x % 2 = 1 then x / 2 ^^^ 3988292384 else x / 2
def csteps (x : Nat) : Nat → Nat
  | 0 => x
  | k + 1 => csteps (cstep x) k
def cbyte (x : Nat) (b : UInt8) : Nat := csteps (x ^^^ b.toNat) 8
def feed (x : Nat) (l : List UInt8) : Nat := l.foldl cbyte x
def crcMore (s : Nat) (l : List UInt8) : Nat := feed (s ^^^ 4294967295) l ^^^ 4294967295
def crcOf (l : List UInt8) : Nat := feed 4294967295 l ^^^ 4294967295

theorem cstep_lt (x : Nat) (h : x < 4294967296) : cstep x < 4294967296 := by
  unfold cstep
  split
  · exact Nat.xor_lt_two_pow (n := 32) (by omega) (by omega)
  · omega
theorem csteps_lt (k : Nat) : ∀ x, x < 4294967296 → csteps x k < 4294967296 := by
  induction k with
  | zero => exact fun x h => h
  | succ k ih => exact fun x h => ih _ (cstep_lt x h)
theorem xor_lt (x y : Nat) (hx : x < 4294967296) (hy : y < 4294967296) : x ^^^ y < 4294967296 := Nat.xor_lt_two_pow (n := 32) hx hy
theorem cbyte_lt (x : Nat) (b : UInt8) (h : x < 4294967296) : cbyte x b < 4294967296 := csteps_lt 8 _ (xor_lt _ _ h (by have := b.toNat_lt; omega))
theorem feed_lt (l : List UInt8) : ∀ x, x < 4294967296 → feed x l < 4294967296 := by
  induction l with
  | nil => exact fun x h => h
  | cons b l ih => exact fun x h => ih _ (cbyte_lt x b h)
theorem feed_append (x : Nat) (l m : List UInt8) : feed x (l ++ m) = feed (feed x l) m := by simp [feed, List.foldl_append]
theorem feed_snoc (x : Nat) (l : List UInt8) (b : UInt8) : feed x (l ++ [b]) = cbyte (feed x l) b := by simp [feed, List.foldl_append]

theorem xor_half (x y : Nat) : (x ^^^ y) / 2 = x / 2 ^^^ y / 2 := by
  apply Nat.eq_of_testBit_eq
  intro i
  simp [Nat.testBit_div_two, Nat.testBit_xor]
theorem xor_par (x y : Nat) : (x ^^^ y) % 2 = (x % 2 + y % 2) % 2 := by
  have h := congrArg Bool.toNat (Nat.testBit_xor x y 0)
  simp only [Nat.testBit_zero] at h
  rcases Nat.mod_two_eq_zero_or_one x with hx | hx <;> rcases Nat.mod_two_eq_zero_or_one y with hy | hy <;> rcases Nat.mod_two_eq_zero_or_one (x ^^^ y) with hz | hz <;> simp [hx, hy, hz] at h ⊢
theorem cstep_xor (x y : Nat) : cstep (x ^^^ y) = cstep x ^^^ cstep y := by
  unfold cstep
  rw [xor_half, xor_par]
  rcases Nat.mod_two_eq_zero_or_one x with hx | hx <;> rcases Nat.mod_two_eq_zero_or_one y with hy | hy
  · simp [hx, hy]
  · simp [hx, hy, Nat.xor_assoc]
  · simp [hx, hy]
    rw [Nat.xor_assoc, Nat.xor_comm (y / 2), ← Nat.xor_assoc]
  · simp [hx, hy]
    rw [Nat.xor_assoc, ← Nat.xor_assoc 3988292384, Nat.xor_comm 3988292384 (y / 2), Nat.xor_assoc (y / 2), Nat.xor_self, Nat.xor_zero]
theorem csteps_xor (k : Nat) : ∀ x y, csteps (x ^^^ y) k = csteps x k ^^^ csteps y k := by
  induction k with
  | zero => exact fun _ _ => rfl
  | succ k ih => exact fun x y => by simp only [csteps, cstep_xor, ih]
theorem cstep_zero (x : Nat) (hx : x < 4294967296) (h : cstep x = 0) : x = 0 := by
  unfold cstep at h
  split at h
  · have : x / 2 = 3988292384 := by
      have := congrArg (· ^^^ 3988292384) h
      simp only [Nat.xor_assoc, Nat.xor_self, Nat.xor_zero, Nat.zero_xor] at this
      exact this
    omega
  · omega
theorem csteps_zero (k : Nat) : ∀ x, x < 4294967296 → csteps x k = 0 → x = 0 := by
  induction k with
  | zero => exact fun _ _ h => h
  | succ k ih => exact fun x hx h => cstep_zero x hx (ih _ (cstep_lt x hx) h)
theorem csteps_add (j : Nat) : ∀ k x, csteps x (j + k) = csteps (csteps x j) k := by
  induction j with
  | zero => intro k x; simp [csteps]
  | succ j ih => intro k x; rw [Nat.add_right_comm]; exact ih k (cstep x)
theorem csteps_shift (k : Nat) : ∀ z, csteps (z * 2 ^ k) k = z := by
  induction k with
  | zero => intro z; simp [csteps]
  | succ k ih =>
    intro z
    have : cstep (z * 2 ^ (k + 1)) = z * 2 ^ k := by
      unfold cstep
      have e : z * 2 ^ (k + 1) = 2 * (z * 2 ^ k) := by rw [Nat.pow_succ]; simp only [Nat.mul_comm, Nat.mul_left_comm]
      rw [e, if_neg (by omega)]
      omega
    show csteps (cstep (z * 2 ^ (k + 1))) k = z
    rw [this, ih]
theorem csteps_nil (k : Nat) : csteps 0 k = 0 := by
  have := csteps_shift k 0
  simpa using this

/-- any number as its low byte and the rest -/
theorem low_split (z : Nat) : z = z % 256 ^^^ (z / 256) * 2 ^ 8 := by
  have hj := nat_join 8 ((z / 256) * 2 ^ 8) (z % 256) (Nat.mul_mod_left _ _) (Nat.mod_lt _ (by decide))
  have hx : (z / 256) * 2 ^ 8 ^^^ z % 256 = (z / 256) * 2 ^ 8 ||| z % 256 := by
    apply Nat.eq_of_testBit_eq
    intro i
    rw [Nat.testBit_xor, Nat.testBit_or]
    by_cases hi : i < 8
    · have : ((z / 256) * 2 ^ 8).testBit i = false := by
        rw [Nat.testBit_mul_two_pow]; simp; omega
      simp [this]
    · have : (z % 256).testBit i = false := by
        have := Nat.testBit_mod_two_pow z 8 i
        simp only [Nat.reducePow] at this
        rw [this]; simp [hi]
      simp [this]
  rw [Nat.xor_comm, hx, hj]
  omega
/-- a table's row for each low byte -/
theorem cbyte_table (x : Nat) (b : UInt8) : cbyte x b = csteps ((x ^^^ b.toNat) % 256) 8 ^^^ x / 256 := by
  have hb := b.toNat_lt
  unfold cbyte
  have hd : (x ^^^ b.toNat) / 256 = x / 256 := by
    have := Nat.xor_div_two_pow (a := x) (b := b.toNat) (n := 8)
    simp only [Nat.reducePow] at this
    rw [this, Nat.div_eq_of_lt hb, Nat.xor_zero]
  generalize hz : x ^^^ b.toNat = z at *
  have e := low_split z
  rw [hd] at e
  conv => lhs; rw [e]
  rw [csteps_xor, csteps_shift]

/-- so many bytes of a number, the lowest first -/
def leB (y : Nat) : Nat → List UInt8
  | 0 => []
  | k + 1 => UInt8.ofNat y :: leB (y / 256) k
theorem leB_length (k : Nat) : ∀ y, (leB y k).length = k := by
  induction k with
  | zero => exact fun _ => rfl
  | succ k ih => exact fun y => by simp [leB, ih]
theorem feed_leB (k : Nat) : ∀ x y, y < 256 ^ k → feed x (leB y k) = csteps (x ^^^ y) (8 * k) := by
  induction k with
  | zero =>
    intro x y h
    have : y = 0 := by simp at h; omega
    subst this
    simp [leB, feed, csteps]
  | succ k ih =>
    intro x y h
    have hy : y / 256 < 256 ^ k := by
      rw [Nat.pow_succ] at h
      exact Nat.div_lt_of_lt_mul (by rw [Nat.mul_comm]; exact h)
    show feed (cbyte x (UInt8.ofNat y)) (leB (y / 256) k) = _
    rw [ih _ _ hy]
    have e := low_split y
    have hb : (UInt8.ofNat y).toNat = y % 256 := by rw [UInt8.toNat_ofNat']
    have e8 : csteps (x ^^^ y) 8 = cbyte x (UInt8.ofNat y) ^^^ y / 256 := by
      conv => lhs; rw [e]
      rw [← Nat.xor_assoc, csteps_xor, csteps_shift, cbyte, hb]
    rw [show 8 * (k + 1) = 8 + 8 * k from by omega, csteps_add, e8]
theorem cbyte_xor (x d : Nat) (b y : UInt8) : cbyte (x ^^^ d) (b ^^^ y) = cbyte x b ^^^ cbyte d y := by
  unfold cbyte
  rw [UInt8.toNat_xor, ← csteps_xor]
  congr 1
  rw [Nat.xor_assoc, ← Nat.xor_assoc d, Nat.xor_comm d, Nat.xor_assoc b.toNat, ← Nat.xor_assoc x]
theorem feed_xor : ∀ (l m : List UInt8) (x d : Nat), l.length = m.length → feed (x ^^^ d) (List.zipWith (· ^^^ ·) l m) = feed x l ^^^ feed d m
  | [], [], _, _, _ => rfl
  | [], _ :: _, _, _, h => by simp at h
  | _ :: _, [], _, _, h => by simp at h
  | b :: l, y :: m, x, d, h => by
    show feed (cbyte (x ^^^ d) (b ^^^ y)) (List.zipWith (· ^^^ ·) l m) = feed (cbyte x b) l ^^^ feed (cbyte d y) m
    rw [cbyte_xor]
    exact feed_xor l m _ _ (by simpa using h)
/-- the same bytes behind a difference -/
theorem feed_diff : ∀ (l : List UInt8) (x d : Nat), feed (x ^^^ d) l = feed x l ^^^ csteps d (8 * l.length)
  | [], x, d => by simp [feed, csteps]
  | b :: l, x, d => by
    show feed (cbyte (x ^^^ d) b) l = feed (cbyte x b) l ^^^ _
    have e : cbyte (x ^^^ d) b = cbyte x b ^^^ csteps d 8 := by
      unfold cbyte
      rw [Nat.xor_assoc, Nat.xor_comm d, ← Nat.xor_assoc, csteps_xor]
    rw [e, feed_diff l, List.length_cons, show 8 * (l.length + 1) = 8 + 8 * l.length from by omega, csteps_add]
/-- a burst of at most four bytes always turns the sum's state -/
theorem burst (i : Nat) (a m c : List UInt8) (d : Nat) (hm : m.length = 4) (hd : d < 4294967296) (h0 : d ≠ 0) :
    feed i (a ++ List.zipWith (· ^^^ ·) m (leB d 4) ++ c) ≠ feed i (a ++ m ++ c) := by
  intro h
  rw [feed_append, feed_append, feed_append, feed_append] at h
  have e := feed_xor m (leB d 4) (feed i a) 0 (by rw [hm, leB_length])
  rw [Nat.xor_zero] at e
  rw [e, feed_diff, feed_leB 4 0 d (by simpa using hd), Nat.zero_xor] at h
  have h2 := congrArg (feed (feed (feed i a) m) c ^^^ ·) h
  simp only [← Nat.xor_assoc, Nat.xor_self, Nat.zero_xor] at h2
  have h3 := csteps_zero _ _ (csteps_lt _ _ hd) h2
  exact h0 (csteps_zero _ _ hd h3)
/-- what Put tells is what the state shows -/
theorem check_iff (l : List UInt8) (s : Nat) (hs : s < 4294967296) : feed 4294967295 (l ++ leB s 4) = csteps 4294967295 32 ↔ s = crcOf l := by
  have hf := feed_lt l 4294967295 (by decide)
  rw [feed_append, feed_leB 4 _ s (by simpa using hs)]
  unfold crcOf
  constructor
  · intro h
    have h2 := congrArg (csteps 4294967295 32 ^^^ ·) h
    simp only [Nat.xor_self] at h2
    rw [← csteps_xor] at h2
    have h3 := csteps_zero _ _ (xor_lt _ _ (by decide) (xor_lt _ _ hf hs)) h2
    have h4 := congrArg (feed 4294967295 l ^^^ 4294967295 ^^^ ·) h3
    simp only [Nat.xor_zero] at h4
    rw [← h4]
    rw [Nat.xor_assoc, ← Nat.xor_assoc 4294967295 4294967295, Nat.xor_self, Nat.zero_xor, ← Nat.xor_assoc, Nat.xor_self, Nat.zero_xor]
  · intro h
    subst h
    rw [← Nat.xor_assoc, Nat.xor_self, Nat.zero_xor]
theorem leB_inj (k : Nat) : ∀ x y, x < 256 ^ k → y < 256 ^ k → leB x k = leB y k → x = y := by
  induction k with
  | zero => intro x y hx hy _; simp at hx hy; omega
  | succ k ih =>
    intro x y hx hy h
    simp only [leB, List.cons.injEq] at h
    rw [Nat.pow_succ] at hx hy
    have h1 := congrArg UInt8.toNat h.1
    simp only [UInt8.toNat_ofNat'] at h1
    have h2 := ih _ _ (Nat.div_lt_of_lt_mul (by rw [Nat.mul_comm]; exact hx)) (Nat.div_lt_of_lt_mul (by rw [Nat.mul_comm]; exact hy)) h.2
    omega
/-- a list of bytes is its number's bytes -/
def leN (l : List UInt8) : Nat := l.foldr (fun b n => b.toNat + 256 * n) 0
theorem leN_lt (l : List UInt8) : leN l < 256 ^ l.length := by
  induction l with
  | nil => simp [leN]
  | cons b l ih =>
    have hb := b.toNat_lt
    simp only [leN, List.foldr_cons, List.length_cons, Nat.pow_succ] at ih ⊢
    omega
theorem leB_leN (l : List UInt8) : leB (leN l) l.length = l := by
  induction l with
  | nil => rfl
  | cons b l ih =>
    have hb := b.toNat_lt
    have e : leN (b :: l) = b.toNat + 256 * leN l := rfl
    rw [List.length_cons, leB, e]
    have h1 : UInt8.ofNat (b.toNat + 256 * leN l) = b := by
      apply UInt8.toNat_inj.1
      rw [UInt8.toNat_ofNat']; omega
    have h2 : (b.toNat + 256 * leN l) / 256 = leN l := by omega
    rw [h1, h2, ih]
def crcPut (l : List UInt8) : List UInt8 := l ++ leB (crcOf l) 4
def crcChk (q : List UInt8) : Option (List UInt8) := if 4 ≤ q.length ∧ q = crcPut (q.take (q.length - 4)) then some (q.take (q.length - 4)) else none
theorem crcOf_lt (l : List UInt8) : crcOf l < 4294967296 := xor_lt _ _ (feed_lt l _ (by decide)) (by decide)
theorem crcPut_length (l : List UInt8) : (crcPut l).length = l.length + 4 := by simp [crcPut, leB_length]
theorem crcChk_put (l : List UInt8) : crcChk (crcPut l) = some l := by
  have h1 := crcPut_length l
  have h2 : (crcPut l).take ((crcPut l).length - 4) = l := by rw [h1]; simp [crcPut]
  unfold crcChk
  rw [h2, if_pos ⟨by omega, rfl⟩]
theorem feed_put (l : List UInt8) : feed 4294967295 (crcPut l) = csteps 4294967295 32 := (check_iff l _ (crcOf_lt l)).2 rfl
/-- P2.4 in plain words -/
theorem crcChk_burst (l : List UInt8) (a m c : List UInt8) (d : Nat) (hp : crcPut l = a ++ m ++ c) (hm : m.length = 4) (hd : d < 4294967296) (h0 : d ≠ 0) :
    crcChk (a ++ List.zipWith (· ^^^ ·) m (leB d 4) ++ c) = none := by
  have hb := burst 4294967295 a m c d hm hd h0
  rw [← hp, feed_put] at hb
  unfold crcChk
  rw [if_neg]
  rintro ⟨_, he⟩
  apply hb
  rw [he]
  exact feed_put _
end Go.Proofs.Ytgppoapdpgblmaa
