/- Plain facts on the register of fifteen bits: its steps, the bits and bytes that it makes, bytes xored with them. Nothing of the program is in here. -/
import Derived.KernelRfl
namespace Go.Proofs.Ytbeaeameaakphaa

def bitN (s : Nat) : Nat := (s / 16384 + s / 8192) % 2
def nextN (s : Nat) : Nat := (2 * s + bitN s) % 32768
theorem bitN_lt (s : Nat) : bitN s < 2 := Nat.mod_lt _ (by decide)
theorem nextN_lt (s : Nat) : nextN s < 32768 := Nat.mod_lt _ (by decide)
/-- the state that a number stands for -/
def ownN (i : Int) : Nat := (i % 32768).toNat
theorem ownN_lt (i : Int) : ownN i < 32768 := by unfold ownN; omega
theorem ownN_cast (i : Int) : (ownN i : Int) = i % 32768 := by unfold ownN; omega
theorem ownN_nat (s : Nat) (h : s < 32768) : ownN (s : Int) = s := by unfold ownN; omega
theorem nextN_zero (s : Nat) (h : s < 32768) : nextN s = 0 ↔ s = 0 := by unfold nextN bitN; omega
/-- so many steps -/
def stN : Nat → Nat → Nat
  | 0, s => s
  | k + 1, s => stN k (nextN s)
theorem stN_add (j k : Nat) : ∀ s, stN (j + k) s = stN k (stN j s) := by
  induction j with
  | zero => intro s; simp [stN]
  | succ j ih => intro s; rw [show j + 1 + k = (j + k) + 1 by omega]; exact ih (nextN s)
theorem stN_succ (k s : Nat) : stN (k + 1) s = nextN (stN k s) := stN_add k 1 s
theorem stN_lt (k : Nat) : ∀ s, s < 32768 → stN k s < 32768 := by
  induction k with
  | zero => intro s h; exact h
  | succ k ih => intro s _; exact ih _ (nextN_lt s)
theorem stN_zero (k : Nat) : ∀ s, s < 32768 → (stN k s = 0 ↔ s = 0) := by
  induction k with
  | zero => intro s _; exact Iff.rfl
  | succ k ih => intro s h; exact (ih _ (nextN_lt s)).trans (nextN_zero s h)
/-- the number of so many bits, the first the highest -/
def numN : Nat → Nat → Nat
  | 0, _ => 0
  | k + 1, s => 2 * numN k s + bitN (stN k s)
theorem numN_lt (k s : Nat) : numN k s < 2 ^ k := by
  induction k with
  | zero => exact Nat.one_pos
  | succ k ih =>
    have := bitN_lt (stN k s)
    simp only [numN, Nat.pow_succ]
    omega
def byteN (s : Nat) : UInt8 := UInt8.ofNat (numN 8 s)
theorem byteN_num (s : Nat) : (byteN s).toNat = numN 8 s := by
  have := numN_lt 8 s
  unfold byteN
  rw [UInt8.toNat_ofNat', Nat.mod_eq_of_lt (by omega)]
/-- so many bytes -/
def strmN : Nat → Nat → List UInt8
  | 0, _ => []
  | n + 1, s => byteN s :: strmN n (stN 8 s)
theorem strmN_len (n : Nat) : ∀ s, (strmN n s).length = n := by
  induction n with
  | zero => intro s; rfl
  | succ n ih => intro s; simp [strmN, ih]
theorem strmN_add (m n : Nat) : ∀ s, strmN (m + n) s = strmN m s ++ strmN n (stN (8 * m) s) := by
  induction m with
  | zero => intro s; simp [strmN, stN]
  | succ m ih =>
    intro s
    rw [show m + 1 + n = (m + n) + 1 by omega, show 8 * (m + 1) = 8 + 8 * m by omega, stN_add]
    simp only [strmN, ih, List.cons_append]
theorem strmN_snoc (n s : Nat) : strmN (n + 1) s = strmN n s ++ [byteN (stN (8 * n) s)] := strmN_add n 1 s
/-- what Stream answers; what State answers -/
def streamB (i n : Int) : List UInt8 := if n < 0 ∨ 4096 < n then [] else strmN n.toNat (ownN i)
def stateI (i n : Int) : Nat := stN (if n < 32768 then n.toNat else 32768) (ownN i)
theorem stateI_lt (i n : Int) : stateI i n < 32768 := stN_lt _ _ (ownN_lt i)
theorem stateI_zero (i n : Int) : stateI i n = 0 ↔ ownN i = 0 := stN_zero _ _ (ownN_lt i)
theorem streamB_nat (i : Int) (n : Nat) (h : n ≤ 4096) : streamB i n = strmN n (ownN i) := by
  unfold streamB
  rw [if_neg (by omega), Int.toNat_natCast]
def xorB (a b : List UInt8) : List UInt8 := List.zipWith (· ^^^ ·) a b
theorem xorB_len (a b : List UInt8) (h : a.length = b.length) : (xorB a b).length = a.length := by simp [xorB, h]
theorem xorB_twice (a b : List UInt8) (h : a.length = b.length) : xorB (xorB a b) b = a := by
  induction a generalizing b with
  | nil => rfl
  | cons x r ih =>
    match b, h with
    | y :: t, h =>
      have := ih t (by simpa using h)
      unfold xorB at this ⊢
      simp only [List.zipWith_cons_cons, this, UInt8.xor_assoc, UInt8.xor_self, UInt8.xor_zero]
theorem xorB_append (a b c d : List UInt8) (h : a.length = c.length) : xorB (a ++ b) (c ++ d) = xorB a c ++ xorB b d := by
  unfold xorB
  rw [List.zipWith_append h]
theorem xorB_at (a b : List UInt8) (k : Nat) (h : k < a.length) (h' : k < b.length) : (xorB a b)[k]'(by unfold xorB; rw [List.length_zipWith]; omega) = a[k] ^^^ b[k] := by
  unfold xorB
  rw [List.getElem_zipWith]
/-- what Do answers -/
def scrB (i : Int) (b : List UInt8) : List UInt8 := xorB b (streamB i b.length)
theorem scrB_small (i : Int) (b : List UInt8) (h : b.length ≤ 4096) : scrB i b = xorB b (strmN b.length (ownN i)) := by
  unfold scrB
  rw [streamB_nat _ _ h]
theorem scrB_len (i : Int) (b : List UInt8) (h : b.length ≤ 4096) : (scrB i b).length = b.length := by
  rw [scrB_small i b h, xorB_len _ _ (strmN_len _ _).symm]
/-- P9.3 -/
theorem scrB_twice (i : Int) (b : List UInt8) (h : b.length ≤ 4096) : scrB i (scrB i b) = b := by
  have hl := scrB_len i b h
  rw [scrB_small i (scrB i b) (by omega), hl, scrB_small i b h, xorB_twice _ _ (strmN_len _ _).symm]
theorem scrB_append (i : Int) (a b : List UInt8) (h : a.length + b.length ≤ 4096) : scrB i (a ++ b) = scrB i a ++ scrB ((stateI i (8 * (a.length : Int)) : Nat) : Int) b := by
  rw [scrB_small i (a ++ b) (by simpa using h), List.length_append, strmN_add, xorB_append _ _ _ _ (strmN_len _ _).symm, scrB_small i a (by omega), scrB_small _ b (by omega), ownN_nat _ (stateI_lt _ _)]
  unfold stateI
  by_cases h2 : 8 * (a.length : Int) < 32768
  · rw [if_pos h2, show (8 * (a.length : Int)).toNat = 8 * a.length by omega]
  · rw [if_neg h2, show 8 * a.length = 32768 by omega]
theorem scrB_xor (i : Int) (a b : List UInt8) (h : a.length = b.length) (ha : a.length ≤ 4096) : scrB i (xorB a b) = xorB (scrB i a) b := by
  have hl := xorB_len a b h
  rw [scrB_small i (xorB a b) (by omega), hl, scrB_small i a ha]
  have hs := strmN_len a.length (ownN i)
  generalize strmN a.length (ownN i) = s at *
  clear hl ha
  induction a generalizing b s with
  | nil => rfl
  | cons x r ih =>
    match b, s, h, hs with
    | y :: t, z :: u, h, hs =>
      have := ih t (by simpa using h) u (by simpa using hs)
      unfold xorB at this ⊢
      simp only [List.zipWith_cons_cons, this, UInt8.xor_assoc, UInt8.xor_comm y z]
end Go.Proofs.Ytbeaeameaakphaa
