/- Plain facts on words of eight bits that stand for half bytes. Nothing of the program is in here. -/
import Derived.KernelRfl
namespace Go.Proofs.YtngcjbfjhaelbaaDoor

def bitA (n at_ : Nat) : Nat := n / 2 ^ at_ % 2
theorem bitA_lt (n i : Nat) : bitA n i < 2 := Nat.mod_lt _ (by decide)
/-- the word of a half byte -/
def wordN (h : Nat) : Nat :=
  (bitA h 0 + bitA h 1 + bitA h 2 + bitA h 3 + (bitA h 0 + bitA h 1 + bitA h 3) % 2 + (bitA h 0 + bitA h 2 + bitA h 3) % 2 + (bitA h 1 + bitA h 2 + bitA h 3) % 2) % 2 + 2 * ((bitA h 0 + bitA h 1 + bitA h 3) % 2) + 4 * ((bitA h 0 + bitA h 2 + bitA h 3) % 2) + 8 * bitA h 0 + 16 * ((bitA h 1 + bitA h 2 + bitA h 3) % 2) + 32 * bitA h 1 + 64 * bitA h 2 + 128 * bitA h 3
theorem wordN_lt (h : Nat) : wordN h < 256 := by
  have h0 := bitA_lt h 0
  have h1 := bitA_lt h 1
  have h2 := bitA_lt h 2
  have h3 := bitA_lt h 3
  unfold wordN
  generalize bitA h 0 = a at *
  generalize bitA h 1 = b at *
  generalize bitA h 2 = c at *
  generalize bitA h 3 = d at *
  have q1 := Nat.mod_lt (a + b + d) (show 0 < 2 by decide)
  have q2 := Nat.mod_lt (a + c + d) (show 0 < 2 by decide)
  have q3 := Nat.mod_lt (b + c + d) (show 0 < 2 by decide)
  generalize (a + b + d) % 2 = one at *
  generalize (a + c + d) % 2 = two at *
  generalize (b + c + d) % 2 = four at *
  have q4 := Nat.mod_lt (a + b + c + d + one + two + four) (show 0 < 2 by decide)
  generalize (a + b + c + d + one + two + four) % 2 = all at *
  omega
/-- at how many of the first k places the bits of both are not the same -/
def apartK (a b : Nat) : Nat → Nat
  | 0 => 0
  | k + 1 => apartK a b k + if bitA a k = bitA b k then 0 else 1
def apartN (a b : Nat) : Nat := apartK a b 8
theorem apartK_le (a b k : Nat) : apartK a b k ≤ k := by
  induction k with
  | zero => exact Nat.le_refl _
  | succ k ih => simp only [apartK]; split <;> omega
/-- the first half byte, from h on, whose word is next to x -/
def halfK (x : Nat) : Nat → Option Nat
  | 0 => none
  | k + 1 => match halfK x k with
    | some h => some h
    | none => if apartN (wordN k) x ≤ 1 then some k else none
theorem halfK_none (x k : Nat) : halfK x k = none ↔ ∀ h, h < k → 1 < apartN (wordN h) x := by
  induction k with
  | zero => simp [halfK]
  | succ k ih =>
    unfold halfK
    cases hk : halfK x k with
    | some h =>
      simp only [reduceCtorEq, false_iff]
      intro hh
      have := ih.2 (fun h' hl => hh h' (by omega))
      rw [hk] at this
      cases this
    | none =>
      have hl := ih.1 hk
      by_cases h1 : apartN (wordN k) x ≤ 1
      · simp only [if_pos h1, reduceCtorEq, false_iff]
        intro hh
        have := hh k (by omega)
        omega
      · simp only [if_neg h1, true_iff]
        intro h' hl'
        by_cases e : h' = k
        · subst e; omega
        · exact hl h' (by omega)
theorem halfK_some (x k : Nat) (hk : k < 16) (hn : ∀ h, h < k → 1 < apartN (wordN h) x) (h1 : apartN (wordN k) x ≤ 1) : halfK x 16 = some k := by
  have h0 : halfK x (k + 1) = some k := by
    unfold halfK
    rw [(halfK_none x k).2 hn]
    simp only [if_pos h1]
  have key : ∀ d, halfK x (k + 1 + d) = some k := by
    intro d
    induction d with
    | zero => exact h0
    | succ d ih =>
      rw [show k + 1 + (d + 1) = (k + 1 + d) + 1 by omega]
      show (match halfK x (k + 1 + d) with | some h => some h | none => _) = _
      rw [ih]
  have := key (15 - k)
  rw [show k + 1 + (15 - k) = 16 by omega] at this
  exact this
/-- what Half answers: the half, how many bits were mended, the error -/
def halfN (x : Nat) : Nat × Nat × Nat := match halfK x 16 with
  | some h => (h, apartN (wordN h) x, 0)
  | none => (0, 0, 100)
theorem halfN_some (x k : Nat) (hk : k < 16) (hn : ∀ h, h < k → 1 < apartN (wordN h) x) (h1 : apartN (wordN k) x ≤ 1) : halfN x = (k, apartN (wordN k) x, 0) := by
  unfold halfN
  rw [halfK_some x k hk hn h1]
theorem halfN_none (x : Nat) (hn : ∀ h, h < 16 → 1 < apartN (wordN h) x) : halfN x = (0, 0, 100) := by
  unfold halfN
  rw [(halfK_none x 16).2 hn]
theorem halfK_lt (x : Nat) : ∀ k h, halfK x k = some h → h < k := by
  intro k
  induction k with
  | zero => intro h hh; simp [halfK] at hh
  | succ k ih =>
    intro h hh
    unfold halfK at hh
    cases hk : halfK x k with
    | some h' => rw [hk] at hh; simp only [Option.some.injEq] at hh; subst hh; have := ih _ hk; omega
    | none =>
      rw [hk] at hh
      simp only at hh
      split at hh
      · simp at hh; omega
      · cases hh
theorem halfN_lt (x : Nat) : (halfN x).1 < 16 ∧ (halfN x).2.1 ≤ 8 ∧ ((halfN x).2.2 = 0 ∨ (halfN x).2.2 = 100) := by
  unfold halfN
  cases hk : halfK x 16 with
  | some h => exact ⟨halfK_lt x 16 h hk, apartK_le _ _ _, .inl rfl⟩
  | none =>
    show (0 : Nat) < 16 ∧ (0 : Nat) ≤ 8 ∧ ((100 : Nat) = 0 ∨ (100 : Nat) = 100)
    exact ⟨by decide, by decide, .inr rfl⟩
/-- P10.4, word by word -/
theorem words_apart : ∀ a b : Fin 16, a ≠ b → 4 ≤ apartN (wordN a) (wordN b) := by decide +kernel
theorem word_half : ∀ a : Fin 16, halfN (wordN a) = (a.val, 0, 0) := by decide +kernel
theorem word_mend : ∀ (a : Fin 16) (i : Fin 8), halfN (wordN a ^^^ 2 ^ i.val) = (a.val, 1, 0) := by decide +kernel
theorem word_two : ∀ (a : Fin 16) (i j : Fin 8), i ≠ j → halfN (wordN a ^^^ 2 ^ i.val ^^^ 2 ^ j.val) = (0, 0, 100) := by decide +kernel

def wordB (h : Nat) : UInt8 := UInt8.ofNat (wordN h)
theorem wordB_num (h : Nat) : (wordB h).toNat = wordN h := by
  unfold wordB
  rw [UInt8.toNat_ofNat', Nat.mod_eq_of_lt (wordN_lt h)]
/-- what Pack answers -/
def packL (b : List UInt8) : List UInt8 := b.flatMap fun x => [wordB (x.toNat / 16), wordB (x.toNat % 16)]
def packB (b : List UInt8) : List UInt8 := if 4096 < b.length then [] else packL b
theorem packL_len (b : List UInt8) : (packL b).length = 2 * b.length := by
  induction b with
  | nil => rfl
  | cons x r ih =>
    have e : packL (x :: r) = [wordB (x.toNat / 16), wordB (x.toNat % 16)] ++ packL r := rfl
    rw [e, List.length_append, ih, List.length_cons]
    simp only [List.length_cons, List.length_nil]
    omega
theorem packL_take (b : List UInt8) (k : Nat) (h : k < b.length) : packL (b.take (k + 1)) = packL (b.take k) ++ [wordB (b[k].toNat / 16), wordB (b[k].toNat % 16)] := by
  rw [List.take_succ_eq_append_getElem h]
  unfold packL
  rw [List.flatMap_append]
  rfl
/-- the bytes of words, and how many bits were mended -/
def unpL : List UInt8 → Option (List UInt8 × Nat)
  | x :: y :: r => if (halfN x.toNat).2.2 = 0 ∧ (halfN y.toNat).2.2 = 0 then (unpL r).map fun p => (UInt8.ofNat (16 * (halfN x.toNat).1 + (halfN y.toNat).1) :: p.1, (halfN x.toNat).2.1 + (halfN y.toNat).2.1 + p.2) else none
  | _ => some ([], 0)
/-- what Unpack answers -/
def unpackB (w : List UInt8) : List UInt8 × Nat × Nat :=
  if 8192 < w.length then ([], 0, 2) else if w.length % 2 ≠ 0 then ([], 0, 1) else
  match unpL w with
  | some p => (p.1, p.2, 0)
  | none => ([], 0, 100)
theorem unpL_snoc (k : Nat) : ∀ (l : List UInt8) (x y : UInt8), l.length = 2 * k → ∀ o n, unpL l = some (o, n) → unpL (l ++ [x, y]) = if (halfN x.toNat).2.2 = 0 ∧ (halfN y.toNat).2.2 = 0 then some (o ++ [UInt8.ofNat (16 * (halfN x.toNat).1 + (halfN y.toNat).1)], n + (halfN x.toNat).2.1 + (halfN y.toNat).2.1) else none := by
  induction k with
  | zero =>
    intro l x y hl o n h
    have : l = [] := List.eq_nil_of_length_eq_zero (by omega)
    subst this
    simp only [unpL, Option.some.injEq, Prod.mk.injEq] at h
    obtain ⟨rfl, rfl⟩ := h
    simp [unpL]
  | succ k ih =>
    intro l x y hl o n h
    match l, hl with
    | a :: b :: r, hl =>
      simp only [List.cons_append, unpL] at h ⊢
      by_cases hab : (halfN a.toNat).2.2 = 0 ∧ (halfN b.toNat).2.2 = 0
      · rw [if_pos hab] at h ⊢
        cases hr : unpL r with
        | none => rw [hr] at h; cases h
        | some p =>
          obtain ⟨o', n'⟩ := p
          rw [hr] at h
          simp only [Option.map_some, Option.some.injEq, Prod.mk.injEq] at h
          obtain ⟨rfl, rfl⟩ := h
          rw [ih r x y (by simp at hl; omega) o' n' hr]
          split
          · simp; omega
          · rfl
      · rw [if_neg hab] at h
        cases h
theorem unpL_bad (k : Nat) : ∀ (l : List UInt8) (x y : UInt8) (r : List UInt8), l.length = 2 * k → ¬ ((halfN x.toNat).2.2 = 0 ∧ (halfN y.toNat).2.2 = 0) → unpL (l ++ x :: y :: r) = none := by
  induction k with
  | zero =>
    intro l x y r hl h
    have : l = [] := List.eq_nil_of_length_eq_zero (by omega)
    subst this
    simp [unpL, if_neg h]
  | succ k ih =>
    intro l x y r hl h
    match l, hl with
    | a :: b :: t, hl =>
      simp only [List.cons_append, unpL]
      rw [ih t x y r (by simp at hl; omega) h]
      split <;> rfl
/-- P10.4: what was packed, with at most one bit of each word turned, is unpacked -/
def turn1 (x : UInt8) (t : Int) : UInt8 := if 0 ≤ t ∧ t < 8 then x ^^^ UInt8.ofNat (2 ^ t.toNat) else x
def cnt1 (t : Int) : Nat := if 0 ≤ t ∧ t < 8 then 1 else 0
/-- words turned, as far as turns go -/
def turnsL : List UInt8 → List Int → List UInt8
  | x :: r, t :: ts => turn1 x t :: turnsL r ts
  | l, _ => l
def cntL : List UInt8 → List Int → Nat
  | _ :: r, t :: ts => cnt1 t + cntL r ts
  | _, _ => 0
theorem half_turn (h : Nat) (hh : h < 16) (t : Int) : halfN (turn1 (wordB h) t).toNat = (h, cnt1 t, 0) := by
  unfold turn1 cnt1
  by_cases ht : 0 ≤ t ∧ t < 8
  · rw [if_pos ht, if_pos ht]
    have hp : (2 : Nat) ^ t.toNat < 256 := by
      have : (2 : Nat) ^ t.toNat ≤ 2 ^ 7 := Nat.pow_le_pow_right (by decide) (by omega)
      omega
    rw [UInt8.toNat_xor, wordB_num, UInt8.toNat_ofNat', Nat.mod_eq_of_lt hp]
    exact word_mend ⟨h, hh⟩ ⟨t.toNat, by omega⟩
  · rw [if_neg ht, if_neg ht, wordB_num]
    exact word_half ⟨h, hh⟩
theorem half_plain (h : Nat) (hh : h < 16) : halfN (wordB h).toNat = (h, 0, 0) := by
  rw [wordB_num]
  exact word_half ⟨h, hh⟩
theorem byte_halves (x : UInt8) : UInt8.ofNat (16 * (x.toNat / 16) + x.toNat % 16) = x := by
  rw [show 16 * (x.toNat / 16) + x.toNat % 16 = x.toNat by omega]
  simp
theorem unpL_turns (b : List UInt8) : ∀ ts, unpL (turnsL (packL b) ts) = some (b, cntL (packL b) ts) := by
  induction b with
  | nil => intro ts; cases ts <;> rfl
  | cons x r ih =>
    intro ts
    have hx := x.toNat_lt
    have e : packL (x :: r) = wordB (x.toNat / 16) :: wordB (x.toNat % 16) :: packL r := rfl
    have p1 := half_plain (x.toNat / 16) (by omega)
    have p2 := half_plain (x.toNat % 16) (by omega)
    rw [e]
    match ts with
    | [] =>
      have h0 := ih []
      have e0 : turnsL (packL r) [] = packL r := by cases packL r <;> rfl
      have e1 : cntL (packL r) [] = 0 := by cases packL r <;> rfl
      rw [e0, e1] at h0
      simp only [turnsL, cntL, unpL, p1, p2, h0, and_self, if_true, Option.map_some, byte_halves, Nat.add_zero]
    | [t] =>
      have h0 := ih []
      have e0 : turnsL (packL r) [] = packL r := by cases packL r <;> rfl
      have e1 : cntL (packL r) [] = 0 := by cases packL r <;> rfl
      rw [e0, e1] at h0
      have q1 := half_turn (x.toNat / 16) (by omega) t
      simp only [turnsL, cntL, unpL, q1, p2, h0, and_self, if_true, Option.map_some, byte_halves, Nat.add_zero]
    | t :: u :: ts =>
      have q1 := half_turn (x.toNat / 16) (by omega) t
      have q2 := half_turn (x.toNat % 16) (by omega) u
      simp only [turnsL, cntL, unpL, q1, q2, ih ts, and_self, if_true, Option.map_some, byte_halves, Nat.add_assoc]
end Go.Proofs.YtngcjbfjhaelbaaDoor
