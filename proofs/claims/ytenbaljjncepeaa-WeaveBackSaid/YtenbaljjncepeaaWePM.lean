/- Plain facts on bits that are laid apart, for code that reckons the place of a bit, and lays one bit of a text. Nothing of the program is in here. -/
import Derived.Test.YtenbaljjncepeaaWeaveM

namespace Go.Proofs.Ytenbaljjncepeaa

theorem colL_first (n cols c k m : Nat) (h : ∀ r, r * cols + c < n ↔ r < m) (hk : m ≤ k) : colL n cols c k = (List.range m).map fun r => r * cols + c := by
  obtain ⟨d, rfl⟩ := Nat.exists_eq_add_of_le hk
  clear hk
  induction d with
  | zero =>
    unfold colL
    rw [Nat.add_zero]
    congr 1
    rw [List.filter_eq_self]
    intro r hr
    exact decide_eq_true ((h r).2 (List.mem_range.1 hr))
  | succ d ih =>
    rw [← Nat.add_assoc, colL_succ, if_neg (fun e => absurd ((h _).1 e) (by omega))]
    exact ih
/-- where the at'th bit that is read stands -/
def placeF (n cols at_ : Nat) : Nat :=
  if at_ < n % cols * (n / cols + 1) then at_ % (n / cols + 1) * cols + at_ / (n / cols + 1)
  else (at_ - n % cols * (n / cols + 1)) % (n / cols) * cols + n % cols + (at_ - n % cols * (n / cols + 1)) / (n / cols)
theorem in_col (full left cols c r : Nat) (hl : left < cols) (hc : c < cols) : r * cols + c < full * cols + left ↔ r < (if c < left then full + 1 else full) := by
  rcases Nat.lt_trichotomy r full with h | h | h
  · have h2 : (r + 1) * cols ≤ full * cols := Nat.mul_le_mul_right _ h
    rw [Nat.add_mul] at h2
    constructor
    · intro _; split <;> omega
    · intro _; omega
  · subst h
    constructor
    · intro e; rw [if_pos (by omega)]; omega
    · intro e
      split at e <;> omega
  · have h2 : (full + 1) * cols ≤ r * cols := Nat.mul_le_mul_right _ h
    rw [Nat.add_mul] at h2
    constructor
    · intro e; omega
    · intro e; split at e <;> omega
theorem order_parts (n rows cols : Nat) (hc : 0 < cols) (hn : n ≤ cols * rows) : ∀ k, k ≤ cols → (orderK n rows cols k).length = k * (n / cols) + min k (n % cols) ∧ ∀ at_, at_ < k * (n / cols) + min k (n % cols) → (orderK n rows cols k)[at_]? = some (placeF n cols at_) := by
  have hd := Nat.div_add_mod n cols
  have hm := Nat.mod_lt n hc
  unfold placeF
  generalize n / cols = full at *
  generalize n % cols = left at *
  rw [Nat.mul_comm] at hd
  have hfr : full ≤ rows ∧ (0 < left → full < rows) := by
    rw [Nat.mul_comm cols rows] at hn
    constructor
    · rcases Nat.lt_or_ge rows full with h | h
      · have : (rows + 1) * cols ≤ full * cols := Nat.mul_le_mul_right _ h
        rw [Nat.add_mul] at this
        omega
      · exact h
    · intro hp
      rcases Nat.lt_or_ge full rows with h | h
      · exact h
      · have : rows * cols ≤ full * cols := Nat.mul_le_mul_right _ h
        omega
  intro k
  induction k with
  | zero => intro _; simp [orderK]
  | succ k ih =>
    intro hk
    obtain ⟨i1, i2⟩ := ih (by omega)
    have hcol := colL_first n cols k rows (if k < left then full + 1 else full) (fun r => by rw [← hd]; exact in_col full left cols k r hm (by omega)) (by split <;> omega)
    rw [orderK_succ, hcol]
    have hlen : k * full + min k left + (if k < left then full + 1 else full) = (k + 1) * full + min (k + 1) left := by
      rw [Nat.add_mul]
      split <;> omega
    refine ⟨by rw [List.length_append, i1, List.length_map, List.length_range, hlen], fun at_ ha => ?_⟩
    by_cases h : at_ < k * full + min k left
    · rw [List.getElem?_append_left (by omega)]
      exact i2 at_ h
    · rw [← hlen] at ha
      rw [List.getElem?_append_right (by omega), i1, List.getElem?_map]
      obtain ⟨r, hr⟩ : ∃ r, at_ - (k * full + min k left) = r := ⟨_, rfl⟩
      have hat : at_ = k * full + min k left + r := by omega
      rw [hr]
      by_cases hkl : k < left
      · rw [if_pos hkl] at ha
        have hr2 : r < full + 1 := by omega
        rw [if_pos hkl, List.getElem?_range hr2]
        have e1 : at_ = (full + 1) * k + r := by
          rw [hat, Nat.min_eq_left (by omega), Nat.add_mul, Nat.one_mul, Nat.mul_comm k full]
        have hlt : at_ < left * (full + 1) := by
          have h2 : (k + 1) * (full + 1) ≤ left * (full + 1) := Nat.mul_le_mul_right _ hkl
          rw [Nat.add_mul, Nat.mul_comm k] at h2
          omega
        rw [if_pos hlt, e1, Nat.mul_add_mod, Nat.mod_eq_of_lt hr2, Nat.mul_add_div (by omega), Nat.div_eq_of_lt hr2]
        simp
      · rw [if_neg hkl] at ha
        have hr2 : r < full := by omega
        rw [if_neg hkl, List.getElem?_range hr2]
        have e0 : left * (full + 1) = left * full + left := by rw [Nat.mul_add, Nat.mul_one]
        have e2 : k * full = left * full + (k - left) * full := by rw [← Nat.add_mul]; congr 1; omega
        have e1 : at_ - left * (full + 1) = full * (k - left) + r := by
          rw [hat, Nat.min_eq_right (by omega), Nat.mul_comm full (k - left)]
          omega
        have hge : ¬ at_ < left * (full + 1) := by
          rw [hat, Nat.min_eq_right (by omega)]
          omega
        rw [if_neg hge, e1, Nat.mul_add_mod, Nat.mod_eq_of_lt hr2, Nat.mul_add_div (by omega), Nat.div_eq_of_lt hr2]
        simp
        omega
theorem place_parts (n rows at_ : Nat) (hr : 1 ≤ rows) (h : at_ < n) : placeN n rows at_ = placeF n (colsN n rows) at_ := by
  have hge := colsN_ge n rows hr
  have hc : 0 < colsN n rows := by
    rcases Nat.eq_zero_or_pos (colsN n rows) with e | e
    · rw [e] at hge; omega
    · exact e
  have hd := Nat.div_add_mod n (colsN n rows)
  have hm := Nat.mod_lt n hc
  obtain ⟨_, h2⟩ := order_parts n rows (colsN n rows) hc hge (colsN n rows) (Nat.le_refl _)
  unfold placeN orderW
  rw [List.getD_eq_getElem?_getD, h2 at_ (by rw [Nat.min_eq_right (by omega)]; omega)]
  rfl

/-- one bit of eight laid -/
theorem lay_bit : ∀ a b c d e f g h : Fin 2, ∀ t : Fin 8, ∀ z : Fin 2, [a.val, b.val, c.val, d.val, e.val, f.val, g.val, h.val].getD t.val 0 = 0 →
    numBt ([a.val, b.val, c.val, d.val, e.val, f.val, g.val, h.val].set t.val z.val) = numBt [a.val, b.val, c.val, d.val, e.val, f.val, g.val, h.val] ||| (z.val * 2 ^ (7 - t.val) % 256) := by decide +kernel
theorem num_set (a : List Nat) (ha : a.length = 8) (h : ∀ x ∈ a, x ≤ 1) (t z : Nat) (ht : t < 8) (hz : z < 2) (h0 : a.getD t 0 = 0) : numBt (a.set t z) = numBt a ||| (z * 2 ^ (7 - t) % 256) := by
  match a, ha with
  | [a, b, c, d, e, f, g, i], _ =>
    simp only [List.mem_cons, List.not_mem_nil, or_false, forall_eq_or_imp, forall_eq] at h
    obtain ⟨h1, h2, h3, h4, h5, h6, h7, h8⟩ := h
    exact lay_bit ⟨a, by omega⟩ ⟨b, by omega⟩ ⟨c, by omega⟩ ⟨d, by omega⟩ ⟨e, by omega⟩ ⟨f, by omega⟩ ⟨g, by omega⟩ ⟨i, by omega⟩ ⟨t, ht⟩ ⟨z, hz⟩ h0
theorem textW_at (l : List Nat) (d : Nat) (h : d < l.length / 8) : (textW l)[d]? = some (UInt8.ofNat (numBt ((l.drop (8 * d)).take 8))) := by
  unfold textW textK
  rw [List.getElem?_map, List.getElem?_range h]
  rfl
theorem textW_set (l : List Nat) (d t z : Nat) (ht : t < 8) (h : d < l.length / 8) : textW (l.set (8 * d + t) z) = (textW l).set d (UInt8.ofNat (numBt (((l.drop (8 * d)).take 8).set t z))) := by
  apply List.ext_getElem?
  intro i
  by_cases hi : i < l.length / 8
  · rw [textW_at _ i (by rw [List.length_set]; exact hi)]
    by_cases hid : i = d
    · subst hid
      rw [List.getElem?_set_self (by rw [textW_len]; exact hi)]
      congr 3
      rw [List.drop_set, if_neg (by omega), List.take_set, Nat.add_sub_cancel_left]
    · rw [List.getElem?_set_ne (fun e => hid e.symm), textW_at _ i hi]
      congr 3
      rw [List.drop_set]
      split
      · rfl
      · rw [List.take_set, List.set_eq_of_length_le]
        simp
        omega
  · rw [List.getElem?_eq_none (by rw [textW_len, List.length_set]; omega), List.getElem?_eq_none (by rw [List.length_set, textW_len]; omega)]
theorem eight_bits (l : List Nat) (h1 : ∀ x ∈ l, x ≤ 1) (d : Nat) (h : d < l.length / 8) : ((l.drop (8 * d)).take 8).length = 8 ∧ (∀ x ∈ (l.drop (8 * d)).take 8, x ≤ 1) ∧ numBt ((l.drop (8 * d)).take 8) < 256 := by
  refine ⟨by simp; omega, fun x hx => h1 x (List.mem_of_mem_drop (List.mem_of_mem_take hx)), ?_⟩
  exact numBt_lt _ (fun x hx => h1 x (List.mem_of_mem_drop hx)) 8
theorem bitsW_at (b : List UInt8) : ∀ d t (hd : d < b.length) (_ : t < 8), (bitsW b).getD (8 * d + t) 0 = b[d].toNat / 2 ^ (7 - t) % 2 := by
  induction b with
  | nil => intro d t hd _; exact absurd hd (by simp)
  | cons x r ih =>
    intro d t hd ht
    have e : bitsW (x :: r) = bitL x ++ bitsW r := rfl
    rw [e]
    cases d with
    | zero =>
      rw [List.getD_eq_getElem?_getD, List.getElem?_append_left (by rw [bitL_len]; omega)]
      have h8 : t = 0 ∨ t = 1 ∨ t = 2 ∨ t = 3 ∨ t = 4 ∨ t = 5 ∨ t = 6 ∨ t = 7 := by omega
      rcases h8 with rfl | rfl | rfl | rfl | rfl | rfl | rfl | rfl <;> rfl
    | succ d =>
      rw [List.getD_eq_getElem?_getD, List.getElem?_append_right (by rw [bitL_len]; omega), bitL_len, show 8 * (d + 1) + t - 8 = 8 * d + t by omega, ← List.getD_eq_getElem?_getD]
      exact ih d t (by simpa using hd) ht
/-- nothing laid yet -/
theorem text_zeros (m : Nat) : textW (List.replicate (8 * m) 0) = List.replicate m 0 := by
  apply List.ext_getElem?
  intro i
  by_cases hi : i < m
  · rw [textW_at _ i (by simp; omega)]
    have e : ((List.replicate (8 * m) 0).drop (8 * i)).take 8 = List.replicate 8 0 := by
      rw [List.drop_replicate, List.take_replicate]
      congr 1
      omega
    rw [e, List.getElem?_replicate, if_pos hi]
    rfl
  · rw [List.getElem?_eq_none (by rw [textW_len]; simp; omega), List.getElem?_eq_none (by simp; omega)]
/-- read, the first j of them, the others not yet -/
def doK (o x : List Nat) (j : Nat) : List Nat := permL (o.take j) x ++ List.replicate (o.length - j) 0
theorem doK_zero (o x : List Nat) : doK o x 0 = List.replicate o.length 0 := by simp [doK, permL]
theorem doK_end (o x : List Nat) : doK o x o.length = permL o x := by simp [doK]
theorem doK_len (o x : List Nat) (j : Nat) (h : j ≤ o.length) : (doK o x j).length = o.length := by simp [doK, permL]; omega
theorem doK_none (o x : List Nat) (j : Nat) (h : j < o.length) : (doK o x j).getD j 0 = 0 := by
  have hl : (permL (o.take j) x).length = j := by simp [permL]; omega
  unfold doK
  rw [List.getD_eq_getElem?_getD, List.getElem?_append_right (by omega), hl, Nat.sub_self, List.getElem?_replicate]
  split <;> rfl
theorem doK_succ (o x : List Nat) (j : Nat) (h : j < o.length) : doK o x (j + 1) = (doK o x j).set j (x.getD (o[j]) 0) := by
  have hl : (permL (o.take j) x).length = j := by simp [permL]; omega
  unfold doK
  rw [List.set_append_right _ _ (by omega), hl, Nat.sub_self, show o.length - j = (o.length - (j + 1)) + 1 by omega, List.replicate_succ, List.set_cons_zero]
  unfold permL
  rw [List.take_succ_eq_append_getElem h, List.map_append, List.append_assoc]
  rfl
theorem permL_bits (o x : List Nat) (h : ∀ y ∈ x, y ≤ 1) : ∀ y ∈ permL o x, y ≤ 1 := by
  intro y hy
  unfold permL at hy
  obtain ⟨k, _, rfl⟩ := List.mem_map.1 hy
  rw [List.getD_eq_getElem?_getD]
  cases hk : x[k]? with
  | none => simp
  | some z => exact h z (List.mem_of_getElem? hk)
theorem doK_bit (o x : List Nat) (h : ∀ y ∈ x, y ≤ 1) (j : Nat) : ∀ y ∈ doK o x j, y ≤ 1 := by
  intro y hy
  rcases List.mem_append.1 hy with h1 | h1
  · exact permL_bits _ _ h y h1
  · rw [List.eq_of_mem_replicate h1]; exact Nat.zero_le _
theorem unpermK_none (o x : List Nat) (hn : o.Nodup) : ∀ k i (hi : i < o.length), k ≤ i → (unpermK o x k).getD o[i] 0 = 0 := by
  intro k
  induction k with
  | zero =>
    intro i hi _
    simp only [unpermK]
    rw [List.getD_eq_getElem?_getD, List.getElem?_replicate]
    split <;> rfl
  | succ k ih =>
    intro i hi hki
    have hko : k < o.length := by omega
    have e : o.getD k 0 = o[k] := by simp [List.getD_eq_getElem?_getD, List.getElem?_eq_getElem hko]
    have hne : o[k] ≠ o[i] := fun he => absurd ((List.getElem_inj hn).1 he) (by omega)
    simp only [unpermK, e]
    rw [List.getD_eq_getElem?_getD, List.getElem?_set_ne hne, ← List.getD_eq_getElem?_getD]
    exact ih i hi (by omega)
end Go.Proofs.Ytenbaljjncepeaa
