/- Joined: WePM WeC WeK WeK2 WeK3. -/
import Derived.Test.YtkcpkfimmolkkaaDoorFacts
import Derived.Test.YtkcpkfimmolkkaaDoorRweas
import Derived.Test.YtkcpkfimmolkkaaDoorSame
import Derived.Laws.BitsLemmas
import Derived.Laws.BitsAllLaws
/- Plain facts on bits that are laid apart, for code that reckons the place of a bit, and lays one bit of a text. Nothing of the program is in here. -/
namespace Go.Proofs.YtkcpkfimmolkkaaDoor

theorem colL_first (n cols c k m : Nat) (h : ∀ r, r * cols + c < n ↔ r < m) (hk : m ≤ k) : colL n cols c k = (List.range m).map fun r => r * cols + c := by
  obtain ⟨d, rfl⟩ := Nat.exists_eq_add_of_le hk
  clear hk
  induction d with
  | zero =>
    unfold colL
    rw [Nat.add_zero]
    congr 1
    rw [List.filter_eq_self]
    intro r hr
    exact decide_eq_true ((h r).2 (List.mem_range.1 hr))
  | succ d ih =>
    rw [← Nat.add_assoc, colL_succ, if_neg (fun e => absurd ((h _).1 e) (by omega))]
    exact ih
/-- where the at'th bit that is read stands -/
def placeF (n cols at_ : Nat) : Nat :=
  if at_ < n % cols * (n / cols + 1) then at_ % (n / cols + 1) * cols + at_ / (n / cols + 1)
  else (at_ - n % cols * (n / cols + 1)) % (n / cols) * cols + n % cols + (at_ - n % cols * (n / cols + 1)) / (n / cols)
theorem in_col (full left cols c r : Nat) (hl : left < cols) (hc : c < cols) : r * cols + c < full * cols + left ↔ r < (if c < left then full + 1 else full) := by
  rcases Nat.lt_trichotomy r full with h | h | h
  · have h2 : (r + 1) * cols ≤ full * cols := Nat.mul_le_mul_right _ h
    rw [Nat.add_mul] at h2
    constructor
    · intro _; split <;> omega
    · intro _; omega
  · subst h
    constructor
    · intro e; rw [if_pos (by omega)]; omega
    · intro e
      split at e <;> omega
  · have h2 : (full + 1) * cols ≤ r * cols := Nat.mul_le_mul_right _ h
    rw [Nat.add_mul] at h2
    constructor
    · intro e; omega
    · intro e; split at e <;> omega
theorem order_parts (n rows cols : Nat) (hc : 0 < cols) (hn : n ≤ cols * rows) : ∀ k, k ≤ cols → (orderK n rows cols k).length = k * (n / cols) + min k (n % cols) ∧ ∀ at_, at_ < k * (n / cols) + min k (n % cols) → (orderK n rows cols k)[at_]? = some (placeF n cols at_) := by
  have hd := Nat.div_add_mod n cols
  have hm := Nat.mod_lt n hc
  unfold placeF
  generalize n / cols = full at *
  generalize n % cols = left at *
  rw [Nat.mul_comm] at hd
  have hfr : full ≤ rows ∧ (0 < left → full < rows) := by
    rw [Nat.mul_comm cols rows] at hn
    constructor
    · rcases Nat.lt_or_ge rows full with h | h
      · have : (rows + 1) * cols ≤ full * cols := Nat.mul_le_mul_right _ h
        rw [Nat.add_mul] at this
        omega
      · exact h
    · intro hp
      rcases Nat.lt_or_ge full rows with h | h
      · exact h
      · have : rows * cols ≤ full * cols := Nat.mul_le_mul_right _ h
        omega
  intro k
  induction k with
  | zero => intro _; simp [orderK]
  | succ k ih =>
    intro hk
    obtain ⟨i1, i2⟩ := ih (by omega)
    have hcol := colL_first n cols k rows (if k < left then full + 1 else full) (fun r => by rw [← hd]; exact in_col full left cols k r hm (by omega)) (by split <;> omega)
    rw [orderK_succ, hcol]
    have hlen : k * full + min k left + (if k < left then full + 1 else full) = (k + 1) * full + min (k + 1) left := by
      rw [Nat.add_mul]
      split <;> omega
    refine ⟨by rw [List.length_append, i1, List.length_map, List.length_range, hlen], fun at_ ha => ?_⟩
    by_cases h : at_ < k * full + min k left
    · rw [List.getElem?_append_left (by omega)]
      exact i2 at_ h
    · rw [← hlen] at ha
      rw [List.getElem?_append_right (by omega), i1, List.getElem?_map]
      obtain ⟨r, hr⟩ : ∃ r, at_ - (k * full + min k left) = r := ⟨_, rfl⟩
      have hat : at_ = k * full + min k left + r := by omega
      rw [hr]
      by_cases hkl : k < left
      · rw [if_pos hkl] at ha
        have hr2 : r < full + 1 := by omega
        rw [if_pos hkl, List.getElem?_range hr2]
        have e1 : at_ = (full + 1) * k + r := by
          rw [hat, Nat.min_eq_left (by omega), Nat.add_mul, Nat.one_mul, Nat.mul_comm k full]
        have hlt : at_ < left * (full + 1) := by
          have h2 : (k + 1) * (full + 1) ≤ left * (full + 1) := Nat.mul_le_mul_right _ hkl
          rw [Nat.add_mul, Nat.mul_comm k] at h2
          omega
        rw [if_pos hlt, e1, Nat.mul_add_mod, Nat.mod_eq_of_lt hr2, Nat.mul_add_div (by omega), Nat.div_eq_of_lt hr2]
        simp
      · rw [if_neg hkl] at ha
        have hr2 : r < full := by omega
        rw [if_neg hkl, List.getElem?_range hr2]
        have e0 : left * (full + 1) = left * full + left := by rw [Nat.mul_add, Nat.mul_one]
        have e2 : k * full = left * full + (k - left) * full := by rw [← Nat.add_mul]; congr 1; omega
        have e1 : at_ - left * (full + 1) = full * (k - left) + r := by
          rw [hat, Nat.min_eq_right (by omega), Nat.mul_comm full (k - left)]
          omega
        have hge : ¬ at_ < left * (full + 1) := by
          rw [hat, Nat.min_eq_right (by omega)]
          omega
        rw [if_neg hge, e1, Nat.mul_add_mod, Nat.mod_eq_of_lt hr2, Nat.mul_add_div (by omega), Nat.div_eq_of_lt hr2]
        simp
        omega
theorem place_parts (n rows at_ : Nat) (hr : 1 ≤ rows) (h : at_ < n) : placeN n rows at_ = placeF n (colsN n rows) at_ := by
  have hge := colsN_ge n rows hr
  have hc : 0 < colsN n rows := by
    rcases Nat.eq_zero_or_pos (colsN n rows) with e | e
    · rw [e] at hge; omega
    · exact e
  have hd := Nat.div_add_mod n (colsN n rows)
  have hm := Nat.mod_lt n hc
  obtain ⟨_, h2⟩ := order_parts n rows (colsN n rows) hc hge (colsN n rows) (Nat.le_refl _)
  unfold placeN orderW
  rw [List.getD_eq_getElem?_getD, h2 at_ (by rw [Nat.min_eq_right (by omega)]; omega)]
  rfl

/-- one bit of eight laid -/
theorem lay_bit : ∀ a b c d e f g h : Fin 2, ∀ t : Fin 8, ∀ z : Fin 2, [a.val, b.val, c.val, d.val, e.val, f.val, g.val, h.val].getD t.val 0 = 0 →
    numBt ([a.val, b.val, c.val, d.val, e.val, f.val, g.val, h.val].set t.val z.val) = numBt [a.val, b.val, c.val, d.val, e.val, f.val, g.val, h.val] ||| (z.val * 2 ^ (7 - t.val) % 256) := by decide +kernel
theorem num_set (a : List Nat) (ha : a.length = 8) (h : ∀ x ∈ a, x ≤ 1) (t z : Nat) (ht : t < 8) (hz : z < 2) (h0 : a.getD t 0 = 0) : numBt (a.set t z) = numBt a ||| (z * 2 ^ (7 - t) % 256) := by
  match a, ha with
  | [a, b, c, d, e, f, g, i], _ =>
    simp only [List.mem_cons, List.not_mem_nil, or_false, forall_eq_or_imp, forall_eq] at h
    obtain ⟨h1, h2, h3, h4, h5, h6, h7, h8⟩ := h
    exact lay_bit ⟨a, by omega⟩ ⟨b, by omega⟩ ⟨c, by omega⟩ ⟨d, by omega⟩ ⟨e, by omega⟩ ⟨f, by omega⟩ ⟨g, by omega⟩ ⟨i, by omega⟩ ⟨t, ht⟩ ⟨z, hz⟩ h0
theorem textW_at (l : List Nat) (d : Nat) (h : d < l.length / 8) : (textW l)[d]? = some (UInt8.ofNat (numBt ((l.drop (8 * d)).take 8))) := by
  unfold textW textK
  rw [List.getElem?_map, List.getElem?_range h]
  rfl
theorem textW_set (l : List Nat) (d t z : Nat) (ht : t < 8) (h : d < l.length / 8) : textW (l.set (8 * d + t) z) = (textW l).set d (UInt8.ofNat (numBt (((l.drop (8 * d)).take 8).set t z))) := by
  apply List.ext_getElem?
  intro i
  by_cases hi : i < l.length / 8
  · rw [textW_at _ i (by rw [List.length_set]; exact hi)]
    by_cases hid : i = d
    · subst hid
      rw [List.getElem?_set_self (by rw [textW_len]; exact hi)]
      congr 3
      rw [List.drop_set, if_neg (by omega), List.take_set, Nat.add_sub_cancel_left]
    · rw [List.getElem?_set_ne (fun e => hid e.symm), textW_at _ i hi]
      congr 3
      rw [List.drop_set]
      split
      · rfl
      · rw [List.take_set, List.set_eq_of_length_le]
        simp
        omega
  · rw [List.getElem?_eq_none (by rw [textW_len, List.length_set]; omega), List.getElem?_eq_none (by rw [List.length_set, textW_len]; omega)]
theorem eight_bits (l : List Nat) (h1 : ∀ x ∈ l, x ≤ 1) (d : Nat) (h : d < l.length / 8) : ((l.drop (8 * d)).take 8).length = 8 ∧ (∀ x ∈ (l.drop (8 * d)).take 8, x ≤ 1) ∧ numBt ((l.drop (8 * d)).take 8) < 256 := by
  refine ⟨by simp; omega, fun x hx => h1 x (List.mem_of_mem_drop (List.mem_of_mem_take hx)), ?_⟩
  exact numBt_lt _ (fun x hx => h1 x (List.mem_of_mem_drop hx)) 8
theorem bitsW_at (b : List UInt8) : ∀ d t (hd : d < b.length) (_ : t < 8), (bitsW b).getD (8 * d + t) 0 = b[d].toNat / 2 ^ (7 - t) % 2 := by
  induction b with
  | nil => intro d t hd _; exact absurd hd (by simp)
  | cons x r ih =>
    intro d t hd ht
    have e : bitsW (x :: r) = bitL x ++ bitsW r := rfl
    rw [e]
    cases d with
    | zero =>
      rw [List.getD_eq_getElem?_getD, List.getElem?_append_left (by rw [bitL_len]; omega)]
      have h8 : t = 0 ∨ t = 1 ∨ t = 2 ∨ t = 3 ∨ t = 4 ∨ t = 5 ∨ t = 6 ∨ t = 7 := by omega
      rcases h8 with rfl | rfl | rfl | rfl | rfl | rfl | rfl | rfl <;> rfl
    | succ d =>
      rw [List.getD_eq_getElem?_getD, List.getElem?_append_right (by rw [bitL_len]; omega), bitL_len, show 8 * (d + 1) + t - 8 = 8 * d + t by omega, ← List.getD_eq_getElem?_getD]
      exact ih d t (by simpa using hd) ht
/-- nothing laid yet -/
theorem text_zeros (m : Nat) : textW (List.replicate (8 * m) 0) = List.replicate m 0 := by
  apply List.ext_getElem?
  intro i
  by_cases hi : i < m
  · rw [textW_at _ i (by simp; omega)]
    have e : ((List.replicate (8 * m) 0).drop (8 * i)).take 8 = List.replicate 8 0 := by
      rw [List.drop_replicate, List.take_replicate]
      congr 1
      omega
    rw [e, List.getElem?_replicate, if_pos hi]
    rfl
  · rw [List.getElem?_eq_none (by rw [textW_len]; simp; omega), List.getElem?_eq_none (by simp; omega)]
/-- read, the first j of them, the others not yet -/
def doK (o x : List Nat) (j : Nat) : List Nat := permL (o.take j) x ++ List.replicate (o.length - j) 0
theorem doK_zero (o x : List Nat) : doK o x 0 = List.replicate o.length 0 := by simp [doK, permL]
theorem doK_end (o x : List Nat) : doK o x o.length = permL o x := by simp [doK]
theorem doK_len (o x : List Nat) (j : Nat) (h : j ≤ o.length) : (doK o x j).length = o.length := by simp [doK, permL]; omega
theorem doK_none (o x : List Nat) (j : Nat) (h : j < o.length) : (doK o x j).getD j 0 = 0 := by
  have hl : (permL (o.take j) x).length = j := by simp [permL]; omega
  unfold doK
  rw [List.getD_eq_getElem?_getD, List.getElem?_append_right (by omega), hl, Nat.sub_self, List.getElem?_replicate]
  split <;> rfl
theorem doK_succ (o x : List Nat) (j : Nat) (h : j < o.length) : doK o x (j + 1) = (doK o x j).set j (x.getD (o[j]) 0) := by
  have hl : (permL (o.take j) x).length = j := by simp [permL]; omega
  unfold doK
  rw [List.set_append_right _ _ (by omega), hl, Nat.sub_self, show o.length - j = (o.length - (j + 1)) + 1 by omega, List.replicate_succ, List.set_cons_zero]
  unfold permL
  rw [List.take_succ_eq_append_getElem h, List.map_append, List.append_assoc]
  rfl
theorem permL_bits (o x : List Nat) (h : ∀ y ∈ x, y ≤ 1) : ∀ y ∈ permL o x, y ≤ 1 := by
  intro y hy
  unfold permL at hy
  obtain ⟨k, _, rfl⟩ := List.mem_map.1 hy
  rw [List.getD_eq_getElem?_getD]
  cases hk : x[k]? with
  | none => simp
  | some z => exact h z (List.mem_of_getElem? hk)
theorem doK_bit (o x : List Nat) (h : ∀ y ∈ x, y ≤ 1) (j : Nat) : ∀ y ∈ doK o x j, y ≤ 1 := by
  intro y hy
  rcases List.mem_append.1 hy with h1 | h1
  · exact permL_bits _ _ h y h1
  · rw [List.eq_of_mem_replicate h1]; exact Nat.zero_le _
theorem unpermK_none (o x : List Nat) (hn : o.Nodup) : ∀ k i (hi : i < o.length), k ≤ i → (unpermK o x k).getD o[i] 0 = 0 := by
  intro k
  induction k with
  | zero =>
    intro i hi _
    simp only [unpermK]
    rw [List.getD_eq_getElem?_getD, List.getElem?_replicate]
    split <;> rfl
  | succ k ih =>
    intro i hi hki
    have hko : k < o.length := by omega
    have e : o.getD k 0 = o[k] := by simp [List.getD_eq_getElem?_getD, List.getElem?_eq_getElem hko]
    have hne : o[k] ≠ o[i] := fun he => absurd ((List.getElem_inj hn).1 he) (by omega)
    simp only [unpermK, e]
    rw [List.getD_eq_getElem?_getD, List.getElem?_set_ne hne, ← List.getD_eq_getElem?_getD]
    exact ih i hi (by omega)
end Go.Proofs.YtkcpkfimmolkkaaDoor

/- Package weave by its contracts; what layer 11's law's own live answers over them. -/
namespace Go.Proofs.YtkcpkfimmolkkaaDoor
open Go.RowKit
set_option maxRecDepth 20000

def In11 (k : Int) : Prop := -9223372036854775808 ≤ k ∧ k ≤ 9223372036854775807
/-- what package weave answers, in plain words -/
structure WeC : Prop where
  do_ : ∀ (A : Option Addr) (n c : Nat) (b : List UInt8) (rows : Int) (w : World), Bys w A n c b → n ≤ 140737488355328 → In11 rows → Calls Tryd.prog 28 #[.slice A n c, .int .i64 rows] w (GivesB w (weaveB b rows))
  undo : ∀ (A : Option Addr) (n c : Nat) (b : List UInt8) (rows : Int) (w : World), Bys w A n c b → n ≤ 140737488355328 → In11 rows → Calls Tryd.prog 43 #[.slice A n c, .int .i64 rows] w (GivesB w (unweaveB b rows))
end Go.Proofs.YtkcpkfimmolkkaaDoor

/- What the landed package weave answers: may, across, Place, order, bit, put, Do, Undo; the whole package by its contracts. -/
namespace Go.Proofs.YtkcpkfimmolkkaaDoor
open Go.RowKit
set_option maxRecDepth 20000

set_option maxHeartbeats 1000000 in
theorem may11_any (n rows : Int) (w : World) :
    Calls Tryd.prog 77 #[.int .i64 n, .int .i64 rows] w fun e w' => e = .returned (.bool (decide (0 ≤ n ∧ n ≤ 65536 ∧ 1 ≤ rows ∧ rows ≤ 64))) ∧ w = w' := by
  obtain ⟨t1, d1⟩ : ∃ t, decide (0 ≤ n) = t := ⟨_, rfl⟩
  obtain ⟨t2, d2⟩ : ∃ t, decide (n ≤ 65536) = t := ⟨_, rfl⟩
  obtain ⟨t3, d3⟩ : ∃ t, decide (1 ≤ rows) = t := ⟨_, rfl⟩
  obtain ⟨t4, d4⟩ : ∃ t, decide (rows ≤ 64) = t := ⟨_, rfl⟩
  have HR : Hid (decide (0 ≤ n ∧ n ≤ 65536 ∧ 1 ≤ rows ∧ rows ≤ 64) = (t1 && (t2 && (t3 && t4)))) := by
    show _ = _
    rw [← d1, ← d2, ← d3, ← d4, Bool.decide_and, Bool.decide_and, Bool.decide_and]
  generalize decide (0 ≤ n ∧ n ≤ 65536 ∧ 1 ≤ rows ∧ rows ≤ 64) = R at *
  cases t1 <;> cases t2 <;> cases t3 <;> cases t4
  all_goals
    have HR := HR
    go_enter Tryd.func77, Tryd.ntmps77
    go_wp2
    go_ret
    exact ⟨by rw [HR.out]; rfl, rfl⟩
set_option maxHeartbeats 1000000 in
theorem across11_any (n rows : Nat) (w : World) (hn : n ≤ 65536) (hr : 1 ≤ rows) (hr2 : rows ≤ 64) :
    Calls Tryd.prog 78 #[.int .i64 (n : Int), .int .i64 (rows : Int)] w fun e w' => e = .returned (.int .i64 (colsN n rows : Int)) ∧ w = w' := by
  obtain ⟨C, hC⟩ : ∃ C, colsN n rows = C := ⟨_, rfl⟩
  have hC0 : (n + rows - 1) / rows = C := hC
  have hC3 : C ≤ 65536 := by have := colsN_le n rows hr; omega
  rw [hC]
  obtain ⟨s, hs⟩ : ∃ s, n + rows - 1 = s := ⟨_, rfl⟩
  rw [hs] at hC0
  have e1 : (n : Int) + (rows : Int) - 1 = (s : Int) := by omega
  have e2 : (s : Int) / (rows : Int) = (C : Int) := by rw [← hC0]; push_cast; rfl
  have e3 : Int.tdiv (s : Int) (rows : Int) = (C : Int) := by rw [← e2]; exact Int.tdiv_eq_ediv_of_nonneg (by omega)
  clear hC hC0 hs
  go_enter Tryd.func78, Tryd.ntmps78
  go_wp2
  go_ret
  exact ⟨rfl, rfl⟩
theorem low11 : ∀ k : Fin 256, bits .and .u8 (k.val : Int) 1 = ((k.val % 2 : Nat) : Int) := by decide +kernel
theorem bit_of (x s : Nat) (hx : x < 256) : bits .and .u8 ((x : Int) / 2 ^ s) 1 = ((x / 2 ^ s % 2 : Nat) : Int) := by
  have e : (x : Int) / 2 ^ s = ((x / 2 ^ s : Nat) : Int) := by push_cast; rfl
  rw [e]
  exact low11 ⟨x / 2 ^ s, Nat.lt_of_le_of_lt (Nat.div_le_self _ _) hx⟩
set_option maxHeartbeats 1000000 in
theorem bit11_any (A : Option Addr) (n c : Nat) (b : List UInt8) (q : Nat) (w : World) (hB : Bys w A n c b) (hn : n ≤ 8192) (hq : q < 8 * n) :
    Calls Tryd.prog 56 #[.slice A n c, .int .i64 (q : Int)] w fun e w' => e = .returned (.int .u8 (((bitsW b).getD q 0 : Nat) : Int)) ∧ w = w' := by
  obtain ⟨d, hd⟩ : ∃ d, q / 8 = d := ⟨_, rfl⟩
  obtain ⟨t, ht⟩ : ∃ t, q % 8 = t := ⟨_, rfl⟩
  have hqe : q = 8 * d + t := by omega
  have hdn : d < n := by omega
  have ht8 : t < 8 := by omega
  have hl := hB.len
  have hnc := hB.le
  have hcm := hB.cap
  have hat := bitsW_at b d t (by omega) ht8
  rw [← hqe] at hat
  obtain ⟨g, o, rfl, hg, hc⟩ := hB.at_ (by omega)
  have c1 := hc d (by omega)
  have hx := (b[d]'(by omega)).toNat_lt
  generalize (b[d]'(by omega)).toNat = x at *
  obtain ⟨s, hs⟩ : ∃ s, 7 - t = s := ⟨_, rfl⟩
  rw [hs] at hat
  have hb := bit_of x s hx
  rw [← hat] at hb
  have e1 : (q : Int) / 8 = (d : Int) := by omega
  have e2 : (q : Int) % 8 = (t : Int) := by omega
  have e3 : (7 : Int) - (t : Int) = (s : Int) := by omega
  have hs8 : s < 8 := by omega
  clear hc hB hat hd ht hqe hs
  generalize (bitsW b).getD q 0 = z at *
  go_enter Tryd.func56, Tryd.ntmps56
  go_wp2
  go_ret
  exact ⟨rfl, rfl⟩
theorem or11 (a b : Nat) (ha : a < 256) (hb : b < 256) : bits .or .u8 (a : Int) (b : Int) = ((a ||| b : Nat) : Int) := by
  have hx : a ||| b < 2 ^ 8 := Nat.or_lt_two_pow ha hb
  have e : ∀ a : Nat, a < 256 → (BitVec.ofInt 8 (a : Int)).toNat = a := fun a ha => by rw [BitVec.toNat_ofInt]; omega
  show IntKind.u8.wrap ((BitVec.ofInt 8 (a : Int) ||| BitVec.ofInt 8 (b : Int)).toNat : Nat) = _
  rw [BitVec.toNat_or, e a ha, e b hb]
  exact IntWalk.u8_in _ (by omega)
/-- n bytes of bits that the call itself laid -/
abbrev OwnT (w : World) (B g n : Nat) (l : List Nat) : Prop := w.ownsRow B 5 1 (.slice (some ⟨g, 0, none⟩) n n) n (bvs (textW l))
set_option maxHeartbeats 2000000 in
theorem put11_any (B g n : Nat) (l : List Nat) (q z : Nat) (w : World) (hown : OwnT w B g n l) (hBg : B ≤ g) (hl : l.length = 8 * n) (h1 : ∀ y ∈ l, y ≤ 1) (hn : n ≤ 8192) (hq : q < 8 * n) (hz : z < 2) (h0 : l.getD q 0 = 0) :
    Calls Tryd.prog 55 #[.slice (some ⟨g, 0, none⟩) n n, .int .i64 (q : Int), .int .u8 (z : Int)] w fun e w' => e = .returned (.tuple #[]) ∧ OwnT w' B g n (l.set q z) ∧ Below B w w' := by
  obtain ⟨d, hd⟩ : ∃ d, q / 8 = d := ⟨_, rfl⟩
  obtain ⟨t, ht⟩ : ∃ t, q % 8 = t := ⟨_, rfl⟩
  have hqe : q = 8 * d + t := by omega
  have hdn : d < n := by omega
  have ht8 : t < 8 := by omega
  have hdl : d < l.length / 8 := by omega
  obtain ⟨a1, a2, a3⟩ := eight_bits l h1 d hdl
  have hset := textW_set l d t z ht8 hdl
  rw [← hqe] at hset
  have hg0 : ((l.drop (8 * d)).take 8).getD t 0 = 0 := by
    rw [List.getD_eq_getElem?_getD, List.getElem?_take, if_pos ht8, List.getElem?_drop, ← hqe, ← List.getD_eq_getElem?_getD]
    exact h0
  have hns := num_set _ a1 a2 t z ht8 hz hg0
  have hat := textW_at l d hdl
  generalize (l.drop (8 * d)).take 8 = a at *
  obtain ⟨s, hs⟩ : ∃ s, 7 - t = s := ⟨_, rfl⟩
  rw [hs] at hns
  have ho := or11 (numBt a) (z * 2 ^ s % 256) a3 (Nat.mod_lt _ (by decide))
  rw [← hns] at ho
  have hp : ((z * 2 ^ s % 256 : Nat) : Int) = (z : Int) * 2 ^ s % 256 := by push_cast; rfl
  rw [hp] at ho
  have hy : numBt (a.set t z) < 256 := by
    rw [hns]
    exact Nat.or_lt_two_pow (n := 8) a3 (Nat.mod_lt _ (by decide))
  have c1 : w.cell? ⟨g, d, none⟩ = some (.int .u8 ((numBt a : Nat) : Int)) := by
    rw [hown.cellAt _ (by omega)]
    unfold bvs bv
    rw [List.getElem?_map, hat, Option.map_some, UInt8.toNat_ofNat', Nat.mod_eq_of_lt a3]
  have f1 := hown.frozenAt d
  have hnc := hown.lt g rfl
  have hncap : n ≤ 9223372036854775807 := by omega
  have HON := Lib.hid hown
  have HSET : Hid (bvs (textW (l.set q z)) = (bvs (textW l)).set d (.int .u8 ((numBt (a.set t z) : Nat) : Int))) := by
    show _ = _
    rw [hset]
    unfold bvs
    rw [List.map_set]
    congr 1
    show Value.int .u8 ((UInt8.ofNat _).toNat : Int) = _
    rw [UInt8.toNat_ofNat', Nat.mod_eq_of_lt hy]
  have e1 : (q : Int) / 8 = (d : Int) := by omega
  have e2 : (q : Int) % 8 = (t : Int) := by omega
  have e3 : (7 : Int) - (t : Int) = (s : Int) := by omega
  have hs8 : s < 8 := by omega
  clear hown hset hns hat hg0 a1 a2 h0 h1 hqe hd ht hs hp hl hdl
  generalize numBt (a.set t z) = y at *
  generalize numBt a = v at *
  go_enter Tryd.func55, Tryd.ntmps55
  go_wp2_with (fail)
  go_region
  go_wp2
  go_end0
  refine ⟨rfl, ?_, (below_drewN' (Below.refl _ _) 1).setCell hBg _⟩
  show World.ownsRow _ _ _ _ _ _ _
  rw [HSET.out]
  exact (HON.out.stored d (.int .u8 ((y : Nat) : Int))).1
theorem nat_i64 (p : Nat) (h : p ≤ 4611686018427387904) : IntKind.i64.wrap (p : Int) = (p : Int) ∧ wrap64 (p : Int) = (p : Int) := ⟨IntWalk.i64_in _ (by omega), IntWalk.wrap64_in _ (by omega)⟩
end Go.Proofs.YtkcpkfimmolkkaaDoor

/- What the landed package weave answers: Place. -/
namespace Go.Proofs.YtkcpkfimmolkkaaDoor
open Go.RowKit
set_option maxRecDepth 20000

end Go.Proofs.YtkcpkfimmolkkaaDoor

/- What the landed package weave answers: order, Do, Undo; the whole package by its contracts. -/
namespace Go.Proofs.YtkcpkfimmolkkaaDoor
open Go.RowKit
set_option maxRecDepth 20000

set_option maxHeartbeats 1000000 in
theorem order11_no (n rows : Int) (w : World) (h : ¬ (0 ≤ n ∧ n ≤ 65536 ∧ 1 ≤ rows ∧ rows ≤ 64)) :
    Calls Tryd.prog 54 #[.int .i64 n, .int .i64 rows] w fun e w' => e = .returned (.slice none 0 0) ∧ w = w' := by
  have HRI := may11_any n rows w
  rw [decide_eq_false h] at HRI
  have HRI := Lib.hid HRI
  clear h
  go_enter Tryd.func54, Tryd.ntmps54
  go_wp2_with (fail)
  refine HRI.out.mono ?_
  rintro e w1 ⟨rfl, rfl⟩
  go_wp2
  go_ret
  exact ⟨rfl, rfl⟩
set_option maxHeartbeats 4000000 in
theorem order11_any (n rows : Nat) (w : World) (hn : n ≤ 65536) (hr : 1 ≤ rows) (hr2 : rows ≤ 64) :
    Calls Tryd.prog 54 #[.int .i64 (n : Int), .int .i64 (rows : Int)] w (GivesI w (orderW n rows)) := by
  have HRI := may11_any (n : Int) (rows : Int) w
  rw [decide_eq_true (show 0 ≤ (n : Int) ∧ (n : Int) ≤ 65536 ∧ 1 ≤ (rows : Int) ∧ (rows : Int) ≤ 64 by omega)] at HRI
  have HRI := Lib.hid HRI
  have HAC := Lib.hid (across11_any n rows w hn hr hr2)
  have hC3 : colsN n rows ≤ 65536 := by have := colsN_le n rows hr; omega
  have HO : Hid (orderW n rows = orderK n rows (colsN n rows) (colsN n rows)) := by show _ = _; unfold orderW; rfl
  generalize colsN n rows = c at *
  obtain ⟨i0, hi, hz0, hz1, hz2⟩ := info_parts Tryd.infoI
  go_enter Tryd.func54, Tryd.ntmps54
  go_wp2_with (fail)
  refine HRI.out.mono ?_
  rintro e w1 ⟨rfl, rfl⟩
  go_wp2_with (fail)
  refine HAC.out.mono ?_
  rintro e w2 ⟨rfl, rfl⟩
  go_wp2_with (at_make; refine wpList_make_own _ rfl _ _ 79 rfl w.heap.size 3 i0 (.int .i64 0) 1 Tryd.underlying79 hi hz0 hz1 .i64 .i64 _ n rfl rfl (by omega) (by rw [hz2]; omega) (by unfold maxLen; omega) (Nat.le_refl _) ?_; intro w1 hown hgrow; have HON := Lib.hid (And.intro hown hgrow); clear hown hgrow)
  have HOI : Hid (OwnI w1 w.heap.size (.slice (some ⟨w.heap.size, 0, none⟩) 0 n) [] ∧ Below w.heap.size w w1) := ⟨HON.out.1, (Below.refl _ _).grown HON.out.2 (Nat.le_refl _) (by simp)⟩
  clear HON
  go_loopw [6, 20] (fun v i wr => ∃ k : Nat, k ≤ c ∧ i = .int .i64 (k : Int) ∧ OwnI wr w.heap.size v (orderK n rows c k) ∧ Below w.heap.size w wr) (fun _ i _ => c - (intOf i).toNat)
  case atStart => exact ⟨0, Nat.zero_le _, rfl, HOI.out.1, HOI.out.2⟩
  case round =>
    clear HOI
    obtain ⟨k, hk, rfl, hown, hbel⟩ := hrel
    by_cases hkc : k < c
    · have d2 : decide ((k : Int) < (c : Int)) = true := by simp; omega
      have hkl := orderK_le n rows c k
      have hkb : k * rows ≤ 4194304 := Nat.mul_le_mul (show k ≤ 65536 by omega) hr2
      have hol : (orderK n rows c k).length ≤ 4194304 := by omega
      have HS := Lib.hid (orderK_succ n rows c k)
      have HON := Lib.hid hown
      clear hown hkl hkb
      generalize hcur : orderK n rows c k = cur at *
      have HON0 : Hid (OwnI wr w.heap.size u6 (cur ++ colL n c k 0)) := by
        have e : cur ++ colL n c k 0 = cur := List.append_nil _
        show OwnI _ _ _ _
        rw [e]
        exact HON.out
      go_wp2_with (fail)
      go_loopw [6, 24] (fun v i w2 => ∃ r : Nat, r ≤ rows ∧ i = .int .i64 (r : Int) ∧ OwnI w2 w.heap.size v (cur ++ colL n c k r) ∧ Below w.heap.size w w2) (fun _ i _ => rows - (intOf i).toNat)
      case atStart => exact ⟨0, Nat.zero_le _, rfl, HON0.out, hbel⟩
      case round =>
        obtain ⟨r, hrr, rfl, hown, hbel2⟩ := hrel
        by_cases hlr : r < rows
        · have d3 : decide ((r : Int) < (rows : Int)) = true := by simp; omega
          obtain ⟨q, hq⟩ : ∃ q, r * c = q := ⟨_, rfl⟩
          have eqq : (r : Int) * (c : Int) = (q : Int) := by rw [← hq]; push_cast; rfl
          have hqb : q ≤ 4194304 := by rw [← hq]; exact Nat.mul_le_mul (show r ≤ 64 by omega) (show c ≤ 65536 by omega)
          have hcl := colL_le n c k r
          by_cases hin : q + k < n
          · have hcs := colL_in hq hin
            obtain ⟨z, hz⟩ : ∃ z, q + k = z := ⟨_, rfl⟩
            have ez : (q : Int) + (k : Int) = (z : Int) := by rw [← hz]; push_cast; rfl
            rw [hz] at hcs
            have HCS : Hid (cur ++ colL n c k (r + 1) = (cur ++ colL n c k r) ++ [z]) := by show _ = _; rw [hcs, List.append_assoc]
            have hzn : z < n := by rw [← hz]; exact hin
            have hzb : z ≤ 9000000 := Nat.le_trans (Nat.le_of_lt hzn) (Nat.le_trans hn (by decide))
            have d4 : decide ((z : Int) < (n : Int)) = true := by simp; omega
            clear hcs hz hq
            have hcurl : (cur ++ colL n c k r).length ≤ 9000000 := by rw [List.length_append]; exact Nat.le_trans (Nat.add_le_add hol (Nat.le_trans hcl (Nat.le_trans hrr hr2))) (by decide)
            generalize cur ++ colL n c k r = cc at *
            have HOO := Lib.hid hown
            have hsz := hbel2.size
            clear hown
            go_wp2_with ((with_reducible refine app_i _ rfl (.tmp 35) (.tmp 37) rfl w.heap.size u6 cc rfl ?_ wr.heap.size z rfl ?_ ?_ ?_ ?_); (exact HOO.out.below ((Below.refl _ _).alloc (Nat.le_refl _) _)); (exact heap_alloc_new wr _); (omega); (simp; omega); intro v3 w3 hown3 hgrow3 hwhere3; have HO3 := Lib.hid (And.intro hown3 hgrow3); clear hown3 hgrow3 hwhere3)
            go_roundw
            case rel =>
              refine ⟨r + 1, by omega, by go_num, ?_, ?_⟩
              · rw [HCS.out]
                exact HO3.out.1
              · exact (hbel2.alloc hsz _).grown HO3.out.2 (by simp; omega) (fun g hg => (HOO.out.lt g hg).1)
            case measure => simp [intOf]; omega
          · have hcs := colL_out hq hin
            obtain ⟨z, hz⟩ : ∃ z, q + k = z := ⟨_, rfl⟩
            have ez : (q : Int) + (k : Int) = (z : Int) := by rw [← hz]; push_cast; rfl
            have hzn : n ≤ z := by rw [← hz]; exact Nat.le_of_not_lt hin
            have hzb : z ≤ 9000000 := by rw [← hz]; exact Nat.le_trans (Nat.add_le_add hqb (Nat.le_trans hk hC3)) (by decide)
            have d4 : decide ((z : Int) < (n : Int)) = false := by simp; omega
            have HCS := Lib.hid hcs
            have HOO := Lib.hid hown
            clear hcs hz hq hown hin hcl
            go_wp2
            go_roundw
            case rel => exact ⟨r + 1, by omega, by go_num, by rw [HCS.out]; exact HOO.out, hbel2⟩
            case measure => simp [intOf]; omega
        · have d3 : decide ((r : Int) < (rows : Int)) = false := by simp; omega
          obtain rfl : r = rows := by omega
          rw [← HS.out] at hown
          have HOO := Lib.hid hown
          clear hown
          go_wp2
          go_roundw
          case rel => exact ⟨k + 1, by omega, by go_num, HOO.out, hbel2⟩
          case measure => simp [intOf]; omega
    · have d2 : decide ((k : Int) < (c : Int)) = false := by simp; omega
      obtain rfl : k = c := by omega
      rw [← HO.out] at hown
      have HOO := Lib.hid hown
      clear hown
      go_wp2
      go_ret
      exact ⟨_, rfl, HOO.out, hbel⟩
theorem zeros_row (n : Nat) : bvs (textW (List.replicate (8 * n) 0)) = List.replicate n (.int .u8 0) := by
  rw [text_zeros]
  unfold bvs bv
  rw [List.map_replicate]
  rfl
set_option maxHeartbeats 4000000 in
theorem do11_any (A : Option Addr) (n c : Nat) (b : List UInt8) (rows : Int) (w : World) (hB : Bys w A n c b) (hn : n ≤ 140737488355328) :
    Calls Tryd.prog 28 #[.slice A n c, .int .i64 rows] w (GivesB w (weaveB b rows)) := by
  have hl := hB.len
  have hnc := hB.le
  have hcm := hB.cap
  obtain ⟨i0, hi, hz0, hz1, hz2⟩ := info_parts Tryd.info5
  by_cases hok : okW n rows
  · have hok2 := hok
    unfold okW at hok2
    obtain ⟨R, rfl⟩ := Int.eq_ofNat_of_zero_le (show 0 ≤ rows by omega)
    have HW : Hid (weaveB b (R : Int) = textW (permL (orderW (8 * n) R) (bitsW b))) := by show _ = _; unfold weaveB; rw [hl, if_pos hok, Int.toNat_natCast]
    have hn8 : n ≤ 8192 := by omega
    have HOR := Lib.hid (order11_any (8 * n) R w (by omega) (by omega) (by omega))
    have HBT := Lib.hid (fun (q : Nat) (W : World) (hW : Below w.heap.size w W) (hq : q < 8 * n) => bit11_any A n c b q W (hB.below hW) hn8 hq)
    have hol := order_len (8 * n) R (by omega)
    have hmo : ∀ x, x ∈ orderW (8 * n) R → x < 8 * n := fun x hx => (mem_order (by omega)).1 hx
    have h1 := bitsW_bit b
    obtain ⟨M, hM⟩ : ∃ M, 8 * n = M := ⟨_, rfl⟩
    have eM : 8 * (n : Int) = (M : Int) := by omega
    have eMn : (M : Int) / 8 = (n : Int) := by omega
    have hM6 : M ≤ 65536 := by omega
    rw [hM] at HW HOR hol hmo HBT
    have HMM := Lib.hid hM
    have HMO := Lib.hid hmo
    have HLN := Lib.hid hol
    have HB1 := Lib.hid h1
    clear hok hok2 hol hmo hM hB h1
    generalize bitsW b = x at *
    generalize orderW M R = o at *
    go_enter Tryd.func28, Tryd.ntmps28
    go_wp2_with (fail)
    refine HOR.out.mono ?_
    rintro e w2 ⟨v2, rfl, hO2, T2⟩
    obtain ⟨A2, c2, hv2, hV2⟩ := hO2.shape
    rw [HLN.out] at hv2 hV2
    subst hv2
    have hz3 := T2.size
    have k2 := hV2.le
    have m2 := hV2.cap
    have HV2 := Lib.hid hV2.bit
    clear hO2 hV2
    go_wp2_with (at_make; refine wpList_make_full _ rfl _ _ 22 rfl w2.heap.size 5 i0 (.int .u8 0) 1 Tryd.underlying22 hi hz0 hz1 .i64 .i64 _ _ n rfl rfl rfl rfl (by rw [hz2]; omega) (by unfold maxLen; omega) (Nat.le_refl _) ?_; intro w3 hown hgrow; have HON := Lib.hid (And.intro hown hgrow); clear hown hgrow)
    go_loopw [20] (fun i wr => ∃ j : Nat, j ≤ M ∧ i = .int .i64 (j : Int) ∧ OwnT wr w2.heap.size w2.heap.size n (doK o x j) ∧ Below w2.heap.size w2 wr) (fun i _ => M - (intOf i).toNat)
    case atStart =>
      refine ⟨0, Nat.zero_le _, rfl, ?_, (Below.refl _ _).grown HON.out.2 (Nat.le_refl _) (by simp)⟩
      rw [doK_zero, HLN.out, ← HMM.out]
      show World.ownsRow _ _ _ _ _ _ _
      rw [zeros_row]
      simpa [toList_madeCells_one, Value.cells] using HON.out.1
    case round =>
      obtain ⟨j, hj, rfl, hown, hbel⟩ := hrel
      by_cases hlt : j < M
      · have d1 : decide ((j : Int) < (M : Int)) = true := by simp; omega
        obtain ⟨g3, o3, rfl, hg3, hc3⟩ := HV2.out (by omega)
        have hjo : j < o.length := by rw [HLN.out]; exact hlt
        have q3 := (hbel.cell (p := ⟨g3, o3 + j, none⟩) hg3).trans (hc3 j hjo)
        have hoj := HMO.out o[j] (List.getElem_mem hjo)
        have HST := Lib.hid (doK_succ o x j hjo)
        generalize o[j] = p at *
        have HB2 := Lib.hid (HBT.out p wr (nxt T2 hbel) hoj)
        have hx1 : x.getD p 0 < 2 := by
          rw [List.getD_eq_getElem?_getD]
          cases hk : x[p]? with
          | none => simp
          | some z => have := HB1.out z (List.mem_of_getElem? hk); simp; omega
        have HPT := Lib.hid (put11_any w2.heap.size w2.heap.size n (doK o x j) j (x.getD p 0) wr hown (Nat.le_refl _) (by rw [doK_len o x j (by omega), HLN.out, HMM.out]) (doK_bit o x HB1.out j) hn8 (by rw [HMM.out]; exact hlt) hx1 (doK_none o x j hjo))
        generalize x.getD p 0 = z at *
        clear hc3 hown hjo hoj
        go_wp2_with (fail)
        refine HB2.out.mono ?_
        rintro e w4 ⟨rfl, rfl⟩
        go_wp2_with (fail)
        refine HPT.out.mono ?_
        rintro e w5 ⟨rfl, hown5, T5⟩
        have HO5 := Lib.hid (And.intro hown5 T5)
        clear hown5 T5
        go_wp2
        go_roundw
        case rel =>
          refine ⟨j + 1, by omega, by go_num, ?_, hbel.trans HO5.out.2⟩
          rw [HST.out]
          exact HO5.out.1
        case measure => simp [intOf]; omega
      · have d1 : decide ((j : Int) < (M : Int)) = false := by simp; omega
        obtain rfl : j = M := by omega
        have e : doK o x j = permL o x := by rw [← HLN.out]; exact doK_end o x
        rw [e] at hown
        have hown2 : wr.ownsRow w2.heap.size 5 1 (.slice (some ⟨w2.heap.size, 0, none⟩) n n) n (bvs (textW (permL o x))) := hown
        rw [← HW.out] at hown2
        have HBB := Lib.hid (Bys.of_own hown2)
        have T6 := nxt T2 hbel
        clear hown hown2 e
        go_wp2
        go_ret
        exact ⟨_, _, _, rfl, HBB.out, T6⟩
  · have HW : Hid (weaveB b rows = []) := by show _ = _; unfold weaveB; rw [hl, if_neg hok]
    have HOR := Lib.hid (order11_no (8 * (n : Int)) rows w (by unfold okW at hok; omega))
    clear hB hok
    go_enter Tryd.func28, Tryd.ntmps28
    go_wp2_with (fail)
    refine HOR.out.mono ?_
    rintro e w1 ⟨rfl, rfl⟩
    go_wp2_with (at_make; refine wpList_make_full _ rfl _ _ 22 rfl w.heap.size 5 i0 (.int .u8 0) 1 Tryd.underlying22 hi hz0 hz1 .i64 .i64 _ _ 0 rfl rfl rfl rfl (by rw [hz2]; omega) (by unfold maxLen; omega) (Nat.le_refl _) ?_; intro w3 hown hgrow; have HON := Lib.hid (And.intro hown hgrow); clear hown hgrow)
    have HBE : Hid (Bys w3 (some ⟨w.heap.size, 0, none⟩) 0 0 (weaveB b rows) ∧ Below w.heap.size w w3) := ⟨by rw [HW.out]; exact Bys.empty _ _ _ (by unfold maxLen; omega), (Below.refl _ _).grown HON.out.2 (Nat.le_refl _) (by simp)⟩
    clear HON
    go_loopw [20] (fun i wr => i = .int .i64 0 ∧ w3 = wr) (fun _ _ => 0)
    case atStart => exact ⟨rfl, rfl⟩
    case round =>
      obtain ⟨rfl, rfl⟩ := hrel
      go_wp2
      go_ret
      exact ⟨_, _, _, rfl, HBE.out.1, HBE.out.2⟩
set_option maxHeartbeats 4000000 in
theorem undo11_any (A : Option Addr) (n c : Nat) (b : List UInt8) (rows : Int) (w : World) (hB : Bys w A n c b) (hn : n ≤ 140737488355328) :
    Calls Tryd.prog 43 #[.slice A n c, .int .i64 rows] w (GivesB w (unweaveB b rows)) := by
  have hl := hB.len
  have hnc := hB.le
  have hcm := hB.cap
  obtain ⟨i0, hi, hz0, hz1, hz2⟩ := info_parts Tryd.info5
  by_cases hok : okW n rows
  · have hok2 := hok
    unfold okW at hok2
    obtain ⟨R, rfl⟩ := Int.eq_ofNat_of_zero_le (show 0 ≤ rows by omega)
    have HW : Hid (unweaveB b (R : Int) = textW (unpermK (orderW (8 * n) R) (bitsW b) (8 * n))) := by show _ = _; unfold unweaveB; rw [hl, if_pos hok, Int.toNat_natCast]
    have hn8 : n ≤ 8192 := by omega
    have HOR := Lib.hid (order11_any (8 * n) R w (by omega) (by omega) (by omega))
    have HBT := Lib.hid (fun (q : Nat) (W : World) (hW : Below w.heap.size w W) (hq : q < 8 * n) => bit11_any A n c b q W (hB.below hW) hn8 hq)
    have hol := order_len (8 * n) R (by omega)
    have hmo : ∀ x, x ∈ orderW (8 * n) R → x < 8 * n := fun x hx => (mem_order (by omega)).1 hx
    have h1 := bitsW_bit b
    have hxl : (bitsW b).length = 8 * n := by rw [bitsW_len, hl]
    have hnd := order_nodup (8 * n) R
    obtain ⟨M, hM⟩ : ∃ M, 8 * n = M := ⟨_, rfl⟩
    have eM : 8 * (n : Int) = (M : Int) := by omega
    have eMn : (M : Int) / 8 = (n : Int) := by omega
    have hM6 : M ≤ 65536 := by omega
    rw [hM] at HW HOR hol hmo HBT hxl hnd
    have HXL := Lib.hid hxl
    have HND := Lib.hid hnd
    clear hxl hnd
    have HMM := Lib.hid hM
    have HMO := Lib.hid hmo
    have HLN := Lib.hid hol
    have HB1 := Lib.hid h1
    clear hok hok2 hol hmo hM hB h1
    generalize bitsW b = x at *
    generalize orderW M R = o at *
    go_enter Tryd.func43, Tryd.ntmps43
    go_wp2_with (fail)
    refine HOR.out.mono ?_
    rintro e w2 ⟨v2, rfl, hO2, T2⟩
    obtain ⟨A2, c2, hv2, hV2⟩ := hO2.shape
    rw [HLN.out] at hv2 hV2
    subst hv2
    have hz3 := T2.size
    have k2 := hV2.le
    have m2 := hV2.cap
    have HV2 := Lib.hid hV2.bit
    clear hO2 hV2
    go_wp2_with (at_make; refine wpList_make_full _ rfl _ _ 22 rfl w2.heap.size 5 i0 (.int .u8 0) 1 Tryd.underlying22 hi hz0 hz1 .i64 .i64 _ _ n rfl rfl rfl rfl (by rw [hz2]; omega) (by unfold maxLen; omega) (Nat.le_refl _) ?_; intro w3 hown hgrow; have HON := Lib.hid (And.intro hown hgrow); clear hown hgrow)
    go_loopw [20] (fun i wr => ∃ j : Nat, j ≤ M ∧ i = .int .i64 (j : Int) ∧ OwnT wr w2.heap.size w2.heap.size n (unpermK o x j) ∧ Below w2.heap.size w2 wr) (fun i _ => M - (intOf i).toNat)
    case atStart =>
      refine ⟨0, Nat.zero_le _, rfl, ?_, (Below.refl _ _).grown HON.out.2 (Nat.le_refl _) (by simp)⟩
      simp only [unpermK]
      rw [HXL.out, ← HMM.out]
      show World.ownsRow _ _ _ _ _ _ _
      rw [zeros_row]
      simpa [toList_madeCells_one, Value.cells] using HON.out.1
    case round =>
      obtain ⟨j, hj, rfl, hown, hbel⟩ := hrel
      by_cases hlt : j < M
      · have d1 : decide ((j : Int) < (M : Int)) = true := by simp; omega
        obtain ⟨g3, o3, rfl, hg3, hc3⟩ := HV2.out (by omega)
        have hjo : j < o.length := by rw [HLN.out]; exact hlt
        have q3 := (hbel.cell (p := ⟨g3, o3 + j, none⟩) hg3).trans (hc3 j hjo)
        have hoj := HMO.out o[j] (List.getElem_mem hjo)
        have hst : unpermK o x (j + 1) = (unpermK o x j).set o[j] (x.getD j 0) := by
          show (unpermK o x j).set (o.getD j 0) (x.getD j 0) = _
          rw [List.getD_eq_getElem?_getD (l := o), List.getElem?_eq_getElem hjo]
          rfl
        have HST := Lib.hid hst
        have hnone := unpermK_none o x HND.out j j hjo (Nat.le_refl _)
        generalize o[j] = p at *
        have HB2 := Lib.hid (HBT.out j wr (nxt T2 hbel) hlt)
        have hx1 : x.getD j 0 < 2 := by
          rw [List.getD_eq_getElem?_getD]
          cases hk : x[j]? with
          | none => simp
          | some z => have := HB1.out z (List.mem_of_getElem? hk); simp; omega
        have HPT := Lib.hid (put11_any w2.heap.size w2.heap.size n (unpermK o x j) p (x.getD j 0) wr hown (Nat.le_refl _) (by rw [unpermK_len, HXL.out, HMM.out]) (unpermK_bit o x HB1.out j) hn8 (by rw [HMM.out]; exact hoj) hx1 hnone)
        generalize x.getD j 0 = z at *
        clear hst hnone
        clear hc3 hown hjo hoj
        go_wp2_with (fail)
        refine HB2.out.mono ?_
        rintro e w4 ⟨rfl, rfl⟩
        go_wp2_with (fail)
        refine HPT.out.mono ?_
        rintro e w5 ⟨rfl, hown5, T5⟩
        have HO5 := Lib.hid (And.intro hown5 T5)
        clear hown5 T5
        go_wp2
        go_roundw
        case rel =>
          refine ⟨j + 1, by omega, by go_num, ?_, hbel.trans HO5.out.2⟩
          rw [HST.out]
          exact HO5.out.1
        case measure => simp [intOf]; omega
      · have d1 : decide ((j : Int) < (M : Int)) = false := by simp; omega
        obtain rfl : j = M := by omega
        have hown2 : wr.ownsRow w2.heap.size 5 1 (.slice (some ⟨w2.heap.size, 0, none⟩) n n) n (bvs (textW (unpermK o x j))) := hown
        rw [← HW.out] at hown2
        have HBB := Lib.hid (Bys.of_own hown2)
        have T6 := nxt T2 hbel
        clear hown hown2
        go_wp2
        go_ret
        exact ⟨_, _, _, rfl, HBB.out, T6⟩
  · have HW : Hid (unweaveB b rows = []) := by show _ = _; unfold unweaveB; rw [hl, if_neg hok]
    have HOR := Lib.hid (order11_no (8 * (n : Int)) rows w (by unfold okW at hok; omega))
    clear hB hok
    go_enter Tryd.func43, Tryd.ntmps43
    go_wp2_with (fail)
    refine HOR.out.mono ?_
    rintro e w1 ⟨rfl, rfl⟩
    go_wp2_with (at_make; refine wpList_make_full _ rfl _ _ 22 rfl w.heap.size 5 i0 (.int .u8 0) 1 Tryd.underlying22 hi hz0 hz1 .i64 .i64 _ _ 0 rfl rfl rfl rfl (by rw [hz2]; omega) (by unfold maxLen; omega) (Nat.le_refl _) ?_; intro w3 hown hgrow; have HON := Lib.hid (And.intro hown hgrow); clear hown hgrow)
    have HBE : Hid (Bys w3 (some ⟨w.heap.size, 0, none⟩) 0 0 (unweaveB b rows) ∧ Below w.heap.size w w3) := ⟨by rw [HW.out]; exact Bys.empty _ _ _ (by unfold maxLen; omega), (Below.refl _ _).grown HON.out.2 (Nat.le_refl _) (by simp)⟩
    clear HON
    go_loopw [20] (fun i wr => i = .int .i64 0 ∧ w3 = wr) (fun _ _ => 0)
    case atStart => exact ⟨rfl, rfl⟩
    case round =>
      obtain ⟨rfl, rfl⟩ := hrel
      go_wp2
      go_ret
      exact ⟨_, _, _, rfl, HBE.out.1, HBE.out.2⟩
theorem weC : WeC where
  do_ := fun A n c b rows w hB hn _ => do11_any A n c b rows w hB hn
  undo := fun A n c b rows w hB hn _ => undo11_any A n c b rows w hB hn
end Go.Proofs.YtkcpkfimmolkkaaDoor
