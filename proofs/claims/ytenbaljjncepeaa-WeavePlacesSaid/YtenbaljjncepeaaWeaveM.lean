/- Plain facts on bits that are laid apart: the order in which they are read, bits of bytes, bytes of bits, there and back. Nothing of the program is in here. -/
import Derived.KernelRfl
namespace Go.Proofs.Ytenbaljjncepeaa

/-- a column's numbers, of the first k rows -/
def colL (n cols c k : Nat) : List Nat := ((List.range k).filter fun r => decide (r * cols + c < n)).map fun r => r * cols + c
/-- the first k columns' numbers -/
def orderK (n rows cols k : Nat) : List Nat := (List.range k).flatMap fun c => colL n cols c rows
def colsN (n rows : Nat) : Nat := (n + rows - 1) / rows
def orderW (n rows : Nat) : List Nat := orderK n rows (colsN n rows) (colsN n rows)
theorem colL_succ (n cols c k : Nat) : colL n cols c (k + 1) = if k * cols + c < n then colL n cols c k ++ [k * cols + c] else colL n cols c k := by
  unfold colL
  rw [List.range_succ, List.filter_append]
  by_cases h : k * cols + c < n
  · rw [if_pos h]
    simp [h]
  · rw [if_neg h]
    simp [h]
theorem orderK_succ (n rows cols k : Nat) : orderK n rows cols (k + 1) = orderK n rows cols k ++ colL n cols k rows := by
  unfold orderK
  rw [List.range_succ, List.flatMap_append]
  simp
theorem colsN_ge (n rows : Nat) (hr : 1 ≤ rows) : n ≤ colsN n rows * rows := by
  unfold colsN
  have h := Nat.div_add_mod (n + rows - 1) rows
  have h2 := Nat.mod_lt (n + rows - 1) (show 0 < rows by omega)
  rw [Nat.mul_comm]
  omega
theorem colsN_lt (n rows c : Nat) (hr : 1 ≤ rows) (h : c < colsN n rows) : c * rows < n := by
  unfold colsN at h
  have h1 := (Nat.le_div_iff_mul_le (show 0 < rows by omega)).1 (show c + 1 ≤ (n + rows - 1) / rows by omega)
  rw [Nat.add_mul] at h1
  omega
theorem mem_col {n cols c k x : Nat} : x ∈ colL n cols c k ↔ ∃ r, r < k ∧ r * cols + c < n ∧ x = r * cols + c := by
  unfold colL
  simp only [List.mem_map, List.mem_filter, List.mem_range, decide_eq_true_eq]
  constructor
  · rintro ⟨r, ⟨h1, h2⟩, rfl⟩; exact ⟨r, h1, h2, rfl⟩
  · rintro ⟨r, h1, h2, rfl⟩; exact ⟨r, ⟨h1, h2⟩, rfl⟩
theorem mem_order {n rows x : Nat} (hr : 1 ≤ rows) : x ∈ orderW n rows ↔ x < n := by
  unfold orderW orderK
  simp only [List.mem_flatMap, List.mem_range, mem_col]
  constructor
  · rintro ⟨c, _, r, _, h, rfl⟩; exact h
  · intro hx
    have hge := colsN_ge n rows hr
    have hc : 0 < colsN n rows := by
      rcases Nat.eq_zero_or_pos (colsN n rows) with h | h
      · rw [h] at hge; omega
      · exact h
    generalize colsN n rows = cols at *
    have hd := Nat.div_add_mod x cols
    rw [Nat.mul_comm] at hd
    exact ⟨x % cols, Nat.mod_lt _ hc, x / cols, Nat.div_lt_of_lt_mul (by omega), by omega, hd.symm⟩
theorem order_nodup (n rows : Nat) : (orderW n rows).Nodup := by
  unfold orderW orderK
  generalize hcc : colsN n rows = cols
  rw [List.Nodup, List.pairwise_flatMap]
  refine ⟨fun c hc => ?_, ?_⟩
  · have hc' : c < cols := List.mem_range.1 hc
    unfold colL
    rw [List.pairwise_map, List.pairwise_filter]
    refine List.Pairwise.imp ?_ (List.nodup_range (n := rows))
    intro a b hab _ _ e
    have : a * cols = b * cols := by omega
    exact hab (Nat.eq_of_mul_eq_mul_right (by omega) this)
  · refine List.Pairwise.imp_of_mem ?_ (List.nodup_range (n := cols))
    intro a b ha hb hab x hx y hy e
    have ha' := List.mem_range.1 ha
    have hb' := List.mem_range.1 hb
    obtain ⟨r, _, _, rfl⟩ := mem_col.1 hx
    obtain ⟨s, _, _, rfl⟩ := mem_col.1 hy
    have h1 : (r * cols + a) % cols = a := by rw [Nat.mul_comm, Nat.mul_add_mod, Nat.mod_eq_of_lt ha']
    have h2 : (s * cols + b) % cols = b := by rw [Nat.mul_comm, Nat.mul_add_mod, Nat.mod_eq_of_lt hb']
    rw [e, h2] at h1
    exact hab h1.symm
theorem order_len (n rows : Nat) (hr : 1 ≤ rows) : (orderW n rows).length = n := by
  have h := (List.perm_ext_iff_of_nodup (order_nodup n rows) (List.nodup_range (n := n))).2 (fun a => by rw [mem_order hr, List.mem_range])
  have := h.length_eq
  rwa [List.length_range] at this
theorem colL_full (cols rows c : Nat) (hc : c < cols) : colL (cols * rows) cols c rows = (List.range rows).map fun r => r * cols + c := by
  unfold colL
  congr 1
  rw [List.filter_eq_self]
  intro r hr
  have h := List.mem_range.1 hr
  have h2 : (r + 1) * cols ≤ rows * cols := Nat.mul_le_mul_right _ h
  rw [Nat.add_mul] at h2
  rw [decide_eq_true_eq, Nat.mul_comm cols rows]
  omega
theorem colsN_full (cols rows : Nat) (hr : 1 ≤ rows) : colsN (cols * rows) rows = cols := by
  unfold colsN
  rw [show cols * rows + rows - 1 = (rows - 1) + rows * cols by rw [Nat.mul_comm]; omega, Nat.add_mul_div_left _ _ (by omega), Nat.div_eq_of_lt (by omega), Nat.zero_add]
theorem order_full (cols rows : Nat) (hr : 1 ≤ rows) : ∀ k, k ≤ cols → (orderK (cols * rows) rows cols k).length = k * rows ∧ ∀ at_, at_ < k * rows → (orderK (cols * rows) rows cols k)[at_]? = some (at_ % rows * cols + at_ / rows) := by
  intro k
  induction k with
  | zero => intro _; simp [orderK]
  | succ k ih =>
    intro hk
    obtain ⟨i1, i2⟩ := ih (by omega)
    rw [orderK_succ, colL_full cols rows k (by omega)]
    refine ⟨by simp [i1, Nat.add_mul], fun at_ ha => ?_⟩
    by_cases h : at_ < k * rows
    · rw [List.getElem?_append_left (by omega)]
      exact i2 at_ h
    · rw [Nat.add_mul] at ha
      rw [List.getElem?_append_right (by omega), i1, List.getElem?_map, List.getElem?_range (by omega)]
      have e1 : at_ / rows = k := by
        have h3 : at_ = rows * k + (at_ - k * rows) := by rw [Nat.mul_comm]; omega
        rw [h3, Nat.mul_add_div (by omega), Nat.div_eq_of_lt (by omega)]
        omega
      have e2 : at_ % rows = at_ - k * rows := by
        have h3 := Nat.div_add_mod at_ rows
        rw [e1, Nat.mul_comm] at h3
        omega
      rw [e1, e2]
      simp
/-- what Place answers -/
def placeN (n rows at_ : Nat) : Nat := (orderW n rows).getD at_ 0
theorem place_full (cols rows at_ : Nat) (hr : 1 ≤ rows) (h : at_ < cols * rows) : placeN (cols * rows) rows at_ = at_ % rows * cols + at_ / rows := by
  unfold placeN orderW
  rw [colsN_full cols rows hr, List.getD_eq_getElem?_getD, (order_full cols rows hr cols (Nat.le_refl _)).2 at_ h]
  rfl
/-- P11.4 -/
theorem place_apart (cols rows a o : Nat) (hr : 1 ≤ rows) (ho : 1 ≤ o) (hor : o < rows) (h : a + o < cols * rows) :
    (cols : Int) - 1 ≤ (placeN (cols * rows) rows a : Int) - placeN (cols * rows) rows (a + o) ∨ (cols : Int) - 1 ≤ (placeN (cols * rows) rows (a + o) : Int) - placeN (cols * rows) rows a := by
  rw [place_full cols rows a hr (by omega), place_full cols rows (a + o) hr h]
  have hd := Nat.div_add_mod a rows
  have hm := Nat.mod_lt a (show 0 < rows by omega)
  generalize a / rows = q at *
  generalize a % rows = r at *
  by_cases hro : r + o < rows
  · have e1 : (a + o) / rows = q := by
      rw [← hd, Nat.add_assoc, Nat.mul_add_div (by omega), Nat.div_eq_of_lt hro]; omega
    have e2 : (a + o) % rows = r + o := by
      rw [← hd, Nat.add_assoc, Nat.mul_add_mod, Nat.mod_eq_of_lt hro]
    rw [e1, e2, Nat.add_mul]
    have : cols ≤ o * cols := Nat.le_mul_of_pos_left _ (by omega)
    right
    omega
  · have e0 : a + o = rows * (q + 1) + (r + o - rows) := by rw [Nat.mul_add]; omega
    have e1 : (a + o) / rows = q + 1 := by
      rw [e0, Nat.mul_add_div (by omega), Nat.div_eq_of_lt (by omega)]
    have e2 : (a + o) % rows = r + o - rows := by
      rw [e0, Nat.mul_add_mod, Nat.mod_eq_of_lt (by omega)]
    rw [e1, e2]
    have e3 : r * cols = (r + o - rows) * cols + (rows - o) * cols := by rw [← Nat.add_mul]; congr 1; omega
    have : cols ≤ (rows - o) * cols := Nat.le_mul_of_pos_left _ (by omega)
    left
    omega

/-- a byte's bits, the highest first; bytes' bits -/
def bitL (x : UInt8) : List Nat := [x.toNat / 128 % 2, x.toNat / 64 % 2, x.toNat / 32 % 2, x.toNat / 16 % 2, x.toNat / 8 % 2, x.toNat / 4 % 2, x.toNat / 2 % 2, x.toNat / 1 % 2]
def bitsW (b : List UInt8) : List Nat := b.flatMap bitL
theorem bitL_len (x : UInt8) : (bitL x).length = 8 := rfl
theorem bitsW_len (b : List UInt8) : (bitsW b).length = 8 * b.length := by
  induction b with
  | nil => rfl
  | cons x r ih =>
    have e : bitsW (x :: r) = bitL x ++ bitsW r := rfl
    rw [e, List.length_append, ih, bitL_len, List.length_cons]
    omega
theorem bitsW_take (b : List UInt8) (k : Nat) (h : k < b.length) : bitsW (b.take (k + 1)) = bitsW (b.take k) ++ bitL b[k] := by
  rw [List.take_succ_eq_append_getElem h]
  unfold bitsW
  rw [List.flatMap_append]
  simp
theorem bitsW_bit (b : List UInt8) : ∀ x ∈ bitsW b, x ≤ 1 := by
  intro x hx
  obtain ⟨y, _, h⟩ := List.mem_flatMap.1 hx
  simp only [bitL, List.mem_cons, List.not_mem_nil, or_false] at h
  omega
/-- the number of bits, the first the highest -/
def numBt (l : List Nat) : Nat := l.foldl (fun n x => 2 * n + x) 0
theorem numBt_snoc (l : List Nat) (x : Nat) : numBt (l ++ [x]) = 2 * numBt l + x := by simp [numBt, List.foldl_append]
theorem numBt_lt (l : List Nat) (h : ∀ x ∈ l, x ≤ 1) (k : Nat) : numBt (l.take k) < 2 ^ k := by
  induction k with
  | zero => simp [numBt]
  | succ k ih =>
    by_cases hk : k < l.length
    · rw [List.take_succ_eq_append_getElem hk, numBt_snoc]
      have := h _ (List.getElem_mem hk)
      rw [Nat.pow_succ]
      omega
    · rw [List.take_of_length_le (by omega)] at ih ⊢
      rw [Nat.pow_succ]
      omega
/-- bytes of bits, eight a byte -/
def textK (l : List Nat) (k : Nat) : List UInt8 := (List.range k).map fun i => UInt8.ofNat (numBt ((l.drop (8 * i)).take 8))
def textW (l : List Nat) : List UInt8 := textK l (l.length / 8)
theorem textK_succ (l : List Nat) (k : Nat) : textK l (k + 1) = textK l k ++ [UInt8.ofNat (numBt ((l.drop (8 * k)).take 8))] := by
  unfold textK
  rw [List.range_succ, List.map_append]
  rfl
theorem textW_cons (a l : List Nat) (ha : a.length = 8) : textW (a ++ l) = UInt8.ofNat (numBt a) :: textW l := by
  unfold textW textK
  rw [List.length_append, ha, show (8 + l.length) / 8 = l.length / 8 + 1 by omega, List.range_succ_eq_map, List.map_cons, List.map_map]
  congr 1
  · rw [Nat.mul_zero, List.drop_zero, List.take_append_of_le_length (by omega), ← ha, List.take_length]
  · apply List.map_congr_left
    intro i _
    show UInt8.ofNat (numBt (((a ++ l).drop (8 * (i + 1))).take 8)) = _
    rw [show 8 * (i + 1) = a.length + 8 * i by omega, List.drop_append, List.drop_of_length_le (by omega), List.nil_append, Nat.add_sub_cancel_left]
theorem byte_bits : ∀ x : Fin 256, numBt (bitL (UInt8.ofNat x.val)) = x.val := by decide +kernel
theorem num_bitL (x : UInt8) : UInt8.ofNat (numBt (bitL x)) = x := by
  have h := byte_bits ⟨x.toNat, x.toNat_lt⟩
  simp only [UInt8.ofNat_toNat] at h
  rw [h]
  simp
theorem textW_bitsW (b : List UInt8) : textW (bitsW b) = b := by
  induction b with
  | nil => rfl
  | cons x r ih =>
    have e : bitsW (x :: r) = bitL x ++ bitsW r := rfl
    rw [e, textW_cons _ _ (bitL_len x), num_bitL, ih]
theorem bits_byte : ∀ a b c d e f g h : Fin 2, bitL (UInt8.ofNat (numBt [a.val, b.val, c.val, d.val, e.val, f.val, g.val, h.val])) = [a.val, b.val, c.val, d.val, e.val, f.val, g.val, h.val] := by decide +kernel
theorem bitL_num (a : List Nat) (ha : a.length = 8) (h : ∀ x ∈ a, x ≤ 1) : bitL (UInt8.ofNat (numBt a)) = a := by
  match a, ha with
  | [a, b, c, d, e, f, g, i], _ =>
    simp only [List.mem_cons, List.not_mem_nil, or_false, forall_eq_or_imp, forall_eq] at h
    obtain ⟨h1, h2, h3, h4, h5, h6, h7, h8⟩ := h
    exact bits_byte ⟨a, by omega⟩ ⟨b, by omega⟩ ⟨c, by omega⟩ ⟨d, by omega⟩ ⟨e, by omega⟩ ⟨f, by omega⟩ ⟨g, by omega⟩ ⟨i, by omega⟩
theorem bitsW_textW (m : Nat) : ∀ l : List Nat, l.length = 8 * m → (∀ x ∈ l, x ≤ 1) → bitsW (textW l) = l := by
  induction m with
  | zero =>
    intro l hl _
    have : l = [] := List.eq_nil_of_length_eq_zero (by omega)
    subst this
    rfl
  | succ m ih =>
    intro l hl h
    have e : l = l.take 8 ++ l.drop 8 := (List.take_append_drop 8 l).symm
    have h8 : (l.take 8).length = 8 := by simp; omega
    have h1 : ∀ x ∈ l.take 8, x ≤ 1 := fun x hx => h x (List.mem_of_mem_take hx)
    have h2 := ih (l.drop 8) (by simp; omega) (fun x hx => h x (List.mem_of_mem_drop hx))
    rw [e, textW_cons _ _ h8]
    have e2 : bitsW (UInt8.ofNat (numBt (l.take 8)) :: textW (l.drop 8)) = bitL (UInt8.ofNat (numBt (l.take 8))) ++ bitsW (textW (l.drop 8)) := rfl
    rw [e2, h2, bitL_num _ h8 h1]
theorem textW_len (l : List Nat) : (textW l).length = l.length / 8 := by simp [textW, textK]

/-- read in an order; written back in it -/
def permL (o x : List Nat) : List Nat := o.map fun k => x.getD k 0
def unpermK (o x : List Nat) : Nat → List Nat
  | 0 => List.replicate x.length 0
  | k + 1 => (unpermK o x k).set (o.getD k 0) (x.getD k 0)
theorem unpermK_len (o x : List Nat) (k : Nat) : (unpermK o x k).length = x.length := by
  induction k with
  | zero => simp [unpermK]
  | succ k ih => simp [unpermK, ih]
/-- the order goes through all places once -/
def Perm (o : List Nat) (n : Nat) : Prop := o.Nodup ∧ o.length = n ∧ ∀ x, x ∈ o ↔ x < n
theorem unpermK_at (o x : List Nat) (n : Nat) (h : Perm o n) (hx : x.length = n) : ∀ k, k ≤ n → ∀ i (hi : i < o.length), i < k → (unpermK o x k).getD o[i] 0 = x.getD i 0 := by
  obtain ⟨h1, h2, h3⟩ := h
  intro k
  induction k with
  | zero => intro _ i _ hik; omega
  | succ k ih =>
    intro hk i hi hik
    have hoi := (h3 o[i]).1 (List.getElem_mem hi)
    have hlen := unpermK_len o x k
    have hko : k < o.length := by omega
    have e : o.getD k 0 = o[k] := by simp [List.getD_eq_getElem?_getD, List.getElem?_eq_getElem hko]
    simp only [unpermK, e]
    by_cases hik2 : i = k
    · subst hik2
      simp only [List.getD_eq_getElem?_getD]
      rw [List.getElem?_set_self (by omega)]
      simp
    · have hne : o[k] ≠ o[i] := fun he => hik2 ((List.getElem_inj h1).1 he).symm
      rw [List.getD_eq_getElem?_getD, List.getElem?_set_ne hne, ← List.getD_eq_getElem?_getD]
      exact ih (by omega) i hi (by omega)
theorem perm_unperm (o x : List Nat) (n : Nat) (h : Perm o n) (hx : x.length = n) : permL o (unpermK o x n) = x := by
  have hl := h.2.1
  unfold permL
  apply List.ext_getElem
  · simp; omega
  · intro i h1 h2
    rw [List.getElem_map, unpermK_at o x n h hx n (Nat.le_refl _) i (by omega) (by omega), List.getD_eq_getElem?_getD, List.getElem?_eq_getElem h2]
    rfl
theorem unperm_perm (o x : List Nat) (n : Nat) (h : Perm o n) (hx : x.length = n) : unpermK o (permL o x) n = x := by
  have hl := h.2.1
  have hpl : (permL o x).length = n := by simp [permL]; omega
  have hul := unpermK_len o (permL o x) n
  apply List.ext_getElem
  · omega
  · intro p h1 h2
    obtain ⟨i, hi, he⟩ := List.mem_iff_getElem.1 ((h.2.2 p).2 (by omega))
    have hu := unpermK_at o (permL o x) n h hpl n (Nat.le_refl _) i hi (by omega)
    rw [he] at hu
    have e1 : (unpermK o (permL o x) n).getD p 0 = (unpermK o (permL o x) n)[p] := by simp [List.getD_eq_getElem?_getD, List.getElem?_eq_getElem h1]
    have e2 : (permL o x).getD i 0 = x[p] := by
      unfold permL
      rw [List.getD_eq_getElem?_getD, List.getElem?_map, List.getElem?_eq_getElem hi, he]
      simp [List.getD_eq_getElem?_getD, List.getElem?_eq_getElem h2]
    rw [← e1, hu, e2]
theorem order_perm (n rows : Nat) (hr : 1 ≤ rows) : Perm (orderW n rows) n := ⟨order_nodup n rows, order_len n rows hr, fun _ => mem_order hr⟩
/-- may rows, and bytes, be? -/
def okW (m : Nat) (rows : Int) : Prop := m ≤ 8192 ∧ 1 ≤ rows ∧ rows ≤ 64
instance (m : Nat) (rows : Int) : Decidable (okW m rows) := by unfold okW; infer_instance
/-- what Do and Undo answer -/
def weaveB (b : List UInt8) (rows : Int) : List UInt8 := if okW b.length rows then textW (permL (orderW (8 * b.length) rows.toNat) (bitsW b)) else []
def unweaveB (b : List UInt8) (rows : Int) : List UInt8 := if okW b.length rows then textW (unpermK (orderW (8 * b.length) rows.toNat) (bitsW b) (8 * b.length)) else []
theorem permL_bit (o x : List Nat) (h : ∀ y ∈ x, y ≤ 1) : ∀ y ∈ permL o x, y ≤ 1 := by
  intro y hy
  obtain ⟨k, _, rfl⟩ := List.mem_map.1 hy
  rw [List.getD_eq_getElem?_getD]
  cases hk : x[k]? with
  | none => simp
  | some z => exact h z (List.mem_of_getElem? hk)
theorem unpermK_bit (o x : List Nat) (h : ∀ y ∈ x, y ≤ 1) (k : Nat) : ∀ y ∈ unpermK o x k, y ≤ 1 := by
  induction k with
  | zero =>
    intro y hy
    have := List.eq_of_mem_replicate hy
    omega
  | succ k ih =>
    intro y hy
    rcases List.mem_or_eq_of_mem_set hy with h1 | h1
    · exact ih y h1
    · subst h1
      rw [List.getD_eq_getElem?_getD]
      cases hk : x[k]? with
      | none => simp
      | some z => exact h z (List.mem_of_getElem? hk)
/-- P11.3 -/
theorem unweave_weave (b : List UInt8) (rows : Int) (h : okW b.length rows) : unweaveB (weaveB b rows) rows = b := by
  have hr : 1 ≤ rows.toNat := by unfold okW at h; omega
  have hp := order_perm (8 * b.length) rows.toNat hr
  have hbl := bitsW_len b
  have hpl : (permL (orderW (8 * b.length) rows.toNat) (bitsW b)).length = 8 * b.length := by simp [permL, hp.2.1]
  have hlen : (weaveB b rows).length = b.length := by
    unfold weaveB
    rw [if_pos h, textW_len, hpl]
    omega
  unfold unweaveB
  rw [hlen, if_pos h]
  unfold weaveB
  rw [if_pos h, bitsW_textW b.length _ hpl (permL_bit _ _ (bitsW_bit b)), unperm_perm _ _ _ hp hbl, textW_bitsW]
theorem weave_unweave (b : List UInt8) (rows : Int) (h : okW b.length rows) : weaveB (unweaveB b rows) rows = b := by
  have hr : 1 ≤ rows.toNat := by unfold okW at h; omega
  have hp := order_perm (8 * b.length) rows.toNat hr
  have hbl := bitsW_len b
  have hul : (unpermK (orderW (8 * b.length) rows.toNat) (bitsW b) (8 * b.length)).length = 8 * b.length := by rw [unpermK_len, hbl]
  have hlen : (unweaveB b rows).length = b.length := by
    unfold unweaveB
    rw [if_pos h, textW_len, hul]
    omega
  unfold weaveB
  rw [hlen, if_pos h]
  unfold unweaveB
  rw [if_pos h, bitsW_textW b.length _ hul (unpermK_bit _ _ (bitsW_bit b) _), perm_unperm _ _ _ hp hbl, textW_bitsW]
end Go.Proofs.Ytenbaljjncepeaa
