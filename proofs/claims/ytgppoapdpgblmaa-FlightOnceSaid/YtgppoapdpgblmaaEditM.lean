/- Plain facts on edits: what they make of any bytes, which are mild, why what is spoilt mildly is not forged. Nothing of the program is in here. -/
import Derived.Test.YtgppoapdpgblmaaDeframeM
namespace Go.Proofs.Ytgppoapdpgblmaa
open Go.RowKit
set_option maxRecDepth 20000

structure Ed where
  kind : Int
  at_ : Int
  b : UInt8
def edOne (b : List UInt8) (e : Ed) : List UInt8 :=
  if e.at_ < 0 ∨ (b.length : Int) < e.at_ then b
  else if e.kind = 0 ∧ e.at_ < b.length then b.set e.at_.toNat e.b
  else if e.kind = 1 ∧ b.length < 512 then b.take e.at_.toNat ++ e.b :: b.drop e.at_.toNat
  else if e.kind = 2 ∧ e.at_ < b.length then b.take e.at_.toNat ++ b.drop (e.at_.toNat + 1)
  else if e.kind = 3 then b.take e.at_.toNat
  else b
def edDo (b : List UInt8) (l : List Ed) : List UInt8 := l.foldl edOne b
theorem edDo_nil (b : List UInt8) : edDo b [] = b := rfl
theorem edDo_snoc (b : List UInt8) (l : List Ed) (e : Ed) : edDo b (l ++ [e]) = edOne (edDo b l) e := by simp [edDo, List.foldl_append]
theorem edDo_take (b : List UInt8) (l : List Ed) (k : Nat) (h : k < l.length) : edDo b (l.take (k + 1)) = edOne (edDo b (l.take k)) l[k] := by
  rw [List.take_succ_eq_append_getElem h, edDo_snoc]
/-- an edit that may be mild, alone -/
def edFit (w : List UInt8) (e : Ed) : Prop := e.kind = 0 ∧ 0 ≤ e.at_ ∧ e.at_ < w.length ∧ plainAt w e.at_.toNat = true ∧ e.b ≠ 0x7e ∧ e.b ≠ 0x7d
/-- all of them, and within four places -/
def edMild (w : List UInt8) (l : List Ed) : Prop := (∀ e ∈ l, edFit w e) ∧ ∀ e ∈ l, ∀ f ∈ l, e.at_ ≤ f.at_ + 3
/-- what is found of any bytes -/
def foundB (w : List UInt8) : List (List UInt8) := (scRun (scNew, []) w).2
def forgedB (first w : List UInt8) : Bool := decide (foundB w ≠ [] ∧ foundB w ≠ foundB first)

theorem getD_ne {l : List UInt8} {i : Nat} (h : l.length ≤ i) : l.getD i 0 = 0 := by simp [List.getD_eq_getElem?_getD, h]
theorem ext_getD {a b : List UInt8} (hl : a.length = b.length) (h : ∀ i, i < a.length → a.getD i 0 = b.getD i 0) : a = b := by
  apply List.ext_getElem hl
  intro i h1 h2
  have := h i h1
  rw [getD_at a i h1, getD_at b i h2] at this
  exact this
theorem takenAt_cons (c : UInt8) (t : List UInt8) (hc : c ≠ 0x7d) : ∀ k, takenAt (c :: t) (k + 1) = takenAt t k := by
  intro k
  induction k with
  | zero => simp [takenAt, hc]
  | succ k ih =>
    rw [takenAt, ih]
    simp [takenAt]
theorem takenAt_two (y : UInt8) (t : List UInt8) : ∀ k, takenAt (0x7d :: y :: t) (k + 2) = takenAt t k := by
  intro k
  induction k with
  | zero => simp [takenAt]
  | succ k ih =>
    rw [show k + 1 + 2 = (k + 2) + 1 from rfl, takenAt, ih]
    simp [takenAt]
theorem plainAt_cons (c : UInt8) (t : List UInt8) (hc : c ≠ 0x7d) (k : Nat) : plainAt (c :: t) (k + 1) = plainAt t k := by
  unfold plainAt
  rw [takenAt_cons c t hc]
  simp
theorem plainAt_two (y : UInt8) (t : List UInt8) (k : Nat) : plainAt (0x7d :: y :: t) (k + 2) = plainAt t k := by
  unfold plainAt
  rw [takenAt_two]
  simp
theorem plainAt_esc0 (t : List UInt8) : plainAt (0x7d :: t) 0 = false := by simp [plainAt]
theorem plainAt_esc1 (y : UInt8) (t : List UInt8) : plainAt (0x7d :: y :: t) 1 = false := by simp [plainAt, takenAt]
theorem takenAt_left (s r : List UInt8) : ∀ k, k ≤ s.length → takenAt (s ++ r) k = takenAt s k := by
  intro k
  induction k with
  | zero => intro _; rfl
  | succ k ih =>
    intro h
    rw [takenAt, takenAt, ih (by omega)]
    congr 1
    simp [List.getD_eq_getElem?_getD, List.getElem?_append_left (show k < s.length by omega)]
theorem plainAt_left (s r : List UInt8) (k : Nat) (h : k < s.length) : plainAt (s ++ r) k = plainAt s k := by
  unfold plainAt
  rw [takenAt_left s r k (by omega)]
  simp [List.getD_eq_getElem?_getD, List.getElem?_append_left h]

/-- where the j'th byte of x stands, stuffed -/
def posOf (x : List UInt8) (j : Nat) : Nat := (stuffB (x.take j)).length
theorem posOf_zero (x : List UInt8) : posOf x 0 = 0 := by simp [posOf, stuffB]
theorem posOf_cons (c : UInt8) (r : List UInt8) (j : Nat) : posOf (c :: r) (j + 1) = (stuff1 c).length + posOf r j := by
  simp [posOf, stuffB_cons]
theorem posOf_step (x : List UInt8) (j : Nat) (h : j < x.length) : posOf x j + 1 ≤ posOf x (j + 1) := by
  unfold posOf
  rw [stuffB_take x j h, List.length_append]
  have := (stuff1_len x[j]).1
  omega
theorem posOf_mono (x : List UInt8) (i d : Nat) (h : i + d ≤ x.length) : posOf x i + d ≤ posOf x (i + d) := by
  induction d with
  | zero => exact Nat.le_refl _
  | succ d ih =>
    have h1 := ih (by omega)
    have h2 := posOf_step x (i + d) (by omega)
    have e : i + (d + 1) = i + d + 1 := by omega
    rw [e]
    omega
/-- what is spoilt at plain places alone is another text, stuffed: just there where the places stand -/
theorem spoilt (x : List UInt8) : ∀ (s : List UInt8), s.length = (stuffB x).length → (∀ i, s.getD i 0 ≠ (stuffB x).getD i 0 → plainAt (stuffB x) i = true ∧ s.getD i 0 ≠ 0x7e ∧ s.getD i 0 ≠ 0x7d) →
    ∃ y, s = stuffB y ∧ y.length = x.length ∧ ∀ j, y.getD j 0 ≠ x.getD j 0 → s.getD (posOf x j) 0 ≠ (stuffB x).getD (posOf x j) 0 := by
  induction x with
  | nil =>
    intro s hl _
    have : s = [] := List.eq_nil_of_length_eq_zero (by simpa [stuffB] using hl)
    subst this
    exact ⟨[], rfl, rfl, fun j hj => absurd rfl hj⟩
  | cons c r ih =>
    intro s hl hs
    by_cases hc : c = 0x7e ∨ c = 0x7d
    · have e : stuffB (c :: r) = 0x7d :: (c ^^^ 0x20) :: stuffB r := by rw [stuffB_cons, stuff1_yes c hc]; rfl
      rw [e] at hl hs
      match s, hl with
      | a :: b :: t, hl =>
        have ha : a = 0x7d := by
          by_cases h : a = 0x7d
          · exact h
          · have := (hs 0 (by simpa using h)).1
            rw [plainAt_esc0] at this
            cases this
        subst ha
        have hb : b = c ^^^ 0x20 := by
          by_cases h : b = c ^^^ 0x20
          · exact h
          · have := (hs 1 (by simpa using h)).1
            rw [plainAt_esc1] at this
            cases this
        subst hb
        obtain ⟨y, h1, h2, h3⟩ := ih t (by simpa using hl) (fun i hi => by
          have := hs (i + 2) (by simpa using hi)
          rw [plainAt_two] at this
          simpa using this)
        refine ⟨c :: y, by rw [h1, stuffB_cons c y, stuff1_yes c hc]; rfl, by simp [h2], fun j hj => ?_⟩
        match j with
        | 0 => exact absurd rfl hj
        | j + 1 =>
          have := h3 j (by simpa using hj)
          rw [posOf_cons, e, stuff1_yes c hc]
          rw [show ([0x7d, c ^^^ 0x20] : List UInt8).length + posOf r j = posOf r j + 2 from by simp; omega]
          simpa using this
    · have hc1 : c ≠ 0x7e := fun h => hc (.inl h)
      have hc2 : c ≠ 0x7d := fun h => hc (.inr h)
      have e : stuffB (c :: r) = c :: stuffB r := by rw [stuffB_cons, stuff1_no c hc1 hc2]; rfl
      rw [e] at hl hs
      match s, hl with
      | a :: t, hl =>
        have ha : a ≠ 0x7e ∧ a ≠ 0x7d := by
          by_cases h : a = c
          · subst h; exact ⟨hc1, hc2⟩
          · have := hs 0 (by simpa using h)
            exact ⟨by simpa using this.2.1, by simpa using this.2.2⟩
        obtain ⟨y, h1, h2, h3⟩ := ih t (by simpa using hl) (fun i hi => by
          have := hs (i + 1) (by simpa using hi)
          rw [plainAt_cons c _ hc2] at this
          simpa using this)
        refine ⟨a :: y, by rw [h1, stuffB_cons a y, stuff1_no a ha.1 ha.2]; rfl, by simp [h2], fun j hj => ?_⟩
        match j with
        | 0 =>
          rw [posOf_zero, e]
          simpa using hj
        | j + 1 =>
          have := h3 j (by simpa using hj)
          rw [posOf_cons, e, stuff1_no c hc1 hc2]
          rw [show ([c] : List UInt8).length + posOf r j = posOf r j + 1 from by simp; omega]
          simpa using this

/-- four bytes that are other ones, as a difference -/
theorem diff4 (m m' : List UInt8) (h : m.length = 4) (h' : m'.length = 4) (hne : m' ≠ m) : ∃ d, d < 4294967296 ∧ d ≠ 0 ∧ m' = List.zipWith (· ^^^ ·) m (leB d 4) := by
  have hz : (List.zipWith (· ^^^ ·) m m').length = 4 := by simp [h, h']
  have hxor : List.zipWith (· ^^^ ·) m (List.zipWith (· ^^^ ·) m m') = m' := by
    apply List.ext_getElem (by simp [h, h'])
    intro i h1 h2
    simp only [List.getElem_zipWith]
    rw [← UInt8.xor_assoc, UInt8.xor_self, UInt8.zero_xor]
  have h1 := leB_leN (List.zipWith (· ^^^ ·) m m')
  have h2 := leN_lt (List.zipWith (· ^^^ ·) m m')
  rw [hz] at h1 h2
  refine ⟨leN (List.zipWith (· ^^^ ·) m m'), by simpa using h2, fun h0 => hne ?_, by rw [h1, hxor]⟩
  rw [h0] at h1
  rw [← hxor, ← h1]
  apply List.ext_getElem (by simp [h, leB])
  intro i h3 h4
  have h5 : i < 4 := by omega
  match i, h5 with
  | 0, _ => simp [leB]
  | 1, _ => simp [leB]
  | 2, _ => simp [leB]
  | 3, _ => simp [leB]
theorem take_getD {a b : List UInt8} (hl : a.length = b.length) (k : Nat) (h : ∀ i, i < k → a.getD i 0 = b.getD i 0) : a.take k = b.take k := by
  apply ext_getD (by simp [hl])
  intro i hi
  simp at hi
  have := h i (by omega)
  simp [List.getD_eq_getElem?_getD, show i < k by omega] at this ⊢
  exact this
theorem drop_getD {a b : List UInt8} (hl : a.length = b.length) (k : Nat) (h : ∀ i, k ≤ i → a.getD i 0 = b.getD i 0) : a.drop k = b.drop k := by
  apply ext_getD (by simp [hl])
  intro i _
  have := h (k + i) (by omega)
  simp [List.getD_eq_getElem?_getD, List.getElem?_drop] at this ⊢
  exact this
/-- a text of which some bytes within four are other ones is not checked -/
theorem crcChk_four (l y : List UInt8) (lo : Nat) (hy : y.length = (crcPut l).length) (hd : ∀ j, y.getD j 0 ≠ (crcPut l).getD j 0 → lo ≤ j ∧ j ≤ lo + 3) (hne : y ≠ crcPut l) : crcChk y = none := by
  have hl := crcPut_length l
  -- a window of four bytes that lies inside
  obtain ⟨p, hp1, hp2⟩ : ∃ p, p + 4 ≤ (crcPut l).length ∧ ∀ j, y.getD j 0 ≠ (crcPut l).getD j 0 → p ≤ j ∧ j < p + 4 := by
    by_cases h : lo + 4 ≤ (crcPut l).length
    · exact ⟨lo, h, fun j hj => by have := hd j hj; omega⟩
    · refine ⟨(crcPut l).length - 4, by omega, fun j hj => ?_⟩
      have h1 := hd j hj
      have h2 : j < (crcPut l).length := by
        by_cases h3 : j < (crcPut l).length
        · exact h3
        · exact absurd ((getD_ne (by omega)).trans (getD_ne (by omega)).symm) hj
      omega
  generalize hx : crcPut l = x at *
  have e1 : y.take p = x.take p := take_getD hy p (fun i hi => by
    by_cases h : y.getD i 0 = x.getD i 0
    · exact h
    · have := hp2 i h; omega)
  have e2 : y.drop (p + 4) = x.drop (p + 4) := drop_getD hy (p + 4) (fun i hi => by
    by_cases h : y.getD i 0 = x.getD i 0
    · exact h
    · have := hp2 i h; omega)
  have cut : ∀ z : List UInt8, z = z.take p ++ (z.drop p).take 4 ++ z.drop (p + 4) := by
    intro z
    rw [List.append_assoc, ← List.drop_drop, List.take_append_drop, List.take_append_drop]
  have hm : ((x.drop p).take 4).length = 4 := by simp; omega
  have hm' : ((y.drop p).take 4).length = 4 := by simp; omega
  have hmn : (y.drop p).take 4 ≠ (x.drop p).take 4 := fun e => hne (by rw [cut y, cut x, e1, e2, e])
  obtain ⟨d, h1, h2, h3⟩ := diff4 _ _ hm hm' hmn
  have := crcChk_burst l (x.take p) ((x.drop p).take 4) (x.drop (p + 4)) d (hx.trans (cut x)) hm h1 h2
  rw [cut y, e1, e2, h3]
  exact this

/-- what is found of a stretch between two flags -/
theorem found_one (s : List UInt8) (hn : ∀ x ∈ s, x ≠ 0x7e) (hl : s.length ≤ 200) (h0 : s ≠ []) : foundB (0x7e :: (s ++ [0x7e])) = (match frameB s with | none => [] | some y => [y]) := by
  unfold foundB
  rw [scRun_cons, show scNext (scNew, []) 0x7e = (⟨1, [], 0, 0, 0, 0⟩, []) from rfl, scRun_snoc, scRun_gather s [] 0 0 0 0 [] hn (by simp only [List.length_nil]; omega), scNext, scStep1f _ rfl, List.nil_append]
  rcases h : frameB s with _ | y
  · rw [scEnd_none _ _ _ _ _ _ h0 h]; rfl
  · rw [scEnd_some _ _ _ _ _ _ y h0 h]; rfl
theorem found_frame (l : List UInt8) (hl : l.length ≤ 96) : foundB (frameW l) = [l] := by
  obtain ⟨h1, h2, h3, h4⟩ := stuffed_facts l hl
  rw [frameW_eq, found_one _ h1 h2 h3, h4]
theorem plain_flag (l : List UInt8) : plainAt (frameW l) 0 = false := by simp [frameW_eq, plainAt]
/-- P6.5 in plain words -/
theorem found_spoilt (l w : List UInt8) (hl : l.length ≤ 96) (hw : w.length = (frameW l).length) (lo : Nat)
    (h : ∀ i, w.getD i 0 ≠ (frameW l).getD i 0 → plainAt (frameW l) i = true ∧ w.getD i 0 ≠ 0x7e ∧ w.getD i 0 ≠ 0x7d ∧ lo ≤ i ∧ i ≤ lo + 3) : foundB w = [] ∨ foundB w = [l] := by
  have hfl := frameW_length l
  obtain ⟨h1, h2, h3, h4⟩ := stuffed_facts l hl
  obtain ⟨a, s, b, rfl⟩ := split_ends w (by omega)
  have hsl : s.length = (stuffB (crcPut l)).length := by simp at hw; omega
  have ha : a = 0x7e := by
    by_cases e : a = 0x7e
    · exact e
    · have := (h 0 (by rw [frameW_eq]; simpa using e)).1
      rw [plain_flag] at this
      cases this
  subst ha
  have hat : ∀ i, i < s.length → (0x7e :: (s ++ [b])).getD (i + 1) 0 = s.getD i 0 ∧ (frameW l).getD (i + 1) 0 = (stuffB (crcPut l)).getD i 0 ∧ plainAt (frameW l) (i + 1) = plainAt (stuffB (crcPut l)) i := by
    intro i hi
    refine ⟨?_, ?_, ?_⟩
    · simp [List.getD_eq_getElem?_getD, List.getElem?_append_left hi]
    · rw [frameW_eq]
      simp [List.getD_eq_getElem?_getD, List.getElem?_append_left (show i < (stuffB (crcPut l)).length by omega)]
    · rw [frameW_eq, plainAt_cons _ _ (by decide), plainAt_left _ _ _ (by omega)]
  have hb : b = 0x7e := by
    by_cases e : b = 0x7e
    · exact e
    · have hlast : (0x7e :: (s ++ [b])).getD (s.length + 1) 0 = b := by simp [List.getD_eq_getElem?_getD]
      have hlast2 : (frameW l).getD (s.length + 1) 0 = 0x7e := by rw [frameW_eq, hsl]; simp [List.getD_eq_getElem?_getD]
      have := (h (s.length + 1) (by rw [hlast, hlast2]; exact e)).1
      unfold plainAt at this
      rw [hlast2] at this
      simp at this
  subst hb
  have hs : ∀ i, s.getD i 0 ≠ (stuffB (crcPut l)).getD i 0 → plainAt (stuffB (crcPut l)) i = true ∧ s.getD i 0 ≠ 0x7e ∧ s.getD i 0 ≠ 0x7d ∧ lo ≤ i + 1 ∧ i + 1 ≤ lo + 3 := by
    intro i hi
    have hlt : i < s.length := by
      by_cases h5 : i < s.length
      · exact h5
      · exact absurd ((getD_ne (by omega)).trans (getD_ne (by omega)).symm) hi
    obtain ⟨e1, e2, e3⟩ := hat i hlt
    have := h (i + 1) (by rw [e1, e2]; exact hi)
    rw [e1, e3] at this
    exact this
  obtain ⟨y, hy1, hy2, hy3⟩ := spoilt (crcPut l) s hsl (fun i hi => ⟨(hs i hi).1, (hs i hi).2.1, (hs i hi).2.2.1⟩)
  have hsn : ∀ x ∈ s, x ≠ 0x7e := by rw [hy1]; exact stuffB_noflag y
  have hs0 : s ≠ [] := fun e => h3 (List.eq_nil_of_length_eq_zero (by rw [← hsl, e]; rfl))
  rw [found_one s hsn (by omega) hs0]
  have hfB : frameB s = (crcChk y).bind short := by unfold frameB; rw [hy1, unst_stuffB]; rfl
  by_cases hne : y = crcPut l
  · right
    rw [hfB, hne, crcChk_put]
    simp [short, hl]
  · left
    -- the places of the bytes that are other ones lie within four
    have hin : ∃ j0, y.getD j0 0 ≠ (crcPut l).getD j0 0 ∧ ∀ j, y.getD j 0 ≠ (crcPut l).getD j 0 → j0 ≤ j := by
      have hex : ∃ j, y.getD j 0 ≠ (crcPut l).getD j 0 := by
        by_cases hex : ∃ j, y.getD j 0 ≠ (crcPut l).getD j 0
        · exact hex
        · exact absurd (ext_getD hy2 (fun i _ => by
            by_cases e : y.getD i 0 = (crcPut l).getD i 0
            · exact e
            · exact absurd ⟨i, e⟩ hex)) hne
      obtain ⟨j, hj⟩ := hex
      induction j using Nat.strongRecOn with
      | _ j ih =>
        by_cases h9 : ∃ i, i < j ∧ y.getD i 0 ≠ (crcPut l).getD i 0
        · obtain ⟨i, h10, h11⟩ := h9
          exact ih i h10 h11
        · exact ⟨j, hj, fun i hi => by
            by_cases h10 : j ≤ i
            · exact h10
            · exact absurd ⟨i, by omega, hi⟩ h9⟩
    obtain ⟨j0, hj0, hmin⟩ := hin
    have hc : crcChk y = none := crcChk_four l y j0 hy2 (fun j hj => by
      refine ⟨hmin j hj, ?_⟩
      have hjl : j < (crcPut l).length := by
        by_cases h5 : j < (crcPut l).length
        · exact h5
        · exact absurd ((getD_ne (by omega)).trans (getD_ne (by omega)).symm) hj
      have g1 := hs _ (hy3 j hj)
      have g0 := hs _ (hy3 j0 hj0)
      have hle := hmin j hj
      have := posOf_mono (crcPut l) j0 (j - j0) (by omega)
      rw [show j0 + (j - j0) = j from by omega] at this
      omega) hne
    rw [hfB, hc]
    rfl
/-- edits that are mild put bytes at places alone -/
theorem edDo_puts (w : List UInt8) (l : List Ed) (h : ∀ e ∈ l, edFit w e) : (edDo w l).length = w.length ∧ ∀ i, (edDo w l).getD i 0 ≠ w.getD i 0 → ∃ e ∈ l, e.at_.toNat = i ∧ (edDo w l).getD i 0 = e.b := by
  have key : ∀ (l : List Ed) (v : List UInt8), v.length = w.length → (∀ e ∈ l, edFit w e) → (edDo v l).length = w.length ∧ ∀ i, (edDo v l).getD i 0 ≠ v.getD i 0 → ∃ e ∈ l, e.at_.toNat = i ∧ (edDo v l).getD i 0 = e.b := by
    intro l
    induction l with
    | nil => intro v hv _; exact ⟨hv, fun i hi => absurd rfl hi⟩
    | cons e r ih =>
      intro v hv h
      obtain ⟨k1, k2, k3, _⟩ := h e (by simp)
      have e1 : edOne v e = v.set e.at_.toNat e.b := by
        unfold edOne
        rw [if_neg (by omega), if_pos ⟨k1, by omega⟩]
      have e2 : edDo v (e :: r) = edDo (v.set e.at_.toNat e.b) r := by
        show edDo (edOne v e) r = _
        rw [e1]
      obtain ⟨h1, h2⟩ := ih (v.set e.at_.toNat e.b) (by simpa using hv) (fun f hf => h f (by simp [hf]))
      rw [e2]
      refine ⟨h1, fun i hi => ?_⟩
      by_cases h3 : (edDo (v.set e.at_.toNat e.b) r).getD i 0 = (v.set e.at_.toNat e.b).getD i 0
      · rw [h3] at hi ⊢
        by_cases h4 : e.at_.toNat = i
        · refine ⟨e, by simp, h4, ?_⟩
          subst h4
          simp [List.getD_eq_getElem?_getD, show e.at_.toNat < v.length by omega]
        · exact absurd (by simp [List.getD_eq_getElem?_getD, List.getElem?_set_ne h4]) hi
      · obtain ⟨f, hf, h5, h6⟩ := h2 i h3
        exact ⟨f, by simp [hf], h5, h6⟩
  exact key l w rfl h
/-- P6.5 -/
theorem edit_safe (b : List UInt8) (l : List Ed) (hb : b.length ≤ 96) (h : edMild (frameW b) l) : forgedB (frameW b) (edDo (frameW b) l) = false := by
  obtain ⟨h1, h2⟩ := edDo_puts (frameW b) l h.1
  have h3 := found_frame b hb
  have key : foundB (edDo (frameW b) l) = [] ∨ foundB (edDo (frameW b) l) = [b] := by
    -- the least place
    by_cases hl : ∃ e, e ∈ l ∧ ∀ f ∈ l, e.at_ ≤ f.at_
    · obtain ⟨e, he, hmin⟩ := hl
      refine found_spoilt b _ hb h1 e.at_.toNat (fun i hi => ?_)
      obtain ⟨f, hf, g1, g2⟩ := h2 i hi
      obtain ⟨k1, k2, k3, k4, k5, k6⟩ := h.1 f hf
      have k7 := (h.1 e he).2.1
      have k8 := hmin f hf
      have k9 := h.2 f hf e he
      subst g1
      rw [g2]
      exact ⟨k4, k5, k6, by omega, by omega⟩
    · have : l = [] := by
        cases l with
        | nil => rfl
        | cons e r =>
          exfalso
          apply hl
          clear h h1 h2 hl
          induction r generalizing e with
          | nil => exact ⟨e, by simp, fun f hf => by simp at hf; subst hf; exact Int.le_refl _⟩
          | cons f r ih =>
            obtain ⟨m, hm, hmin⟩ := ih f
            by_cases hem : e.at_ ≤ m.at_
            · exact ⟨e, by simp, fun g hg => by
                rcases List.mem_cons.1 hg with rfl | hg
                · exact Int.le_refl _
                · exact Int.le_trans hem (hmin g hg)⟩
            · exact ⟨m, by simp only [List.mem_cons]; right; exact List.mem_cons.1 hm, fun g hg => by
                rcases List.mem_cons.1 hg with rfl | hg
                · omega
                · exact hmin g hg⟩
      subst this
      right
      exact h3
  unfold forgedB
  rw [h3]
  rcases key with e | e
  · rw [e]; simp
  · rw [e]; simp
end Go.Proofs.Ytgppoapdpgblmaa
