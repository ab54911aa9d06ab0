/- Plain facts on frames: what is made of any bytes, what is opened, why one byte turned makes none. Nothing of the program is in here. -/
import Derived.Test.YtgppoapdpgblmaaStuffM
import Derived.Test.YtgppoapdpgblmaaCrcM
namespace Go.Proofs.Ytgppoapdpgblmaa
open Go.RowKit
set_option maxRecDepth 20000

def frameW (l : List UInt8) : List UInt8 := 0x7e :: (stuffB (crcPut l) ++ [0x7e])
def short (b : List UInt8) : Option (List UInt8) := if b.length ≤ 96 then some b else none
def frameB (s : List UInt8) : Option (List UInt8) := ((unst s).bind crcChk).bind short
def mid (w : List UInt8) : List UInt8 := (w.take (w.length - 1)).drop 1
def frameO (w : List UInt8) : Option (List UInt8) := if 2 ≤ w.length ∧ w.head? = some 0x7e ∧ w.getLast? = some 0x7e then frameB (mid w) else none
/-- what Body and Open tell -/
def frameE (r : Option (List UInt8)) : Int := if r.isSome then 0 else 40

theorem crcChk_iff (q b : List UInt8) : crcChk q = some b ↔ q = crcPut b := by
  constructor
  · intro h
    unfold crcChk at h
    split at h
    · rename_i h1
      injection h with h
      rw [← h]
      exact h1.2
    · cases h
  · rintro rfl
    exact crcChk_put b
theorem frameW_length (l : List UInt8) : (frameW l).length = (stuffB (crcPut l)).length + 2 := by simp [frameW]
theorem frameW_len (l : List UInt8) : 6 ≤ (frameW l).length ∧ (frameW l).length ≤ 2 * (l.length + 4) + 2 := by
  have h1 := frameW_length l
  have h2 := stuffB_len (crcPut l)
  have h3 := crcPut_length l
  omega
theorem mid_in (s : List UInt8) (a b : UInt8) : mid (a :: (s ++ [b])) = s := by
  unfold mid
  have : (a :: (s ++ [b])).length - 1 = s.length + 1 := by simp
  rw [this, List.take_succ_cons, List.take_left, List.drop_succ_cons, List.drop_zero]
theorem frameO_of (s : List UInt8) (a b : UInt8) : frameO (a :: (s ++ [b])) = if a = 0x7e ∧ b = 0x7e then frameB s else none := by
  unfold frameO
  rw [mid_in]
  have h2 : (a :: (s ++ [b])).getLast? = some b := by
    rw [← List.cons_append, List.getLast?_append]; simp
  rw [h2]
  simp
theorem split_ends (w : List UInt8) (h : 2 ≤ w.length) : ∃ a s b, w = a :: (s ++ [b]) := by
  obtain ⟨a, t, rfl⟩ : ∃ a t, w = a :: t := by
    cases w with
    | nil => simp at h
    | cons a t => exact ⟨a, t, rfl⟩
  have ht : t ≠ [] := by intro e; subst e; simp at h
  exact ⟨a, t.dropLast, t.getLast ht, by rw [List.dropLast_concat_getLast ht]⟩
theorem frameB_put (l : List UInt8) (h : l.length ≤ 96) : frameB (stuffB (crcPut l)) = some l := by
  unfold frameB short
  rw [unst_stuffB, Option.bind_some, crcChk_put, Option.bind_some, if_pos h]
theorem frameO_put (l : List UInt8) (h : l.length ≤ 96) : frameO (frameW l) = some l := by
  unfold frameW
  rw [frameO_of, if_pos ⟨rfl, rfl⟩, frameB_put l h]
theorem frameB_back (s y : List UInt8) (h : frameB s = some y) : s = stuffB (crcPut y) ∧ y.length ≤ 96 := by
  unfold frameB at h
  rcases hu : unst s with _ | x
  · rw [hu] at h; cases h
  · rw [hu, Option.bind_some] at h
    rcases hc : crcChk x with _ | b
    · rw [hc] at h; cases h
    · rw [hc, Option.bind_some] at h
      unfold short at h
      split at h
      · rename_i hb
        injection h with h
        subst h
        rw [(crcChk_iff x b).1 hc] at hu
        exact ⟨(stuffB_unst s _ hu).symm, hb⟩
      · cases h
theorem frameO_back (w y : List UInt8) (h : frameO w = some y) : frameW y = w ∧ y.length ≤ 96 := by
  by_cases h2 : 2 ≤ w.length
  · obtain ⟨a, s, b, rfl⟩ := split_ends w h2
    rw [frameO_of] at h
    split at h
    · rename_i he
      obtain ⟨rfl, rfl⟩ := he
      obtain ⟨rfl, hy⟩ := frameB_back s y h
      exact ⟨rfl, hy⟩
    · cases h
  · unfold frameO at h
    rw [if_neg (fun e => h2 e.1)] at h
    cases h

theorem csteps_inj (k x y : Nat) (hx : x < 4294967296) (hy : y < 4294967296) (h : csteps x k = csteps y k) : x = y := by
  have h1 : csteps (x ^^^ y) k = 0 := by rw [csteps_xor, h, Nat.xor_self]
  have h2 := csteps_zero k _ (xor_lt x y hx hy) h1
  apply Nat.eq_of_testBit_eq
  intro i
  have h3 := congrArg (fun z => z.testBit i) h2
  simpa [Nat.testBit_xor] using h3
theorem xor_left_inj (x a b : Nat) (h : x ^^^ a = x ^^^ b) : a = b := by
  have := congrArg (x ^^^ ·) h
  simpa [← Nat.xor_assoc] using this
theorem xor_right_inj (x a b : Nat) (h : a ^^^ x = b ^^^ x) : a = b := by
  rw [Nat.xor_comm a, Nat.xor_comm b] at h
  exact xor_left_inj x a b h
theorem byte_lt32 (b : UInt8) : b.toNat < 4294967296 := by have := b.toNat_lt; omega
theorem cbyte_inj (x y : Nat) (b : UInt8) (hx : x < 4294967296) (hy : y < 4294967296) (h : cbyte x b = cbyte y b) : x = y :=
  xor_right_inj b.toNat x y (csteps_inj 8 _ _ (xor_lt _ _ hx (byte_lt32 b)) (xor_lt _ _ hy (byte_lt32 b)) h)
theorem cbyte_byte (x : Nat) (a b : UInt8) (hx : x < 4294967296) (h : cbyte x a = cbyte x b) : a = b :=
  UInt8.toNat_inj.1 (xor_left_inj x _ _ (csteps_inj 8 _ _ (xor_lt _ _ hx (byte_lt32 a)) (xor_lt _ _ hx (byte_lt32 b)) h))
theorem feed_inj (l : List UInt8) : ∀ x y, x < 4294967296 → y < 4294967296 → feed x l = feed y l → x = y := by
  induction l with
  | nil => exact fun x y _ _ h => h
  | cons b l ih => exact fun x y hx hy h => cbyte_inj x y b hx hy (ih _ _ (cbyte_lt x b hx) (cbyte_lt y b hy) h)
theorem crcChk_one (l a c : List UInt8) (b d : UInt8) (h : crcPut l = a ++ b :: c) (hd : d ≠ b) : crcChk (a ++ d :: c) = none := by
  rcases hc : crcChk (a ++ d :: c) with _ | y
  · rfl
  · exfalso
    have h1 := (crcChk_iff _ _).1 hc
    have f1 := feed_put l
    have f2 := feed_put y
    rw [h, feed_append] at f1
    rw [← h1, feed_append] at f2
    have hx := feed_lt a 4294967295 (by decide)
    generalize feed 4294967295 a = x at *
    have f3 : feed (cbyte x d) c = feed (cbyte x b) c := f2.trans f1.symm
    have f4 := feed_inj c _ _ (cbyte_lt x d hx) (cbyte_lt x b hx) f3
    exact hd (cbyte_byte x d b hx f4)

theorem xor32_inj (a b : UInt8) (h : a ^^^ 0x20 = b ^^^ 0x20) : a = b := by
  have := congrArg (· ^^^ (0x20 : UInt8)) h
  simpa [UInt8.xor_assoc] using this
theorem turn_turn (a : UInt8) : a ^^^ 0x20 ^^^ 0x20 = a := by simp [UInt8.xor_assoc]
/-- one byte of what was stuffed, that was no Escape and becomes none: nothing is got, or one byte alone is another one -/
theorem unst_one : ∀ (x : List UInt8) (i : Nat) (d : UInt8) (hi : i < (stuffB x).length), (stuffB x)[i] ≠ 0x7d → d ≠ 0x7d → d ≠ (stuffB x)[i] →
    unst ((stuffB x).set i d) = none ∨ ∃ a b b' c, x = a ++ b :: c ∧ b' ≠ b ∧ unst ((stuffB x).set i d) = some (a ++ b' :: c)
  | [], i, d, hi, _, _, _ => by simp [stuffB] at hi
  | b :: r, i, d, hi, h1, h2, h3 => by
    by_cases hb : b = 0x7e ∨ b = 0x7d
    · have e : stuffB (b :: r) = 0x7d :: (b ^^^ 0x20) :: stuffB r := by rw [stuffB_cons, stuff1_yes b hb]; rfl
      match i with
      | 0 => exact absurd (by simp [e]) h1
      | 1 =>
        have h3 : d ≠ b ^^^ 0x20 := by simpa [e] using h3
        have e2 : (stuffB (b :: r)).set 1 d = 0x7d :: d :: stuffB r := by rw [e]; rfl
        rw [e2]
        by_cases hd : d = 0x5e ∨ d = 0x5d
        · refine Or.inr ⟨[], b, d ^^^ 0x20, r, rfl, ?_, ?_⟩
          · intro e3
            apply h3
            rw [← e3, turn_turn]
          · rw [unst_esc d _ hd, unst_stuffB]; rfl
        · exact Or.inl (unst_bad d _ (fun e => hd (.inl e)) (fun e => hd (.inr e)))
      | k + 2 =>
        have e2 : (stuffB (b :: r)).set (k + 2) d = 0x7d :: (b ^^^ 0x20) :: (stuffB r).set k d := by rw [e]; rfl
        have hk : k < (stuffB r).length := by rw [e] at hi; simpa using hi
        have e3 : (stuffB (b :: r))[k + 2] = (stuffB r)[k] := by simp [e]
        rw [e3] at h1 h3
        rw [e2, unst_esc _ _ (by rcases hb with rfl | rfl <;> decide)]
        rcases unst_one r k d hk h1 h2 h3 with h | ⟨a, p, p', c, h4, h5, h6⟩
        · rw [h]; exact Or.inl rfl
        · rw [h6]
          refine Or.inr ⟨b :: a, p, p', c, by rw [h4]; rfl, h5, ?_⟩
          rw [turn_turn]; rfl
    · have hb1 : b ≠ 0x7e := fun e => hb (.inl e)
      have hb2 : b ≠ 0x7d := fun e => hb (.inr e)
      have e : stuffB (b :: r) = b :: stuffB r := by rw [stuffB_cons, stuff1_no b hb1 hb2]; rfl
      match i with
      | 0 =>
        have h3 : d ≠ b := by simpa [e] using h3
        have e2 : (stuffB (b :: r)).set 0 d = d :: stuffB r := by rw [e]; rfl
        rw [e2]
        by_cases hd : d = 0x7e
        · subst hd; exact Or.inl (unst_flag _)
        · exact Or.inr ⟨[], b, d, r, rfl, h3, by rw [unst_plain d _ hd h2, unst_stuffB]; rfl⟩
      | k + 1 =>
        have e2 : (stuffB (b :: r)).set (k + 1) d = b :: (stuffB r).set k d := by rw [e]; rfl
        have hk : k < (stuffB r).length := by rw [e] at hi; simpa using hi
        have e3 : (stuffB (b :: r))[k + 1] = (stuffB r)[k] := by simp [e]
        rw [e3] at h1 h3
        rw [e2, unst_plain _ _ hb1 hb2]
        rcases unst_one r k d hk h1 h2 h3 with h | ⟨a, p, p', c, h4, h5, h6⟩
        · rw [h]; exact Or.inl rfl
        · rw [h6]
          exact Or.inr ⟨b :: a, p, p', c, by rw [h4]; rfl, h5, rfl⟩
/-- P4.4 in plain words -/
theorem frameO_turned (l : List UInt8) (i : Nat) (d : UInt8) (hi : i < (frameW l).length) (h1 : (frameW l)[i] ≠ 0x7d) (h2 : d ≠ 0x7d) (h3 : d ≠ (frameW l)[i]) : frameO ((frameW l).set i d) = none := by
  have hl := frameW_length l
  match i with
  | 0 =>
    have h3 : d ≠ 0x7e := by simpa [frameW] using h3
    have e : (frameW l).set 0 d = d :: (stuffB (crcPut l) ++ [0x7e]) := rfl
    rw [e, frameO_of, if_neg (fun e => h3 e.1)]
  | k + 1 =>
    by_cases hk : k < (stuffB (crcPut l)).length
    · have e : (frameW l).set (k + 1) d = 0x7e :: ((stuffB (crcPut l)).set k d ++ [0x7e]) := by
        unfold frameW
        rw [List.set_cons_succ, List.set_append_left _ _ hk]
      have e3 : (frameW l)[k + 1] = (stuffB (crcPut l))[k] := by
        simp [frameW, List.getElem_append_left hk]
      rw [e3] at h1 h3
      rw [e, frameO_of, if_pos ⟨rfl, rfl⟩]
      unfold frameB
      rcases unst_one _ k d hk h1 h2 h3 with h | ⟨a, p, p', c, h4, h5, h6⟩
      · rw [h]; rfl
      · rw [h6, Option.bind_some, crcChk_one l a c p p' h4 h5]; rfl
    · have hk2 : k = (stuffB (crcPut l)).length := by omega
      have e : (frameW l).set (k + 1) d = 0x7e :: (stuffB (crcPut l) ++ [d]) := by
        unfold frameW
        rw [List.set_cons_succ, List.set_append_right _ _ (by omega), hk2, Nat.sub_self]
        rfl
      have e3 : (frameW l)[k + 1] = 0x7e := by
        simp [frameW, hk2]
      rw [e3] at h3
      rw [e, frameO_of, if_neg (fun e => h3 e.2)]
theorem frameW_nil : frameW [] = [0x7e, 0, 0, 0, 0, 0x7e] := by decide +kernel
theorem frameO_two : frameO [0x7e, 0x7e] = none := by decide +kernel
end Go.Proofs.Ytgppoapdpgblmaa
