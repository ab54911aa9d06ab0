/- Plain facts on bytes with flags taken out: what is made of any bytes, what is got back. Nothing of the program is in here. -/
import Derived.Test.YtgppoapdpgblmaaWords
namespace Go.Proofs.Ytgppoapdpgblmaa
open Go.RowKit
set_option maxRecDepth 20000

def stuff1 (c : UInt8) : List UInt8 := if c = 0x7e ∨ c = 0x7d then [0x7d, c ^^^ 0x20] else [c]
def stuffB (l : List UInt8) : List UInt8 := l.flatMap stuff1
theorem stuffB_cons (c : UInt8) (l : List UInt8) : stuffB (c :: l) = stuff1 c ++ stuffB l := by simp [stuffB]
theorem stuffB_append (l m : List UInt8) : stuffB (l ++ m) = stuffB l ++ stuffB m := by simp [stuffB]
theorem stuffB_take (l : List UInt8) (k : Nat) (h : k < l.length) : stuffB (l.take (k + 1)) = stuffB (l.take k) ++ stuff1 l[k] := by
  rw [List.take_succ_eq_append_getElem h, stuffB_append]
  simp [stuffB]
theorem stuffB_part (l : List UInt8) (k : Nat) (h : k < l.length) : (stuffB (l.take k)).length + (stuff1 l[k]).length ≤ (stuffB l).length := by
  have e := stuffB_take l k h
  have : stuffB l = stuffB (l.take (k + 1)) ++ stuffB (l.drop (k + 1)) := by rw [← stuffB_append, List.take_append_drop]
  rw [this, List.length_append, e, List.length_append]
  omega
theorem stuff1_len (c : UInt8) : 1 ≤ (stuff1 c).length ∧ (stuff1 c).length ≤ 2 := by unfold stuff1; split <;> simp
theorem stuffB_len (l : List UInt8) : l.length ≤ (stuffB l).length ∧ (stuffB l).length ≤ 2 * l.length := by
  induction l with
  | nil => simp [stuffB]
  | cons c l ih => rw [stuffB_cons, List.length_append, List.length_cons]; have := stuff1_len c; omega
theorem stuff1_yes (c : UInt8) (h : c = 0x7e ∨ c = 0x7d) : stuff1 c = [0x7d, c ^^^ 0x20] := by unfold stuff1; rw [if_pos h]
theorem stuff1_no (c : UInt8) (h : c ≠ 0x7e) (h2 : c ≠ 0x7d) : stuff1 c = [c] := by unfold stuff1; rw [if_neg (by rintro (e | e); exact h e; exact h2 e)]
theorem stuff1_noflag : ∀ c : UInt8, ∀ d ∈ stuff1 c, d ≠ 0x7e := by
  intro c d hd
  unfold stuff1 at hd
  split at hd
  · rename_i h
    rcases h with rfl | rfl
    · simp at hd; rcases hd with rfl | rfl <;> decide
    · simp at hd; rcases hd with rfl | rfl <;> decide
  · rename_i h
    simp at hd
    subst hd
    exact fun e => h (.inl e)
theorem stuffB_noflag (l : List UInt8) : ∀ d ∈ stuffB l, d ≠ 0x7e := by
  intro d hd
  obtain ⟨c, _, h⟩ := List.mem_flatMap.1 hd
  exact stuff1_noflag c d h

def unst : List UInt8 → Option (List UInt8)
  | [] => some []
  | [c] => if c = 0x7e ∨ c = 0x7d then none else some [c]
  | c :: d :: r => if c = 0x7e then none else if c = 0x7d then (if d = 0x5e ∨ d = 0x5d then (unst r).map ((d ^^^ 0x20) :: ·) else none) else (unst (d :: r)).map (c :: ·)
theorem unst_flag (r : List UInt8) : unst (0x7e :: r) = none := by
  cases r <;> simp [unst]
theorem unst_plain (c : UInt8) (r : List UInt8) (h : c ≠ 0x7e) (h2 : c ≠ 0x7d) : unst (c :: r) = (unst r).map (c :: ·) := by
  cases r <;> simp [unst, h, h2]
theorem unst_esc (d : UInt8) (r : List UInt8) (h : d = 0x5e ∨ d = 0x5d) : unst (0x7d :: d :: r) = (unst r).map ((d ^^^ 0x20) :: ·) := by
  simp [unst, h]
theorem unst_bad (d : UInt8) (r : List UInt8) (h : d ≠ 0x5e) (h2 : d ≠ 0x5d) : unst (0x7d :: d :: r) = none := by
  simp [unst, h, h2]
theorem unst_end : unst [0x7d] = none := by decide
theorem unst_stuffB (l : List UInt8) : unst (stuffB l) = some l := by
  induction l with
  | nil => rfl
  | cons c l ih =>
    rw [stuffB_cons]
    by_cases h : c = 0x7e ∨ c = 0x7d
    · rw [stuff1_yes c h]
      show unst (0x7d :: (c ^^^ 0x20) :: stuffB l) = _
      rw [unst_esc _ _ (by rcases h with rfl | rfl <;> decide), ih]
      rcases h with rfl | rfl <;> simp <;> decide
    · rw [stuff1_no c (fun e => h (.inl e)) (fun e => h (.inr e))]
      show unst (c :: stuffB l) = _
      rw [unst_plain c _ (fun e => h (.inl e)) (fun e => h (.inr e)), ih]
      rfl
theorem stuffB_unst : ∀ (s y : List UInt8), unst s = some y → stuffB y = s
  | [], y, h => by simp [unst] at h; subst h; rfl
  | [c], y, h => by
    simp only [unst] at h
    split at h
    · cases h
    · rename_i hc
      simp at h; subst h
      rw [stuffB_cons, stuff1_no c (fun e => hc (.inl e)) (fun e => hc (.inr e))]
      rfl
  | c :: d :: r, y, h => by
    by_cases h1 : c = 0x7e
    · subst h1; rw [unst_flag] at h; cases h
    · by_cases h2 : c = 0x7d
      · subst h2
        by_cases h3 : d = 0x5e ∨ d = 0x5d
        · rw [unst_esc d r h3] at h
          rcases hr : unst r with _ | t
          · rw [hr] at h; cases h
          · rw [hr] at h
            simp at h
            subst h
            rw [stuffB_cons, stuffB_unst r t hr]
            rw [show stuff1 (d ^^^ 0x20) = [0x7d, d] from by rcases h3 with rfl | rfl <;> decide]
            rfl
        · rw [unst_bad d r (fun e => h3 (.inl e)) (fun e => h3 (.inr e))] at h; cases h
      · rw [unst_plain c (d :: r) h1 h2] at h
        rcases hr : unst (d :: r) with _ | t
        · rw [hr] at h; cases h
        · rw [hr] at h
          simp at h
          subst h
          rw [stuffB_cons, stuffB_unst (d :: r) t hr, stuff1_no c h1 h2]
          rfl

/-- what a walk from the front has got by place k -/
def Uinv (l : List UInt8) (k : Nat) (t : List UInt8) : Prop := unst l = (unst (l.drop k)).map (t ++ ·) ∧ t.length ≤ k
theorem Uinv.zero (l : List UInt8) : Uinv l 0 [] := ⟨by simp, Nat.le_refl _⟩
theorem Uinv.all {l t : List UInt8} (h : Uinv l l.length t) : unst l = some t := by
  have := h.1
  rw [List.drop_length] at this
  rw [this]
  simp [unst]
theorem Uinv.flag {l t : List UInt8} {k : Nat} (h : Uinv l k t) (hk : k < l.length) (e : l[k] = 0x7e) : unst l = none := by
  rw [h.1, List.drop_eq_getElem_cons hk, e, unst_flag]; rfl
theorem Uinv.plain {l t : List UInt8} {k : Nat} (h : Uinv l k t) (hk : k < l.length) (e : l[k] ≠ 0x7e) (e2 : l[k] ≠ 0x7d) : Uinv l (k + 1) (t ++ [l[k]]) := by
  refine ⟨?_, by have := h.2; simp; omega⟩
  rw [h.1, List.drop_eq_getElem_cons hk, unst_plain _ _ e e2]
  cases unst (l.drop (k + 1)) <;> simp
theorem Uinv.last {l t : List UInt8} {k : Nat} (h : Uinv l k t) (hk : k < l.length) (e : l[k] = 0x7d) (hl : k + 1 = l.length) : unst l = none := by
  rw [h.1, List.drop_eq_getElem_cons hk, e, List.drop_eq_nil_of_le (by omega), unst_end]; rfl
theorem Uinv.bad {l t : List UInt8} {k : Nat} (h : Uinv l k t) (hk : k + 1 < l.length) (e : l[k] = 0x7d) (e1 : l[k + 1] ≠ 0x5e) (e2 : l[k + 1] ≠ 0x5d) : unst l = none := by
  rw [h.1, List.drop_eq_getElem_cons (by omega), e, List.drop_eq_getElem_cons hk, unst_bad _ _ e1 e2]; rfl
theorem Uinv.esc {l t : List UInt8} {k : Nat} (h : Uinv l k t) (hk : k + 1 < l.length) (e : l[k] = 0x7d) (e1 : l[k + 1] = 0x5e ∨ l[k + 1] = 0x5d) : Uinv l (k + 2) (t ++ [l[k + 1] ^^^ 0x20]) := by
  refine ⟨?_, by have := h.2; simp; omega⟩
  rw [h.1, List.drop_eq_getElem_cons (by omega), e, List.drop_eq_getElem_cons hk, unst_esc _ _ e1]
  cases unst (l.drop (k + 2)) <;> simp

/-- whether the byte at place k is taken along by an Escape; whether it stands for itself -/
def takenAt (l : List UInt8) : Nat → Bool
  | 0 => false
  | k + 1 => !takenAt l k && l.getD k 0 == 0x7d
def plainAt (l : List UInt8) (k : Nat) : Bool := !takenAt l k && l.getD k 0 != 0x7e && l.getD k 0 != 0x7d
def plainB (l : List UInt8) : List Bool := (List.range l.length).map (plainAt l)
theorem plainB_length (l : List UInt8) : (plainB l).length = l.length := by simp [plainB]
theorem getD_at (l : List UInt8) (k : Nat) (h : k < l.length) : l.getD k 0 = l[k] := by simp [List.getD_eq_getElem?_getD, h]

/-- A call's end that makes a []byte and tells a number with it. -/
def GivesN (w : World) (z : Int) (l : List UInt8) (e : Ending) (w' : World) : Prop :=
  ∃ A n c, e = .returned (.tuple #[.slice A n c, .int .i64 z]) ∧ Bys w' A n c l ∧ Below w.heap.size w w'
/-- what Get tells -/
def unstE (r : Option (List UInt8)) : Int := if r.isSome then 0 else 30
theorem u8_ne {a b : UInt8} (h : a ≠ b) : ((a.toNat : Int) == (b.toNat : Int)) = false := by
  simp
  exact fun e => h (UInt8.toNat_inj.1 (by omega))
theorem u8_turn (a : UInt8) : bits BinOp.xor IntKind.u8 (a.toNat : Int) 32 = ((a ^^^ 0x20).toNat : Int) := by
  have : ∀ a : Fin 256, bits BinOp.xor IntKind.u8 ((UInt8.ofNat a.val).toNat : Int) 32 = ((UInt8.ofNat a.val ^^^ 0x20).toNat : Int) := by decide +kernel
  have h := this ⟨a.toNat, a.toNat_lt⟩
  simpa using h
end Go.Proofs.Ytgppoapdpgblmaa
