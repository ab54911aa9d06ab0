/- Plain facts on the counting engine's packets: which are right, their bytes, and back. Nothing of the program is in here. -/
import Derived.Test.YtpdnpfohcnpenaaWords
namespace Go.Proofs.Ytpdnpfohcnpenaa
open Go.RowKit
set_option maxRecDepth 20000

/-- a packet is right: its kind, its label, how many bytes of Data -/
def prRight (k l : Int) (n : Nat) : Bool :=
  if k < 0 ∨ 4 < k then false else if k = 3 then decide (0 ≤ l ∧ l ≤ 1 ∧ n ≤ 64) else if k = 4 then decide (0 ≤ l ∧ l ≤ 1 ∧ n = 0) else decide (l = 0 ∧ n = 0)
/-- its header -/
def prHead (k l : Int) : Int := if k = 3 then 4 + l else if k = 4 then 6 + l else k
theorem prRight_le {k l : Int} {n : Nat} (h : prRight k l n = true) : n ≤ 64 := by
  unfold prRight at h
  split at h
  · cases h
  · split at h
    · have := of_decide_eq_true h; omega
    · split at h <;> (have := of_decide_eq_true h; omega)
theorem prHead_lt {k l : Int} {n : Nat} (h : prRight k l n = true) : 0 ≤ prHead k l ∧ prHead k l < 8 ∧ prHead k l ≠ 3 := by
  unfold prRight at h
  unfold prHead
  split at h
  · cases h
  · split at h
    · rename_i h3; have := of_decide_eq_true h; rw [if_pos h3]; omega
    · rename_i h3
      rw [if_neg h3]
      split at h
      · rename_i h4; have := of_decide_eq_true h; rw [if_pos h4]; omega
      · rename_i h4; rw [if_neg h4]; omega
/-- the bytes of a right packet; none of another one -/
def prPut (k l : Int) (d : List UInt8) : List UInt8 := if prRight k l d.length then UInt8.ofNat (prHead k l).toNat :: d else []
def prErr (k l : Int) (n : Nat) : Int := if prRight k l n then 0 else 130
/-- the kind and the label that a header tells -/
def prKind (h : Nat) : Int := if h = 4 ∨ h = 5 then 3 else if h = 6 ∨ h = 7 then 4 else h
def prLabel (h : Nat) : Int := if h = 4 ∨ h = 5 then (h : Int) - 4 else if h = 6 ∨ h = 7 then (h : Int) - 6 else 0
/-- whether bytes are a packet's -/
def prOk : List UInt8 → Bool
  | [] => false
  | h :: d => decide (h.toNat ≠ 3) && (decide (h.toNat < 8) && prRight (prKind h.toNat) (prLabel h.toNat) d.length)
def prGetK : List UInt8 → Int
  | [] => 0
  | h :: d => if prOk (h :: d) then prKind h.toNat else 0
def prGetL : List UInt8 → Int
  | [] => 0
  | h :: d => if prOk (h :: d) then prLabel h.toNat else 0
def prGetD : List UInt8 → List UInt8
  | [] => []
  | h :: d => if prOk (h :: d) then d else []
theorem prOk_cons (h : UInt8) (d : List UInt8) : prOk (h :: d) = (decide (h.toNat ≠ 3) && (decide (h.toNat < 8) && prRight (prKind h.toNat) (prLabel h.toNat) d.length)) := rfl
theorem prGetK_cons (h : UInt8) (d : List UInt8) : prGetK (h :: d) = if prOk (h :: d) then prKind h.toNat else 0 := rfl
theorem prGetL_cons (h : UInt8) (d : List UInt8) : prGetL (h :: d) = if prOk (h :: d) then prLabel h.toNat else 0 := rfl
theorem prGetD_cons (h : UInt8) (d : List UInt8) : prGetD (h :: d) = if prOk (h :: d) then d else [] := rfl
def prGetE (b : List UInt8) : Int := if prOk b then 0 else 130
theorem prHead_back {k l : Int} {n : Nat} (h : prRight k l n = true) : prKind (prHead k l).toNat = k ∧ prLabel (prHead k l).toNat = l := by
  unfold prRight at h
  unfold prHead prKind prLabel
  split at h
  · cases h
  · split at h
    · rename_i h3
      have h2 := of_decide_eq_true h
      rw [if_pos h3, if_pos (by omega), if_pos (by omega)]
      omega
    · rename_i h3
      rw [if_neg h3]
      split at h
      · rename_i h4
        have h2 := of_decide_eq_true h
        rw [if_pos h4, if_neg (by omega), if_pos (by omega), if_neg (by omega), if_pos (by omega)]
        omega
      · rename_i h4
        have h2 := of_decide_eq_true h
        rw [if_neg h4, if_neg (by omega), if_neg (by omega), if_neg (by omega), if_neg (by omega)]
        omega
theorem prHead_kind (h : Nat) (h3 : h ≠ 3) : prHead (prKind h) (prLabel h) = h := by
  unfold prKind prLabel prHead
  by_cases c1 : h = 4 ∨ h = 5
  · rw [if_pos c1, if_pos c1, if_pos rfl]; omega
  · rw [if_neg c1, if_neg c1]
    by_cases c2 : h = 6 ∨ h = 7
    · rw [if_pos c2, if_pos c2, if_neg (by omega), if_pos rfl]; omega
    · rw [if_neg c2, if_neg c2, if_neg (by omega), if_neg (by omega)]
theorem prHead_byte {k l : Int} {n : Nat} (h : prRight k l n = true) : (UInt8.ofNat (prHead k l).toNat).toNat = (prHead k l).toNat := by
  have := prHead_lt h
  rw [UInt8.toNat_ofNat', Nat.mod_eq_of_lt (by omega)]
/-- P13.3: what was put is got -/
theorem prOk_put (k l : Int) (d : List UInt8) (h : prRight k l d.length = true) : prPut k l d = UInt8.ofNat (prHead k l).toNat :: d ∧ prOk (prPut k l d) = true ∧ prGetK (prPut k l d) = k ∧ prGetL (prPut k l d) = l ∧ prGetD (prPut k l d) = d := by
  have e : prPut k l d = UInt8.ofNat (prHead k l).toNat :: d := by unfold prPut; rw [if_pos h]
  have hb := prHead_byte h
  have hl := prHead_lt h
  have hk := prHead_back h
  have ho : prOk (UInt8.ofNat (prHead k l).toNat :: d) = true := by
    rw [prOk_cons, hb, hk.1, hk.2, h]
    simp
    omega
  rw [e]
  refine ⟨rfl, ho, ?_, ?_, ?_⟩
  · rw [prGetK_cons, if_pos ho, hb, hk.1]
  · rw [prGetL_cons, if_pos ho, hb, hk.2]
  · rw [prGetD_cons, if_pos ho]
/-- .. and what was got is put -/
theorem prPut_get (b : List UInt8) (h : prOk b = true) : prRight (prGetK b) (prGetL b) (prGetD b).length = true ∧ prPut (prGetK b) (prGetL b) (prGetD b) = b := by
  match b, h with
  | x :: d, h =>
    have h' := h
    rw [prOk_cons] at h'
    simp only [Bool.and_eq_true, decide_eq_true_eq] at h'
    obtain ⟨h3, _, hr⟩ := h'
    have e1 : prGetK (x :: d) = prKind x.toNat := by rw [prGetK_cons, if_pos h]
    have e2 : prGetL (x :: d) = prLabel x.toNat := by rw [prGetL_cons, if_pos h]
    have e3 : prGetD (x :: d) = d := by rw [prGetD_cons, if_pos h]
    rw [e1, e2, e3]
    refine ⟨hr, ?_⟩
    unfold prPut
    rw [if_pos hr, prHead_kind _ h3]
    simp
theorem prErr_yes {k l : Int} {n : Nat} (h : prRight k l n = true) : prErr k l n = 0 := by unfold prErr; rw [if_pos h]
theorem prErr_no {k l : Int} {n : Nat} (h : prRight k l n = false) : prErr k l n = 130 := by unfold prErr; rw [h]; rfl
theorem prPut_no {k l : Int} {d : List UInt8} (h : prRight k l d.length = false) : prPut k l d = [] := by unfold prPut; rw [h]; rfl
end Go.Proofs.Ytpdnpfohcnpenaa
