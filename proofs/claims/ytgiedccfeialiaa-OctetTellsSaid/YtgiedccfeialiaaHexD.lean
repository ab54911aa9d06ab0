/- What octet.digit and kedgeref01.digit answer. -/
import Derived.Test.YtgiedccfeialiaaBase
namespace Go.Proofs.Ytgiedccfeialiaa
open Go.RowKit

/-- what a digit says; none: it is no digit -/
def digOf (c : UInt8) : Option Nat := if 48 ≤ c.toNat ∧ c.toNat ≤ 57 then some (c.toNat - 48) else if 97 ≤ c.toNat ∧ c.toNat ≤ 102 then some (c.toNat - 87) else none
def digV (c : UInt8) : Nat := (digOf c).getD 0
def digOk (c : UInt8) : Bool := (digOf c).isSome
theorem digV_lt (c : UInt8) : digV c < 16 := by
  unfold digV digOf
  split
  · simp; omega
  · split
    · simp; omega
    · simp
def hexChar (n : Nat) : UInt8 := UInt8.ofNat (if n < 10 then 48 + n else 87 + n)
theorem hexChar_toNat (n : Nat) (h : n < 16) : (hexChar n).toNat = if n < 10 then 48 + n else 87 + n := by
  unfold hexChar
  rw [UInt8.toNat_ofNat']
  split <;> omega
theorem digOf_hexChar (n : Nat) (h : n < 16) : digOf (hexChar n) = some n := by
  unfold digOf
  rw [hexChar_toNat n h]
  by_cases h1 : n < 10
  · simp only [h1, if_true]
    rw [if_pos (by omega)]
    congr 1; omega
  · simp only [h1, if_false]
    rw [if_neg (by omega), if_pos (by omega)]
    congr 1; omega
theorem hexChar_digOf (c : UInt8) (n : Nat) (h : digOf c = some n) : hexChar n = c := by
  apply UInt8.toNat_inj.1
  unfold digOf at h
  by_cases h1 : 48 ≤ c.toNat ∧ c.toNat ≤ 57
  · rw [if_pos h1] at h
    injection h with h
    rw [hexChar_toNat n (by omega), if_pos (by omega)]; omega
  · rw [if_neg h1] at h
    by_cases h2 : 97 ≤ c.toNat ∧ c.toNat ≤ 102
    · rw [if_pos h2] at h
      injection h with h
      rw [hexChar_toNat n (by omega), if_neg (by omega)]; omega
    · rw [if_neg h2] at h; cases h

theorem ret_u8b {a b : Int} {x y : Bool} (h : a = b) (h2 : x = y) : Ending.returned (.tuple #[.int .u8 a, .bool x]) = .returned (.tuple #[.int .u8 b, .bool y]) := by rw [h, h2]

set_option maxRecDepth 20000 in
set_option maxHeartbeats 1000000 in
theorem digit_any (c : UInt8) (w : World) : Calls Try.prog 10 #[.int .u8 (c.toNat : Int)] w fun e w' => e = .returned (.tuple #[.int .u8 (digV c : Int), .bool (digOk c)]) ∧ w' = w := by
  have hv : digV c = (digOf c).getD 0 := rfl
  have ho : digOk c = (digOf c).isSome := rfl
  unfold digOf at hv ho
  have hb := lt256 c
  obtain ⟨x, hx⟩ : ∃ x : Nat, x = c.toNat := ⟨_, rfl⟩
  rw [← hx] at hv ho hb ⊢
  clear hx
  generalize digV c = V at *
  generalize digOk c = O at *
  by_cases h1 : 48 ≤ x ∧ x ≤ 57
  · rw [if_pos h1] at hv ho
    simp at hv ho
    subst hv; subst ho
    obtain ⟨h1a, h1b⟩ := h1
    have e1 : decide ((48 : Int) ≤ (x : Int)) = true := by simp; omega
    go_enter Try.func10, Try.ntmps10
    go_wp2
    go_ret2
    refine ⟨ret_u8b ?_ rfl, rfl⟩
    omega
  · rw [if_neg h1] at hv ho
    by_cases h2 : 97 ≤ x ∧ x ≤ 102
    · rw [if_pos h2] at hv ho
      simp at hv ho
      subst hv; subst ho
      obtain ⟨h2a, h2b⟩ := h2
      clear h1
      have e1 : decide ((48 : Int) ≤ (x : Int)) = true := by simp; omega
      have e2 : decide ((x : Int) ≤ 57) = false := by simp; omega
      have e3 : decide ((97 : Int) ≤ (x : Int)) = true := by simp; omega
      go_enter Try.func10, Try.ntmps10
      go_wp2
      go_ret2
      refine ⟨ret_u8b ?_ rfl, rfl⟩
      omega
    · rw [if_neg h2] at hv ho
      simp at hv ho
      subst hv; subst ho
      by_cases h3 : 48 ≤ x
      · have e1 : decide ((48 : Int) ≤ (x : Int)) = true := by simp; omega
        have e2 : decide ((x : Int) ≤ 57) = false := by simp; omega
        by_cases h4 : 97 ≤ x
        · have e3 : decide ((97 : Int) ≤ (x : Int)) = true := by simp; omega
          have e4 : decide ((x : Int) ≤ 102) = false := by simp; omega
          clear h1 h2
          go_enter Try.func10, Try.ntmps10
          go_wp2
          go_ret2
          exact ⟨rfl, rfl⟩
        · have e3 : decide ((97 : Int) ≤ (x : Int)) = false := by simp; omega
          clear h1 h2
          go_enter Try.func10, Try.ntmps10
          go_wp2
          go_ret2
          exact ⟨rfl, rfl⟩
      · have e1 : decide ((48 : Int) ≤ (x : Int)) = false := by simp; omega
        have e3 : decide ((97 : Int) ≤ (x : Int)) = false := by simp; omega
        clear h1 h2
        go_enter Try.func10, Try.ntmps10
        go_wp2
        go_ret2
        exact ⟨rfl, rfl⟩

def rdig (c : UInt8) : Int := if digOk c then (digV c : Int) else -1
theorem rdig_of (c : UInt8) (n : Nat) (h : digOf c = some n) : rdig c = n := by simp [rdig, digOk, digV, h]
theorem rdig_no (c : UInt8) (h : digOf c = none) : rdig c = -1 := by simp [rdig, digOk, h]
theorem digOf_none (c : UInt8) (h : ∀ j, j < 16 → hexChar j ≠ c) : digOf c = none := by
  rcases hd : digOf c with _ | n
  · rfl
  · have := digV_lt c
    unfold digV at this
    rw [hd] at this
    exact absurd (hexChar_digOf c n hd) (h n this)
theorem hex_lit (k : Nat) (h : k < 16) (h' : k < ByteArray.size ⟨#[48, 49, 50, 51, 52, 53, 54, 55, 56, 57, 97, 98, 99, 100, 101, 102]⟩) : (⟨#[48, 49, 50, 51, 52, 53, 54, 55, 56, 57, 97, 98, 99, 100, 101, 102]⟩ : ByteArray)[k]'h' = hexChar k := by
  have : ∀ k : Fin 16, (#[48, 49, 50, 51, 52, 53, 54, 55, 56, 57, 97, 98, 99, 100, 101, 102] : Array UInt8)[k.val]'(by have := k.isLt; simp) = hexChar k.val := by decide
  exact this ⟨k, h⟩

set_option maxRecDepth 20000 in
set_option maxHeartbeats 1000000 in
theorem rdigit_any (c : UInt8) (w : World) : Calls Try.prog 11 #[.int .u8 (c.toNat : Int)] w fun e w' => e = .returned (.int .i64 (rdig c)) ∧ w' = w := by
  have hb := lt256 c
  go_enter Try.func11, Try.ntmps11
  go_wp2
  go_loop [3] (fun i => ∃ k : Nat, k ≤ 16 ∧ i = .int .i64 k ∧ ∀ j, j < k → hexChar j ≠ c) (fun i => 16 - (intOf i).toNat)
  case atStart => exact ⟨0, Nat.zero_le _, rfl, by omega⟩
  case round =>
    obtain ⟨k, hk, rfl, hno⟩ := hrel
    have HN := Lib.hid hno; clear hno
    by_cases h : k < 16
    · have hs : k < ByteArray.size ⟨#[48, 49, 50, 51, 52, 53, 54, 55, 56, 57, 97, 98, 99, 100, 101, 102]⟩ := h
      by_cases hq : hexChar k = c
      · have ht : (((((⟨#[48, 49, 50, 51, 52, 53, 54, 55, 56, 57, 97, 98, 99, 100, 101, 102]⟩ : ByteArray)[k]'hs).toNat : Nat) : Int) == (c.toNat : Int)) = true := by rw [hex_lit k h hs, hq]; simp
        have hd : digOf c = some k := by rw [← hq]; exact digOf_hexChar k h
        have HD := Lib.hid hd; clear hd
        have HQ := Lib.hid hq; clear hq
        go_wp2
        go_ret
        exact ⟨ret_int (rdig_of c k HD.out).symm, rfl⟩
      · have ht : (((((⟨#[48, 49, 50, 51, 52, 53, 54, 55, 56, 57, 97, 98, 99, 100, 101, 102]⟩ : ByteArray)[k]'hs).toNat : Nat) : Int) == (c.toNat : Int)) = false := by
          rw [hex_lit k h hs, beq_eq_false_iff_ne]
          intro e
          exact hq (UInt8.toNat_inj.1 (by omega))
        have HQ := Lib.hid hq; clear hq
        go_wp2
        go_round
        case rel =>
          refine ⟨k + 1, by omega, by go_num, fun j hj => ?_⟩
          by_cases hjk : j = k
          · subst hjk; exact HQ.out
          · exact HN.out j (by omega)
        case measure => simp [intOf]; omega
    · go_wp2
      go_ret
      exact ⟨ret_int (rdig_no c (digOf_none c fun j hj => HN.out j (by omega))).symm, rfl⟩
end Go.Proofs.Ytgiedccfeialiaa
