/- What octet.Number and kedgeref01.Number answer: the number whose bytes these are, the highest first; 0 if there are more than 8. -/
import Derived.Test.YtabackggnkplhaaDoorBase
import Derived.Laws.BitsAllLaws
namespace Go.Proofs.YtabackggnkplhaaDoor
open Go.RowKit
set_option maxRecDepth 20000

def numOf (l : List UInt8) : Nat := l.foldl (fun a b => a * 256 + b.toNat) 0
def numB (l : List UInt8) : Nat := if l.length ≤ 8 then numOf l else 0
theorem numOf_snoc (l : List UInt8) (b : UInt8) : numOf (l ++ [b]) = numOf l * 256 + b.toNat := by simp [numOf, List.foldl_append]
theorem numOf_take (l : List UInt8) (k : Nat) (h : k < l.length) : numOf (l.take (k + 1)) = numOf (l.take k) * 256 + l[k].toNat := by
  rw [← numOf_snoc, List.take_succ_eq_append_getElem h]
theorem numOf_lt (l : List UInt8) : ∀ k, k ≤ l.length → numOf (l.take k) < 256 ^ k := by
  intro k
  induction k with
  | zero => intro _; simp [numOf]
  | succ k ih =>
    intro h
    rw [numOf_take l k (by omega)]
    have := ih (by omega)
    have hb := l[k].toNat_lt
    rw [Nat.pow_succ]
    omega
theorem numOf_small (l : List UInt8) (k : Nat) (h : k < l.length) (h8 : l.length ≤ 8) : numOf (l.take k) < 72057594037927936 := by
  have h1 := numOf_lt l k (by omega)
  have h2 : 256 ^ k ≤ 256 ^ 7 := Nat.pow_le_pow_right (by omega) (by omega)
  have h3 : (256 : Nat) ^ 7 = 72057594037927936 := by decide
  omega

theorem or_step (N : Nat) (b : UInt8) (hN : N < 72057594037927936) : bits BinOp.or IntKind.u64 ((N : Int) * 256) (b.toNat : Int) = ((N * 256 + b.toNat : Nat) : Int) := by
  have hb := b.toNat_lt
  have e : ((N : Int) * 256) = ((N * 256 : Nat) : Int) := by omega
  rw [e, u64_or_nat _ _ (by omega) (by omega), nat_join 8 (N * 256) b.toNat (by omega) (by omega)]

set_option maxHeartbeats 1000000 in
theorem number_any (A : Option Addr) (n c : Nat) (l : List UInt8) (w : World) (h : Bys w A n c l) :
    Calls Tryd.prog 26 #[.slice A n c] w fun e w' => e = .returned (.int .u64 (numB l : Int)) ∧ w' = w := by
  obtain ⟨hl, hnc, hcm, hcell⟩ := h
  unfold maxLen at hcm
  subst hl
  have HC := Lib.hid hcell; clear hcell
  by_cases h8 : l.length ≤ 8
  · go_enter Tryd.func26, Tryd.ntmps26
    go_wp2
    go_loop [3, 10] (fun t i => ∃ k : Nat, k ≤ l.length ∧ i = .int .i64 k ∧ t = .int .u64 (numOf (l.take k) : Int)) (fun _ i => l.length - (intOf i).toNat)
    case atStart => exact ⟨0, Nat.zero_le _, rfl, rfl⟩
    case round =>
      obtain ⟨k, hk, rfl, rfl⟩ := hrel
      by_cases hlt : k < l.length
      · obtain ⟨b, o, rfl, hb, hc⟩ := HC.out (by omega)
        have c1 := hc k hlt
        clear hc
        have hs := numOf_small l k hlt h8
        have HT := Lib.hid (numOf_take l k hlt)
        have hb2 := lt256 l[k]
        generalize numOf (l.take k) = N at *
        go_wp2
        go_round
        case rel => exact ⟨k + 1, by omega, by go_num, by rw [HT.out]; rw [or_step _ _ hs]⟩
        case measure => simp [intOf]; omega
      · go_wp2
        go_ret
        refine ⟨ret_int ?_, rfl⟩
        rw [List.take_of_length_le (by omega), numB, if_pos h8]
  · go_enter Tryd.func26, Tryd.ntmps26
    go_wp2
    go_ret
    refine ⟨ret_int ?_, rfl⟩
    rw [numB, if_neg h8]; rfl

end Go.Proofs.YtabackggnkplhaaDoor
