/- What octet.Put answers: the lowest bytes of a number, the highest first, in memory of the call's own. -/
import Derived.Test.YtabackggnkplhaaDoorWords
import Derived.Laws.BitsAllLaws
import Derived.Test.YtabackggnkplhaaDoorOwn
namespace Go.Proofs.YtabackggnkplhaaDoor
open Go.RowKit
set_option maxRecDepth 20000

def putB (n : Nat) : Nat → List UInt8
  | 0 => []
  | k + 1 => UInt8.ofNat (n / 256 ^ k) :: putB n k
/-- for whatever width is asked -/
def putOf (n : Nat) (x : Int) : List UInt8 := if x < 1 ∨ 8 < x then [] else putB n x.toNat
theorem putB_length (n k : Nat) : (putB n k).length = k := by induction k with | zero => rfl | succ k ih => simp [putB, ih]

theorem two_pow8 (k : Nat) : 2 ^ (8 * k) = 256 ^ k := by rw [Nat.pow_mul]
theorem put_byte (n k : Nat) : Value.int IntKind.u8 ((n : Int) / 2 ^ (8 * k) % 256) = bv (UInt8.ofNat (n / 256 ^ k)) := by
  unfold bv
  congr 1
  have e : ((2 : Int) ^ (8 * k)) = ((256 ^ k : Nat) : Int) := by rw [← two_pow8]; simp
  rw [e]
  have := UInt8.toNat_ofNat' (n := n / 256 ^ k)
  rw [this]
  simp
theorem put_set (n k wide : Nat) (h : k < wide) : (List.replicate (wide - k) (Value.int .u8 0) ++ bvs (putB n k)).set (wide - 1 - k) (.int .u8 ((n : Int) / 2 ^ (8 * k) % 256)) = List.replicate (wide - (k + 1)) (.int .u8 0) ++ bvs (putB n (k + 1)) := by
  rw [put_byte]
  have e : wide - k = (wide - (k + 1)) + 1 := by omega
  have e2 : wide - 1 - k = wide - (k + 1) := by omega
  rw [e, e2, List.replicate_succ', List.append_assoc, List.set_append_right _ _ (by simp)]
  simp [putB, bvs]

set_option maxHeartbeats 1000000 in
theorem put_no (n x : Int) (w : World) (h : x < 1 ∨ 8 < x) :
    Calls Tryd.prog 16 #[.int .u64 n, .int .i64 x] w fun e w' => e = .returned (.slice none 0 0) ∧ w' = w := by
  rcases h with h | h
  · have hd : decide (x < 1) = true := by simpa using h
    go_enter Tryd.func16, Tryd.ntmps16
    go_wp2
    go_ret
    exact ⟨rfl, rfl⟩
  · have hd : decide (x < 1) = false := by simp; omega
    go_enter Tryd.func16, Tryd.ntmps16
    go_wp2
    go_ret
    exact ⟨rfl, rfl⟩

set_option maxHeartbeats 1000000 in
theorem put_own (n wide : Nat) (w : World) (h1 : 1 ≤ wide) (h8 : wide ≤ 8) :
    Calls Tryd.prog 16 #[.int .u64 n, .int .i64 wide] w fun e w' => e = .returned (.slice (some ⟨w.heap.size, 0, none⟩) wide wide) ∧ w'.ownsRow w.heap.size 5 1 (.slice (some ⟨w.heap.size, 0, none⟩) wide wide) wide (bvs (putB n wide)) ∧ Below w.heap.size w w' := by
  have hd : decide ((wide : Int) < 1) = false := by simp; omega
  obtain ⟨i0, hi, hz0, hz1, hz2⟩ := info_parts Tryd.info5
  go_enter Tryd.func16, Tryd.ntmps16
  go_wp2_with (at_make; refine wpList_make_full _ rfl _ _ 23 rfl w.heap.size 5 i0 (.int .u8 0) 1 Tryd.underlying23 hi hz0 hz1 .i64 .i64 _ _ wide rfl rfl rfl rfl (by rw [hz2]; omega) (by unfold maxLen; omega) (Nat.le_refl _) ?_; intro w1 hown hgrow)
  go_loopw [16] (fun i wr => ∃ k : Nat, k ≤ wide ∧ i = .int .i64 k ∧ wr.ownsRow w.heap.size 5 1 (.slice (some ⟨w.heap.size, 0, none⟩) wide wide) wide (List.replicate (wide - k) (.int .u8 0) ++ bvs (putB n k)) ∧ Below w.heap.size w wr) (fun i _ => wide - (intOf i).toNat)
  case atStart =>
    refine ⟨0, Nat.zero_le _, rfl, ?_, (Below.refl _ _).grown hgrow (Nat.le_refl _) (by simp)⟩
    simpa [toList_madeCells_one, Value.cells, putB, bvs] using hown
  case round =>
    obtain ⟨k, hk, rfl, hown2, hbel⟩ := hrel
    by_cases hlt : k < wide
    · have c1 : wr.cell? ⟨w.heap.size, wide - 1 - k, none⟩ = some (.int .u8 0) := by
        rw [hown2.cellAt _ (by omega), List.getElem?_append_left (by simp; omega), List.getElem?_replicate, if_pos (by omega)]
      have f1 := hown2.frozenAt (wide - 1 - k)
      go_wp2
      go_roundw
      case rel =>
        refine ⟨k + 1, by omega, by go_num, ?_, hbel.setCell (Nat.le_refl _) _⟩
        have := (hown2.stored (wide - 1 - k) (.int .u8 ((n : Int) / 2 ^ (8 * k) % 256))).1
        rw [put_set n k wide hlt] at this
        exact this
      case measure => simp [intOf]; omega
    · go_wp2
      go_ret
      obtain rfl : k = wide := by omega
      have hO : wr.ownsRow w.heap.size 5 1 (.slice (some ⟨w.heap.size, 0, none⟩) k k) k (bvs (putB n k)) := by simpa using hown2
      exact ⟨rfl, hO, hbel⟩
theorem put_yes (n wide : Nat) (w : World) (_hn : n < 18446744073709551616) (h1 : 1 ≤ wide) (h8 : wide ≤ 8) :
    Calls Tryd.prog 16 #[.int .u64 n, .int .i64 wide] w (GivesO w (putB n wide)) := by
  refine (put_own n wide w h1 h8).mono fun e w' ⟨he, hO, hbel⟩ => ?_
  have hpl := putB_length n wide
  refine ⟨w.heap.size, wide, ?_, ?_, hbel⟩
  · rw [hpl]; exact he
  · rw [hpl]; exact Own.of_row hO

theorem putOf_no (n : Nat) (x : Int) (h : x < 1 ∨ 8 < x) : putOf n x = [] := by rw [putOf, if_pos h]
theorem put_any (n : Nat) (x : Int) (w : World) (hn : n < 18446744073709551616) :
    Calls Tryd.prog 16 #[.int .u64 n, .int .i64 x] w (GivesB w (putOf n x)) := by
  by_cases h : x < 1 ∨ 8 < x
  · refine (put_no n x w h).mono fun e w' ⟨he, hw⟩ => ?_
    subst hw
    rw [putOf_no n x h]
    exact ⟨_, _, _, he, Bys.nil _, Below.refl _ _⟩
  · obtain ⟨k, rfl⟩ := Int.eq_ofNat_of_zero_le (show 0 ≤ x by omega)
    rw [putOf, if_neg h]
    exact (put_yes n k w hn (by omega) (by omega)).mono fun _ _ h => h.givesB
end Go.Proofs.YtabackggnkplhaaDoor
