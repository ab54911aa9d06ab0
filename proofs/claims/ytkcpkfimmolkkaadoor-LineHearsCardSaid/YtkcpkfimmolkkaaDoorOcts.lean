/- Joined: Put Rput Num Rnum. -/
import Derived.Test.YtkcpkfimmolkkaaDoorWords
import Derived.Laws.BitsAllLaws
import Derived.Test.YtkcpkfimmolkkaaDoorOwn
import Derived.Test.YtkcpkfimmolkkaaDoorBase
/- What octet.Put answers: the lowest bytes of a number, the highest first, in memory of the call's own. -/
namespace Go.Proofs.YtkcpkfimmolkkaaDoor
open Go.RowKit
set_option maxRecDepth 20000

def putB (n : Nat) : Nat → List UInt8
  | 0 => []
  | k + 1 => UInt8.ofNat (n / 256 ^ k) :: putB n k
/-- for whatever width is asked -/
def putOf (n : Nat) (x : Int) : List UInt8 := if x < 1 ∨ 8 < x then [] else putB n x.toNat
theorem putB_length (n k : Nat) : (putB n k).length = k := by induction k with | zero => rfl | succ k ih => simp [putB, ih]

theorem two_pow8 (k : Nat) : 2 ^ (8 * k) = 256 ^ k := by rw [Nat.pow_mul]
theorem put_byte (n k : Nat) : Value.int IntKind.u8 ((n : Int) / 2 ^ (8 * k) % 256) = bv (UInt8.ofNat (n / 256 ^ k)) := by
  unfold bv
  congr 1
  have e : ((2 : Int) ^ (8 * k)) = ((256 ^ k : Nat) : Int) := by rw [← two_pow8]; simp
  rw [e]
  have := UInt8.toNat_ofNat' (n := n / 256 ^ k)
  rw [this]
  simp
theorem put_set (n k wide : Nat) (h : k < wide) : (List.replicate (wide - k) (Value.int .u8 0) ++ bvs (putB n k)).set (wide - 1 - k) (.int .u8 ((n : Int) / 2 ^ (8 * k) % 256)) = List.replicate (wide - (k + 1)) (.int .u8 0) ++ bvs (putB n (k + 1)) := by
  rw [put_byte]
  have e : wide - k = (wide - (k + 1)) + 1 := by omega
  have e2 : wide - 1 - k = wide - (k + 1) := by omega
  rw [e, e2, List.replicate_succ', List.append_assoc, List.set_append_right _ _ (by simp)]
  simp [putB, bvs]

set_option maxHeartbeats 1000000 in
theorem put_no (n x : Int) (w : World) (h : x < 1 ∨ 8 < x) :
    Calls Tryd.prog 27 #[.int .u64 n, .int .i64 x] w fun e w' => e = .returned (.slice none 0 0) ∧ w' = w := by
  rcases h with h | h
  · have hd : decide (x < 1) = true := by simpa using h
    go_enter Tryd.func27, Tryd.ntmps27
    go_wp2
    go_ret
    exact ⟨rfl, rfl⟩
  · have hd : decide (x < 1) = false := by simp; omega
    go_enter Tryd.func27, Tryd.ntmps27
    go_wp2
    go_ret
    exact ⟨rfl, rfl⟩

set_option maxHeartbeats 1000000 in
theorem put_yes (n wide : Nat) (w : World) (_hn : n < 18446744073709551616) (h1 : 1 ≤ wide) (h8 : wide ≤ 8) :
    Calls Tryd.prog 27 #[.int .u64 n, .int .i64 wide] w (GivesO w (putB n wide)) := by
  have hd : decide ((wide : Int) < 1) = false := by simp; omega
  obtain ⟨i0, hi, hz0, hz1, hz2⟩ := info_parts Tryd.info5
  go_enter Tryd.func27, Tryd.ntmps27
  go_wp2_with (at_make; refine wpList_make_full _ rfl _ _ 22 rfl w.heap.size 5 i0 (.int .u8 0) 1 Tryd.underlying22 hi hz0 hz1 .i64 .i64 _ _ wide rfl rfl rfl rfl (by rw [hz2]; omega) (by unfold maxLen; omega) (Nat.le_refl _) ?_; intro w1 hown hgrow)
  go_loopw [16] (fun i wr => ∃ k : Nat, k ≤ wide ∧ i = .int .i64 k ∧ wr.ownsRow w.heap.size 5 1 (.slice (some ⟨w.heap.size, 0, none⟩) wide wide) wide (List.replicate (wide - k) (.int .u8 0) ++ bvs (putB n k)) ∧ Below w.heap.size w wr) (fun i _ => wide - (intOf i).toNat)
  case atStart =>
    refine ⟨0, Nat.zero_le _, rfl, ?_, (Below.refl _ _).grown hgrow (Nat.le_refl _) (by simp)⟩
    simpa [toList_madeCells_one, Value.cells, putB, bvs] using hown
  case round =>
    obtain ⟨k, hk, rfl, hown2, hbel⟩ := hrel
    by_cases hlt : k < wide
    · have c1 : wr.cell? ⟨w.heap.size, wide - 1 - k, none⟩ = some (.int .u8 0) := by
        rw [hown2.cellAt _ (by omega), List.getElem?_append_left (by simp; omega), List.getElem?_replicate, if_pos (by omega)]
      have f1 := hown2.frozenAt (wide - 1 - k)
      go_wp2
      go_roundw
      case rel =>
        refine ⟨k + 1, by omega, by go_num, ?_, hbel.setCell (Nat.le_refl _) _⟩
        have := (hown2.stored (wide - 1 - k) (.int .u8 ((n : Int) / 2 ^ (8 * k) % 256))).1
        rw [put_set n k wide hlt] at this
        exact this
      case measure => simp [intOf]; omega
    · go_wp2
      go_ret
      obtain rfl : k = wide := by omega
      have hO : wr.ownsRow w.heap.size 5 1 (.slice (some ⟨w.heap.size, 0, none⟩) k k) k (bvs (putB n k)) := by simpa using hown2
      have hO := Own.of_row hO
      have hpl := putB_length n k
      refine ⟨w.heap.size, k, ?_, ?_, hbel⟩
      · rw [hpl]; rfl
      · rw [hpl]; exact hO

theorem putOf_no (n : Nat) (x : Int) (h : x < 1 ∨ 8 < x) : putOf n x = [] := by rw [putOf, if_pos h]
theorem put_any (n : Nat) (x : Int) (w : World) (hn : n < 18446744073709551616) :
    Calls Tryd.prog 27 #[.int .u64 n, .int .i64 x] w (GivesB w (putOf n x)) := by
  by_cases h : x < 1 ∨ 8 < x
  · refine (put_no n x w h).mono fun e w' ⟨he, hw⟩ => ?_
    subst hw
    rw [putOf_no n x h]
    exact ⟨_, _, _, he, Bys.nil _, Below.refl _ _⟩
  · obtain ⟨k, rfl⟩ := Int.eq_ofNat_of_zero_le (show 0 ≤ x by omega)
    rw [putOf, if_neg h]
    exact (put_yes n k w hn (by omega) (by omega)).mono fun _ _ h => h.givesB
end Go.Proofs.YtkcpkfimmolkkaaDoor

/- What kedgeref01.Put answers. -/
namespace Go.Proofs.YtkcpkfimmolkkaaDoor
open Go.RowKit
set_option maxRecDepth 20000

set_option maxHeartbeats 1000000 in
theorem rput_no (n x : Int) (w : World) (h : x < 1 ∨ 8 < x) :
    Calls Tryd.prog 33 #[.int .u64 n, .int .i64 x] w fun e w' => e = .returned (.slice none 0 0) ∧ w' = w := by
  rcases h with h | h
  · have hd : decide (x < 1) = true := by simpa using h
    go_enter Tryd.func33, Tryd.ntmps33
    go_wp2
    go_ret
    exact ⟨rfl, rfl⟩
  · have hd : decide (x < 1) = false := by simp; omega
    go_enter Tryd.func33, Tryd.ntmps33
    go_wp2
    go_ret
    exact ⟨rfl, rfl⟩

theorem rput_byte (n k : Nat) : Value.int IntKind.u8 (((n : Int) / 256 ^ k).tmod 256 % 256) = bv (UInt8.ofNat (n / 256 ^ k)) := by
  unfold bv
  congr 1
  have e : ((256 : Int) ^ k) = ((256 ^ k : Nat) : Int) := by simp
  rw [e]
  have := UInt8.toNat_ofNat' (n := n / 256 ^ k)
  have e2 : (n : Int) / ((256 ^ k : Nat) : Int) = ((n / 256 ^ k : Nat) : Int) := (Int.natCast_ediv _ _).symm
  rw [this, e2, Int.tmod_eq_emod_of_nonneg (Int.natCast_nonneg _)]
  omega
theorem rput_div (n k : Nat) (hn : n < 18446744073709551616) : IntKind.u64.wrap (((n : Int) / 256 ^ k).tdiv 256) = ((n / 256 ^ (k + 1) : Nat) : Int) := by
  have e : ((256 : Int) ^ k) = ((256 ^ k : Nat) : Int) := by simp
  have h : n / 256 ^ k ≤ n := Nat.div_le_self _ _
  have e2 : (n : Int) / ((256 ^ k : Nat) : Int) = ((n / 256 ^ k : Nat) : Int) := (Int.natCast_ediv _ _).symm
  rw [e, e2, Nat.pow_succ, ← Nat.div_div_eq_div_mul]
  generalize n / 256 ^ k = q at *
  rw [IntWalk.u64_quo _ _ (by omega)]
  omega
theorem bvs_cons (b : UInt8) (l : List UInt8) : bvs (b :: l) = bv b :: bvs l := rfl
theorem below_of_grown {B : Nat} {a w1 w' : World} {row : Option Nat} (h : Below B a w1) (hg : w1.grownBy w' row) (hB : B ≤ w1.heap.size) (hr : ∀ k, row = some k → B ≤ k) : Below B a w' := h.grown hg hB hr

set_option maxHeartbeats 1000000 in
theorem rput_yes (n wide : Nat) (w : World) (hn : n < 18446744073709551616) (h1 : 1 ≤ wide) (h8 : wide ≤ 8) :
    Calls Tryd.prog 33 #[.int .u64 n, .int .i64 wide] w (GivesB w (putB n wide)) := by
  have hd : decide ((wide : Int) < 1) = false := by simp; omega
  obtain ⟨i0, hi, hz0, hz1, hz2⟩ := info_parts Tryd.info5
  go_enter Tryd.func33, Tryd.ntmps33
  go_wp2
  go_loopw [0, 5, 6] (fun x v i wr => ∃ k : Nat, k ≤ wide ∧ i = .int .i64 k ∧ x = .int .u64 ((n / 256 ^ k : Nat) : Int) ∧ ∃ A c, v = .slice A k c ∧ Bys wr A k c (putB n k) ∧ Below w.heap.size w wr) (fun _ _ i _ => wide - (intOf i).toNat)
  case atStart => exact ⟨0, Nat.zero_le _, rfl, by simp, none, 0, rfl, Bys.nil _, Below.refl _ _⟩
  case round =>
    obtain ⟨k, hk, rfl, rfl, A, c, rfl, hB, hbel⟩ := hrel
    by_cases hlt : k < wide
    · have hlen := putB_length n k
      have hq := Lib.hid (rput_byte n k)
      clear hlen
      go_wp2_with ((with_reducible refine app_bys _ rfl (.tmp 21) (.tmp 22) rfl w.heap.size (.slice (some ⟨wr.heap.size, 0, none⟩) 1 1) 1 [.int .u8 (((n : Int) / 256 ^ k).tmod 256 % 256)] rfl ?c1 A k c (putB n k) rfl (hB.alloc _) ?c2 ?c3 ?_); rotate_right; intro v1 w1 hown1 hgrow1 hwhere1)
      case c1 => exact World.ownsRow_lit (base := w.heap.size) (e := 5) (size := 1) wr #[_] 1 hbel.size (by unfold maxLen; omega) (by simp)
      case c2 => omega
      case c3 => have := hbel.size; simp; omega
      go_roundw
      case rel =>
        rw [hq.out, List.singleton_append, ← bvs_cons, Nat.add_comm 1 k] at hown1
        obtain ⟨A1, c1, rfl⟩ := own_shape hown1
        refine ⟨k + 1, by omega, by go_num, by rw [rput_div n k hn], _, _, rfl, Bys.of_own hown1, ?_⟩
        exact (hbel.alloc hbel.size _).grown hgrow1 (by have := hbel.size; simp; omega) (by intro g hg; simp [Value.ownBlock] at hg; have := hbel.size; omega)
      case measure => simp [intOf]; omega
    · go_wp2
      go_ret
      obtain rfl : k = wide := by omega
      exact ⟨_, _, _, rfl, hB, hbel⟩

theorem rput_any (n : Nat) (x : Int) (w : World) (hn : n < 18446744073709551616) :
    Calls Tryd.prog 33 #[.int .u64 n, .int .i64 x] w (GivesB w (putOf n x)) := by
  by_cases h : x < 1 ∨ 8 < x
  · refine (rput_no n x w h).mono fun e w' ⟨he, hw⟩ => ?_
    subst hw
    rw [putOf_no n x h]
    exact ⟨_, _, _, he, Bys.nil _, Below.refl _ _⟩
  · obtain ⟨k, rfl⟩ := Int.eq_ofNat_of_zero_le (show 0 ≤ x by omega)
    rw [putOf, if_neg h]
    exact rput_yes n k w hn (by omega) (by omega)
end Go.Proofs.YtkcpkfimmolkkaaDoor

/- What octet.Number and kedgeref01.Number answer: the number whose bytes these are, the highest first; 0 if there are more than 8. -/
namespace Go.Proofs.YtkcpkfimmolkkaaDoor
open Go.RowKit
set_option maxRecDepth 20000

def numOf (l : List UInt8) : Nat := l.foldl (fun a b => a * 256 + b.toNat) 0
def numB (l : List UInt8) : Nat := if l.length ≤ 8 then numOf l else 0
theorem numOf_snoc (l : List UInt8) (b : UInt8) : numOf (l ++ [b]) = numOf l * 256 + b.toNat := by simp [numOf, List.foldl_append]
theorem numOf_take (l : List UInt8) (k : Nat) (h : k < l.length) : numOf (l.take (k + 1)) = numOf (l.take k) * 256 + l[k].toNat := by
  rw [← numOf_snoc, List.take_succ_eq_append_getElem h]
theorem numOf_lt (l : List UInt8) : ∀ k, k ≤ l.length → numOf (l.take k) < 256 ^ k := by
  intro k
  induction k with
  | zero => intro _; simp [numOf]
  | succ k ih =>
    intro h
    rw [numOf_take l k (by omega)]
    have := ih (by omega)
    have hb := l[k].toNat_lt
    rw [Nat.pow_succ]
    omega
theorem numOf_small (l : List UInt8) (k : Nat) (h : k < l.length) (h8 : l.length ≤ 8) : numOf (l.take k) < 72057594037927936 := by
  have h1 := numOf_lt l k (by omega)
  have h2 : 256 ^ k ≤ 256 ^ 7 := Nat.pow_le_pow_right (by omega) (by omega)
  have h3 : (256 : Nat) ^ 7 = 72057594037927936 := by decide
  omega

theorem or_step (N : Nat) (b : UInt8) (hN : N < 72057594037927936) : bits BinOp.or IntKind.u64 ((N : Int) * 256) (b.toNat : Int) = ((N * 256 + b.toNat : Nat) : Int) := by
  have hb := b.toNat_lt
  have e : ((N : Int) * 256) = ((N * 256 : Nat) : Int) := by omega
  rw [e, u64_or_nat _ _ (by omega) (by omega), nat_join 8 (N * 256) b.toNat (by omega) (by omega)]

set_option maxHeartbeats 1000000 in
theorem number_any (A : Option Addr) (n c : Nat) (l : List UInt8) (w : World) (h : Bys w A n c l) :
    Calls Tryd.prog 42 #[.slice A n c] w fun e w' => e = .returned (.int .u64 (numB l : Int)) ∧ w' = w := by
  obtain ⟨hl, hnc, hcm, hcell⟩ := h
  unfold maxLen at hcm
  subst hl
  have HC := Lib.hid hcell; clear hcell
  by_cases h8 : l.length ≤ 8
  · go_enter Tryd.func42, Tryd.ntmps42
    go_wp2
    go_loop [3, 10] (fun t i => ∃ k : Nat, k ≤ l.length ∧ i = .int .i64 k ∧ t = .int .u64 (numOf (l.take k) : Int)) (fun _ i => l.length - (intOf i).toNat)
    case atStart => exact ⟨0, Nat.zero_le _, rfl, rfl⟩
    case round =>
      obtain ⟨k, hk, rfl, rfl⟩ := hrel
      by_cases hlt : k < l.length
      · obtain ⟨b, o, rfl, hb, hc⟩ := HC.out (by omega)
        have c1 := hc k hlt
        clear hc
        have hs := numOf_small l k hlt h8
        have HT := Lib.hid (numOf_take l k hlt)
        have hb2 := lt256 l[k]
        generalize numOf (l.take k) = N at *
        go_wp2
        go_round
        case rel => exact ⟨k + 1, by omega, by go_num, by rw [HT.out]; rw [or_step _ _ hs]⟩
        case measure => simp [intOf]; omega
      · go_wp2
        go_ret
        refine ⟨ret_int ?_, rfl⟩
        rw [List.take_of_length_le (by omega), numB, if_pos h8]
  · go_enter Tryd.func42, Tryd.ntmps42
    go_wp2
    go_ret
    refine ⟨ret_int ?_, rfl⟩
    rw [numB, if_neg h8]; rfl

end Go.Proofs.YtkcpkfimmolkkaaDoor

/- What kedgeref01.Number answers. -/
namespace Go.Proofs.YtkcpkfimmolkkaaDoor
open Go.RowKit
set_option maxRecDepth 20000

set_option maxHeartbeats 1000000 in
theorem rnumber_any (A : Option Addr) (n c : Nat) (l : List UInt8) (w : World) (h : Bys w A n c l) :
    Calls Tryd.prog 46 #[.slice A n c] w fun e w' => e = .returned (.int .u64 (numB l : Int)) ∧ w' = w := by
  obtain ⟨hl, hnc, hcm, hcell⟩ := h
  unfold maxLen at hcm
  subst hl
  have HC := Lib.hid hcell; clear hcell
  by_cases h8 : l.length ≤ 8
  · go_enter Tryd.func46, Tryd.ntmps46
    go_wp2
    go_loop [3, 4] (fun t i => ∃ k : Nat, k ≤ l.length ∧ i = .int .i64 k ∧ t = .int .u64 (numOf (l.take k) : Int)) (fun _ i => l.length - (intOf i).toNat)
    case atStart => exact ⟨0, Nat.zero_le _, rfl, rfl⟩
    case round =>
      obtain ⟨k, hk, rfl, rfl⟩ := hrel
      by_cases hlt : k < l.length
      · obtain ⟨b, o, rfl, hb, hc⟩ := HC.out (by omega)
        have c1 := hc k hlt
        clear hc
        have hs := numOf_small l k hlt h8
        have HT := Lib.hid (numOf_take l k hlt)
        have hb2 := lt256 l[k]
        generalize numOf (l.take k) = N at *
        go_wp2
        go_round
        case rel => exact ⟨k + 1, by omega, by go_num, by rw [HT.out]; go_num⟩
        case measure => simp [intOf]; omega
      · go_wp2
        go_ret
        refine ⟨ret_int ?_, rfl⟩
        rw [List.take_of_length_le (by omega), numB, if_pos h8]
  · go_enter Tryd.func46, Tryd.ntmps46
    go_wp2
    go_ret
    refine ⟨ret_int ?_, rfl⟩
    rw [numB, if_neg h8]; rfl

end Go.Proofs.YtkcpkfimmolkkaaDoor
