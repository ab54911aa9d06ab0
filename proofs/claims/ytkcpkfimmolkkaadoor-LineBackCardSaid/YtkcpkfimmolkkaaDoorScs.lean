/- Joined: ScrC IntB ScK. -/
import Derived.Test.YtkcpkfimmolkkaaDoorRscrs
import Derived.Test.YtkcpkfimmolkkaaDoorSame
import Derived.Test.YtkcpkfimmolkkaaDoorBase
import Derived.Laws.BitsLemmas
import Derived.Laws.BitsAllLaws
import Derived.Test.YtkcpkfimmolkkaaDoorOwn
/- Package scram by its contracts; what layer 9's law's own live answers over them. -/
namespace Go.Proofs.YtkcpkfimmolkkaaDoor
open Go.RowKit
set_option maxRecDepth 20000

def In64 (k : Int) : Prop := -9223372036854775808 ≤ k ∧ k ≤ 9223372036854775807
/-- what package scram answers, in plain words -/
structure ScC : Prop where
  step : ∀ (k : Int) (w : World), In64 k → Calls Tryd.prog 79 #[.int .i64 k] w fun e w' => e = .returned (.tuple #[.int .i64 ((bitN (ownN k) : Nat) : Int), .int .i64 ((nextN (ownN k) : Nat) : Int)]) ∧ Below w.heap.size w w'
  stream : ∀ (k n : Int) (w : World), In64 k → In64 n → Calls Tryd.prog 57 #[.int .i64 k, .int .i64 n] w (GivesB w (streamB k n))
  do_ : ∀ (k : Int) (A : Option Addr) (n c : Nat) (b : List UInt8) (w : World), In64 k → Bys w A n c b → n ≤ 140737488355328 → Calls Tryd.prog 29 #[.int .i64 k, .slice A n c] w (GivesB w (scrB k b))
end Go.Proofs.YtkcpkfimmolkkaaDoor

/- Bits of an int, as natural numbers: and with a mask, xor, or. Nothing of the program is in here. -/
namespace Go.Proofs.YtkcpkfimmolkkaaDoor
open Go.RowKit
set_option maxRecDepth 20000

theorem i64_mask (n : Int) (m k : Nat) (hm : m = 2 ^ k - 1) (hk : k ≤ 62) : bits .and .i64 n (m : Int) = n % ((2 ^ k : Nat) : Int) := by
  have hp : 2 ^ k ≤ 2 ^ 62 := Nat.pow_le_pow_right (by decide) hk
  have hp0 : 0 < 2 ^ k := Nat.pow_pos (by decide)
  have h3 : (BitVec.ofInt 64 (m : Int)).toNat = 2 ^ k - 1 := by
    rw [BitVec.toNat_ofInt, ← hm]
    omega
  have key : (BitVec.ofInt 64 n &&& BitVec.ofInt 64 (m : Int)).toNat = (n % ((2 ^ 64 : Nat) : Int)).toNat % 2 ^ k := by
    rw [BitVec.toNat_and, BitVec.toNat_ofInt, h3, Nat.and_two_pow_sub_one_eq_mod]
  have hdv : ((2 ^ k : Nat) : Int) ∣ ((2 ^ 64 : Nat) : Int) := Int.ofNat_dvd.2 (Nat.pow_dvd_pow 2 (by omega))
  have h0 : 0 ≤ n % ((2 ^ 64 : Nat) : Int) := Int.emod_nonneg _ (by decide)
  have hv : (((n % ((2 ^ 64 : Nat) : Int)).toNat % 2 ^ k : Nat) : Int) = n % ((2 ^ k : Nat) : Int) := by
    rw [Int.natCast_emod, Int.toNat_of_nonneg h0, Int.emod_emod_of_dvd _ hdv]
  show IntKind.i64.wrap ((BitVec.ofInt 64 n &&& BitVec.ofInt 64 (m : Int)).toNat : Nat) = _
  rw [key, hv, IntKind.wrap_i64]
  have b1 : 0 ≤ n % ((2 ^ k : Nat) : Int) := Int.emod_nonneg _ (by omega)
  have b2 : n % ((2 ^ k : Nat) : Int) < ((2 ^ k : Nat) : Int) := Int.emod_lt_of_pos _ (by omega)
  have b3 : ((2 ^ k : Nat) : Int) ≤ 4611686018427387904 := by
    have : ((2 ^ k : Nat) : Int) ≤ ((2 ^ 62 : Nat) : Int) := by exact_mod_cast hp
    simpa using this
  omega
theorem i64_toNat (a : Nat) (ha : a < 9223372036854775808) : (BitVec.ofInt 64 (a : Int)).toNat = a := by
  rw [BitVec.toNat_ofInt]
  omega
theorem i64_xor_nat (a b : Nat) (ha : a < 9223372036854775808) (hb : b < 9223372036854775808) : bits .xor .i64 (a : Int) (b : Int) = ((a ^^^ b : Nat) : Int) := by
  have hx : a ^^^ b < 2 ^ 63 := Nat.xor_lt_two_pow ha hb
  show IntKind.i64.wrap ((BitVec.ofInt 64 (a : Int) ^^^ BitVec.ofInt 64 (b : Int)).toNat : Nat) = _
  rw [BitVec.toNat_xor, i64_toNat a ha, i64_toNat b hb, IntKind.wrap_i64]
  omega
theorem i64_or_nat (a b : Nat) (ha : a < 9223372036854775808) (hb : b < 9223372036854775808) : bits .or .i64 (a : Int) (b : Int) = ((a ||| b : Nat) : Int) := by
  have hx : a ||| b < 2 ^ 63 := Nat.or_lt_two_pow ha hb
  show IntKind.i64.wrap ((BitVec.ofInt 64 (a : Int) ||| BitVec.ofInt 64 (b : Int)).toNat : Nat) = _
  rw [BitVec.toNat_or, i64_toNat a ha, i64_toNat b hb, IntKind.wrap_i64]
  omega
theorem i64_and_nat (a b : Nat) (ha : a < 9223372036854775808) (hb : b < 9223372036854775808) : bits .and .i64 (a : Int) (b : Int) = ((a &&& b : Nat) : Int) := by
  have hx : a &&& b < 2 ^ 63 := Nat.and_lt_two_pow a hb
  show IntKind.i64.wrap ((BitVec.ofInt 64 (a : Int) &&& BitVec.ofInt 64 (b : Int)).toNat : Nat) = _
  rw [BitVec.toNat_and, i64_toNat a ha, i64_toNat b hb, IntKind.wrap_i64]
  omega
theorem nat_xor_low (a b : Nat) : (a ^^^ b) % 2 = (a + b) % 2 := by
  have h := Nat.xor_mod_two_pow (a := a) (b := b) (n := 1)
  rw [Nat.pow_one] at h
  rw [h, Nat.add_mod]
  rcases Nat.mod_two_eq_zero_or_one a with h1 | h1 <;> rcases Nat.mod_two_eq_zero_or_one b with h2 | h2 <;> rw [h1, h2] <;> rfl
end Go.Proofs.YtkcpkfimmolkkaaDoor

/- Package scram, as landed: Step, State, Stream, Do; its contracts. -/
namespace Go.Proofs.YtkcpkfimmolkkaaDoor
open Go.RowKit
set_option maxRecDepth 20000

theorem low_mod (a : Int) (x : Nat) (h : (x : Int) = a % 18446744073709551616) : (x : Int) % 2 = a % 2 := by omega
theorem low_sum (x y z : Nat) (a b : Int) (h3 : z % 2 = (x + y) % 2) (h4 : (x : Int) % 2 = a % 2) (h5 : (y : Int) % 2 = b % 2) : (z : Int) % 2 = (a + b) % 2 := by omega
theorem ofInt_nat (a : Int) : ((BitVec.ofInt 64 a).toNat : Int) = a % 18446744073709551616 := by
  rw [BitVec.toNat_ofInt]
  exact Int.toNat_of_nonneg (Int.emod_nonneg _ (by decide))
theorem wrap_even (z : Int) : IntKind.i64.wrap z % 2 = z % 2 := by
  rw [IntKind.wrap_i64]
  omega
theorem wrap_15 (z : Int) : IntKind.i64.wrap z % 32768 = z % 32768 := by
  rw [IntKind.wrap_i64]
  omega
theorem xor_low2 (a b : Int) : bits .xor .i64 a b % 2 = (a + b) % 2 := by
  have h4 := low_mod a _ (ofInt_nat a)
  have h5 := low_mod b _ (ofInt_nat b)
  have h3 := nat_xor_low (BitVec.ofInt 64 a).toNat (BitVec.ofInt 64 b).toNat
  rw [← BitVec.toNat_xor] at h3
  exact (wrap_even _).trans (low_sum _ _ _ a b h3 h4 h5)
theorem bits_low (k : Int) : bits .and .i64 (bits .xor .i64 (k / 16384) (k / 8192)) 1 = (bitN (ownN k) : Int) := by
  have h := i64_mask (bits .xor .i64 (k / 16384) (k / 8192)) 1 1 (by decide) (by decide)
  refine h.trans ?_
  refine (xor_low2 _ _).trans ?_
  clear h
  unfold bitN ownN
  omega
theorem or_15 (x b m : Nat) (z k : Int) (hx : (x : Int) = z % 18446744073709551616) (hz : z % 18446744073709551616 = (2 * k) % 18446744073709551616) (hm : m = x + b) : (m : Int) % 32768 = (2 * k + b) % 32768 := by omega
theorem even_of (x : Nat) (z k : Int) (hx : (x : Int) = z % 18446744073709551616) (hz : z % 18446744073709551616 = (2 * k) % 18446744073709551616) : x % 2 = 0 := by omega
theorem bits_next (k m : Int) (hm : m % 18446744073709551616 = (2 * k) % 18446744073709551616) (b : Nat) (hb : b < 2) : bits .and .i64 (bits .or .i64 m (b : Int)) 32767 = (2 * k + b) % 32768 := by
  have h := i64_mask (bits .or .i64 m (b : Int)) 32767 15 (by decide) (by decide)
  refine h.trans ?_
  clear h
  have hx := ofInt_nat m
  have he := even_of _ m k hx hm
  have hj : (BitVec.ofInt 64 m ||| BitVec.ofInt 64 (b : Int)).toNat = (BitVec.ofInt 64 m).toNat + b := by
    rw [BitVec.toNat_or, i64_toNat b (by omega)]
    exact nat_join 1 _ b (by rw [Nat.pow_one]; exact he) (by omega)
  exact (wrap_15 _).trans (or_15 _ b _ m k hx hm hj)
theorem next_own (k : Int) : (2 * k + (bitN (ownN k) : Int)) % 32768 = (nextN (ownN k) : Int) := by unfold nextN bitN ownN; omega
set_option maxHeartbeats 1000000 in
theorem step9_any (k : Int) (w : World) :
    Calls Tryd.prog 79 #[.int .i64 k] w fun e w' => e = .returned (.tuple #[.int .i64 (bitN (ownN k) : Int), .int .i64 (nextN (ownN k) : Int)]) ∧ w = w' := by
  have e1 := bits_low k
  have e2 := (bits_next k (wrap64 (k * 2)) (by unfold wrap64; omega) _ (bitN_lt (ownN k))).trans (next_own k)
  go_enter Tryd.func79, Tryd.ntmps79
  go_wp2
  go_ret2
  exact ⟨rfl, rfl⟩
theorem mask_own (k : Int) : bits .and .i64 k 32767 = (ownN k : Int) := by
  rw [ownN_cast]
  exact i64_mask k 32767 15 (by decide) (by decide)
theorem one_or (n s : Nat) (hn : n < 128) (hs : s < 2) : bits .or .u8 ((n : Int) * 2) (s : Int) = ((2 * n + s : Nat) : Int) := by
  have h := u8_or_nat (n * 2) s (by omega) (by omega)
  rw [nat_join 1 (n * 2) s (by omega) (by omega)] at h
  rw [show 2 * n + s = n * 2 + s by omega, ← h]
  push_cast
  rfl
/-- the cells behind so many whole bytes and t bits of the next -/
def cellsAt (S N j t : Nat) : List Value := bvs (strmN j S) ++ (if j < N then .int .u8 ((numN t (stN (8 * j) S) : Nat) : Int) :: List.replicate (N - 1 - j) (.int .u8 0) else [])
theorem cellsAt_start (S N : Nat) : cellsAt S N 0 0 = List.replicate N (.int .u8 0) := by
  unfold cellsAt
  cases N with
  | zero => rfl
  | succ n => simp [strmN, bvs, numN, List.replicate_succ]
theorem cellsAt_end (S N : Nat) : cellsAt S N N 0 = bvs (strmN N S) := by simp [cellsAt]
theorem cellsAt_get (S N j t : Nat) (h : j < N) : (cellsAt S N j t)[j]? = some (.int .u8 ((numN t (stN (8 * j) S) : Nat) : Int)) := by
  unfold cellsAt
  rw [if_pos h, List.getElem?_append_right (by simp [bvs, strmN_len])]
  simp [bvs, strmN_len]
theorem cellsAt_set (S N j t : Nat) (h : j < N) : (cellsAt S N j t).set j (.int .u8 ((numN (t + 1) (stN (8 * j) S) : Nat) : Int)) = cellsAt S N j (t + 1) := by
  unfold cellsAt
  rw [if_pos h, List.set_append_right _ _ (by simp [bvs, strmN_len])]
  simp [bvs, strmN_len, if_pos h]
theorem cellsAt_next (S N j : Nat) (h : j < N) : cellsAt S N j 8 = cellsAt S N (j + 1) 0 := by
  unfold cellsAt
  rw [if_pos h, strmN_snoc, bvs_append, List.append_assoc]
  congr 1
  have e : bvs [byteN (stN (8 * j) S)] = [.int .u8 ((numN 8 (stN (8 * j) S) : Nat) : Int)] := by
    show [Value.int .u8 ((byteN _).toNat : Int)] = _
    rw [byteN_num]
  rw [e]
  by_cases h2 : j + 1 < N
  · rw [if_pos h2]
    simp only [List.singleton_append, numN]
    rw [show N - 1 - j = (N - 1 - (j + 1)) + 1 by omega, List.replicate_succ]
    rfl
  · rw [if_neg h2, show N - 1 - j = 0 by omega]
    rfl
/-- A call's end that makes so many bytes in a block of its own. -/
def GivesS (w : World) (N : Nat) (l : List UInt8) (e : Ending) (w' : World) : Prop :=
  e = .returned (.slice (some ⟨w.heap.size, 0, none⟩) N N) ∧ w'.ownsRow w.heap.size 5 1 (.slice (some ⟨w.heap.size, 0, none⟩) N N) N (bvs l) ∧ Below w.heap.size w w'
set_option maxHeartbeats 2000000 in
theorem stream9_no (k n : Int) (w : World) (h : n < 0 ∨ 4096 < n) :
    Calls Tryd.prog 57 #[.int .i64 k, .int .i64 n] w fun e w' => e = .returned (.slice none 0 0) ∧ w = w' := by
  by_cases h1 : n < 0
  · have d1 : decide (n < 0) = true := by simpa using h1
    clear h1 h
    go_enter Tryd.func57, Tryd.ntmps57
    go_wp2
    go_ret
    exact ⟨rfl, rfl⟩
  · have d1 : decide (n < 0) = false := by simpa using h1
    have d2 : decide (4096 < n) = true := by simp; omega
    clear h1 h
    go_enter Tryd.func57, Tryd.ntmps57
    go_wp2
    go_ret
    exact ⟨rfl, rfl⟩
set_option maxHeartbeats 4000000 in
theorem stream9_yes (k : Int) (N : Nat) (w : World) (hN : N ≤ 4096) :
    Calls Tryd.prog 57 #[.int .i64 k, .int .i64 (N : Int)] w (GivesS w N (strmN N (ownN k))) := by
  have d2 : decide ((4096 : Int) < (N : Int)) = false := by simp; omega
  have d1 : decide ((N : Int) < 0) = false := by simp
  obtain ⟨S, hS⟩ : ∃ S, ownN k = S := ⟨_, rfl⟩
  have HS := Lib.hid hS
  rw [hS]
  clear hS
  obtain ⟨i0, hi, hz0, hz1, hz2⟩ := info_parts Tryd.info5
  go_enter Tryd.func57, Tryd.ntmps57
  go_wp2_with (at_make; refine wpList_make_full _ rfl _ _ 22 rfl w.heap.size 5 i0 (.int .u8 0) 1 Tryd.underlying22 hi hz0 hz1 .i64 .i64 _ _ N rfl rfl rfl rfl (by rw [hz2]; omega) (by unfold maxLen; omega) (Nat.le_refl _) ?_; intro w1 hown hgrow; have HON := Lib.hid (And.intro hown hgrow); clear hown hgrow)
  go_loopw [0, 19] (fun s i wr => ∃ (q j t : Nat) (x : Int), q = 8 * j + t ∧ j ≤ N ∧ t < 8 ∧ (j = N → t = 0) ∧ s = .int .i64 x ∧ i = .int .i64 (q : Int) ∧ Hid (ownN x = stN q S) ∧ wr.ownsRow w.heap.size 5 1 (.slice (some ⟨w.heap.size, 0, none⟩) N N) N (cellsAt S N j t) ∧ Below w.heap.size w wr) (fun _ i _ => 8 * N - (intOf i).toNat)
  case atStart =>
    refine ⟨0, 0, 0, k, rfl, Nat.zero_le _, by decide, fun _ => rfl, rfl, rfl, HS.out, ?_, (Below.refl _ _).grown HON.out.2 (Nat.le_refl _) (by simp)⟩
    rw [cellsAt_start]
    simpa [toList_madeCells_one, Value.cells] using HON.out.1
  case round =>
    obtain ⟨q, j, t, x, hq, hj, ht, hjt, rfl, rfl, HX, hown, hbel⟩ := hrel
    by_cases hlt : q < 8 * N
    · have hj2 : j < N := by omega
      have d3 : decide ((q : Int) < 8 * (N : Int)) = true := by simp; omega
      have hst := step9_any x wr
      rw [HX.out, ← stN_succ] at hst
      have e5 : stN q S = stN t (stN (8 * j) S) := by rw [hq, stN_add]
      have hnb := numN_lt t (stN (8 * j) S)
      have hpw : 2 ^ t ≤ 2 ^ 7 := Nat.pow_le_pow_right (by decide) (by omega)
      have hnb2 : numN t (stN (8 * j) S) < 128 := by omega
      have hbl := bitN_lt (stN q S)
      have HNS : Hid (2 * numN t (stN (8 * j) S) + bitN (stN q S) = numN (t + 1) (stN (8 * j) S)) := by show _ = _; rw [e5]; rfl
      have HOW : Hid (ownN ((stN (q + 1) S : Nat) : Int) = stN (q + 1) S) := ownN_nat _ (by rw [stN_succ]; exact nextN_lt _)
      have c1 : wr.cell? ⟨w.heap.size, j, none⟩ = some (.int .u8 ((numN t (stN (8 * j) S) : Nat) : Int)) := by
        rw [hown.cellAt _ (by omega), cellsAt_get S N j t hj2]
      have f1 := hown.frozenAt j
      have HON2 := Lib.hid hown
      have HST := Lib.hid hst
      have hor := one_or (numN t (stN (8 * j) S)) _ hnb2 hbl
      rw [HNS.out] at hor
      have HSET := Lib.hid (cellsAt_set S N j t hj2)
      have HNEXT := Lib.hid (cellsAt_next S N j hj2)
      have hqd : (q : Int) / 8 = (j : Int) := by omega
      have hqn : q / 8 = j := by omega
      have HQ := Lib.hid hq
      have HJT := Lib.hid hjt
      clear hst hpw hown hnb e5 HNS hq hjt
      generalize bitN (stN q S) = bt at *
      generalize hs1 : stN (q + 1) S = s1 at *
      have HS1 := Lib.hid hs1
      clear hs1 HX
      generalize numN (t + 1) (stN (8 * j) S) = n1 at *
      generalize numN t (stN (8 * j) S) = n0 at *
      go_wp2_with (fail)
      refine HST.out.mono ?_
      rintro e w1 ⟨rfl, rfl⟩
      go_wp2
      go_roundw
      case rel =>
        by_cases h7 : t + 1 < 8
        · refine ⟨q + 1, j, t + 1, _, by have := HQ.out; omega, hj, h7, fun e => by omega, rfl, by go_num, ?_, ?_, hbel.setCell (Nat.le_refl _) _⟩
          · rw [HS1.out]; exact HOW.out
          · rw [← HSET.out]; exact (HON2.out.stored j (.int .u8 ((n1 : Nat) : Int))).1
        · obtain rfl : t = 7 := by omega
          refine ⟨q + 1, j + 1, 0, _, by have := HQ.out; omega, by omega, by decide, fun _ => rfl, rfl, by go_num, ?_, ?_, hbel.setCell (Nat.le_refl _) _⟩
          · rw [HS1.out]; exact HOW.out
          · rw [← HNEXT.out, ← HSET.out]; exact (HON2.out.stored j (.int .u8 ((n1 : Nat) : Int))).1
      case measure => simp [intOf]; omega
    · obtain rfl : j = N := by omega
      obtain rfl : t = 0 := hjt rfl
      have d3 : decide ((q : Int) < 8 * (j : Int)) = false := by simp; omega
      rw [cellsAt_end] at hown
      have HB := Lib.hid hown
      clear hown hjt hq
      go_wp2
      go_ret
      exact ⟨rfl, HB.out, hbel⟩
theorem streamB_no (k n : Int) (h : n < 0 ∨ 4096 < n) : streamB k n = [] := by unfold streamB; rw [if_pos h]
theorem stream9_any (k n : Int) (w : World) :
    Calls Tryd.prog 57 #[.int .i64 k, .int .i64 n] w (GivesB w (streamB k n)) := by
  by_cases h : n < 0 ∨ 4096 < n
  · rw [streamB_no k n h]
    refine (stream9_no k n w h).mono ?_
    rintro e w' ⟨rfl, rfl⟩
    exact ⟨_, _, _, rfl, Bys.nil _, Below.refl _ _⟩
  · obtain ⟨N, rfl⟩ := Int.eq_ofNat_of_zero_le (show 0 ≤ n by omega)
    have hN : N ≤ 4096 := by omega
    rw [streamB_nat k N hN]
    refine (stream9_yes k N w hN).mono ?_
    rintro e w' ⟨rfl, hB, T⟩
    exact ⟨_, _, _, rfl, Bys.of_own hB, T⟩
theorem xor_take (b s : List UInt8) (i : Nat) (hl : b.length = s.length) (hi : i < s.length) :
    (xorB (s.take i) (b.take i) ++ s.drop i).set i (s[i] ^^^ b[i]'(by omega)) = xorB (s.take (i + 1)) (b.take (i + 1)) ++ s.drop (i + 1) := by
  have hxl : (xorB (s.take i) (b.take i)).length = i := by rw [xorB_len _ _ (by simp; omega)]; simp; omega
  rw [List.set_append_right _ _ (by omega), hxl, Nat.sub_self, List.drop_eq_getElem_cons hi, List.set_cons_zero]
  rw [List.take_succ_eq_append_getElem (show i < b.length by omega), List.take_succ_eq_append_getElem hi, xorB_append _ _ _ _ (by simp; omega)]
  simp [xorB]
theorem xor_comm (a b : List UInt8) : xorB a b = xorB b a := by
  unfold xorB
  rw [List.zipWith_comm]
  congr 1
  funext x y
  exact UInt8.xor_comm _ _
set_option maxHeartbeats 2000000 in
theorem do9_no (k : Int) (A : Option Addr) (n c : Nat) (w : World) (hn : n ≤ 140737488355328) (h : 4096 < n) :
    Calls Tryd.prog 29 #[.int .i64 k, .slice A n c] w fun e w' => e = .returned (.slice none 0 0) ∧ w = w' := by
  have H := Lib.hid (stream9_no k (n : Int) w (.inr (by omega)))
  clear h
  go_enter Tryd.func29, Tryd.ntmps29
  go_wp2_with (fail)
  refine H.out.mono ?_
  rintro e w1 ⟨rfl, rfl⟩
  go_wp2_with (fail)
  go_loopw [13] (fun i wr => i = .int .i64 0 ∧ w = wr) (fun _ _ => 0)
  case atStart => exact ⟨rfl, rfl⟩
  case round =>
    obtain ⟨rfl, rfl⟩ := hrel
    go_wp2
    go_ret
    exact ⟨rfl, rfl⟩
set_option maxHeartbeats 4000000 in
theorem do9_yes (k : Int) (A : Option Addr) (n c : Nat) (b : List UInt8) (w : World) (hB : Bys w A n c b) (hn : n ≤ 4096) :
    Calls Tryd.prog 29 #[.int .i64 k, .slice A n c] w (GivesB w (scrB k b)) := by
  have hlb := hB.len
  have HF : Hid (scrB k b = xorB (strmN n (ownN k)) b) := by show _ = _; rw [scrB_small k b (by omega), hlb, xor_comm]
  have hls := strmN_len n (ownN k)
  have H := Lib.hid (stream9_yes k n w hn)
  generalize strmN n (ownN k) = s at *
  have HC := Lib.hid hB
  have hcap := hB.cap
  have hle := hB.le
  clear hB
  go_enter Tryd.func29, Tryd.ntmps29
  go_wp2_with (fail)
  refine H.out.mono ?_
  rintro e w1 ⟨rfl, hown, T1⟩
  have HON1 := Lib.hid hown
  clear hown
  go_wp2_with (fail)
  go_loopw [13] (fun i wr => ∃ j : Nat, j ≤ n ∧ i = .int .i64 (j : Int) ∧ wr.ownsRow w.heap.size 5 1 (.slice (some ⟨w.heap.size, 0, none⟩) n n) n (bvs (xorB (s.take j) (b.take j) ++ s.drop j)) ∧ Below w.heap.size w wr) (fun i _ => n - (intOf i).toNat)
  case atStart => exact ⟨0, Nat.zero_le _, rfl, by simpa [xorB] using HON1.out, T1⟩
  case round =>
    obtain ⟨j, hj, rfl, hown, hbel⟩ := hrel
    by_cases hlt : j < n
    · have d3 : decide ((j : Int) < (n : Int)) = true := by simp; omega
      obtain ⟨g, o, rfl, hg, hc⟩ := HC.out.at_ (by omega)
      have q1 := (hbel.cell (p := ⟨g, o + j, none⟩) hg).trans (hc j (by omega))
      have hxl : (xorB (s.take j) (b.take j) ++ s.drop j)[j]? = some (s[j]'(by omega)) := by
        rw [List.getElem?_append_right (by rw [xorB_len _ _ (by simp; omega)]; simp; omega), xorB_len _ _ (by simp; omega)]
        simp [Nat.min_eq_left (show j ≤ s.length by omega), show j < s.length by omega]
      have q2 : wr.cell? ⟨w.heap.size, j, none⟩ = some (.int .u8 ((s[j]'(by omega)).toNat : Int)) := by
        rw [hown.cellAt _ (by omega)]
        unfold bvs
        rw [List.getElem?_map, hxl]
        rfl
      have f2 := hown.frozenAt j
      have HSET := Lib.hid (xor_take b s j (by omega) (by omega))
      have HON := Lib.hid hown
      clear hc hown hxl
      generalize b[j]'(by omega) = x at *
      generalize s[j]'(by omega) = y at *
      have hx := u8_xx y x
      have hne : g ≠ w.heap.size := by omega
      go_wp2_with (fail)
      go_region
      go_wp2
      go_roundw
      case rel =>
        refine ⟨j + 1, by omega, by go_num, ?_, (below_drewN' hbel _).setCell (Nat.le_refl _) _⟩
        have h := (HON.out.stored j (.int .u8 ((y ^^^ x).toNat : Int))).1
        rw [show bvs (xorB (s.take j) (b.take j) ++ s.drop j) = (xorB (s.take j) (b.take j) ++ s.drop j).map bv from rfl, show Value.int .u8 ((y ^^^ x).toNat : Int) = bv (y ^^^ x) from rfl, ← List.map_set, HSET.out] at h
        exact h
      case measure => simp [intOf]; omega
    · obtain rfl : j = n := by omega
      have d3 : decide ((j : Int) < (j : Int)) = false := by simp
      have e : xorB (s.take j) (b.take j) ++ s.drop j = scrB k b := by
        rw [HF.out, List.take_of_length_le (show s.length ≤ j by omega), List.take_of_length_le (show b.length ≤ j by omega), List.drop_of_length_le (show s.length ≤ j by omega), List.append_nil]
      rw [e] at hown
      have HB := Lib.hid (Bys.of_own hown)
      clear hown e
      go_wp2
      go_ret
      exact ⟨_, _, _, rfl, HB.out, hbel⟩
theorem scC : ScC where
  step := fun k w _ => (step9_any k w).mono fun _ _ h => ⟨h.1, by rw [← h.2]; exact Below.refl _ _⟩
  stream := fun k n w _ _ => stream9_any k n w
  do_ := fun k A n c b w _ hB hn => by
    by_cases h : n ≤ 4096
    · exact do9_yes k A n c b w hB h
    · refine (do9_no k A n c w hn (by omega)).mono ?_
      rintro e w' ⟨rfl, rfl⟩
      have hl := hB.len
      have e : scrB k b = [] := by unfold scrB; rw [streamB_no _ _ (.inr (by omega))]; simp [xorB]
      rw [e]
      exact ⟨_, _, _, rfl, Bys.nil _, Below.refl _ _⟩
end Go.Proofs.YtkcpkfimmolkkaaDoor
