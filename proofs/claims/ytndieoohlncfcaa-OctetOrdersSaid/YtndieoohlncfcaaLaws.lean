/- The walks of layer 1's statements: each law answers true and leaves what was there as it was. -/
import Derived.Test.YtndieoohlncfcaaLive
namespace Go.Proofs.Ytndieoohlncfcaa
open Go.RowKit

set_option maxRecDepth 20000 in
set_option maxHeartbeats 1000000 in
theorem walk_OctetPuts (n : Nat) (x : Int) (w : World) (hn : n < 18446744073709551616) :
    Calls Try.prog 3 #[.int .u64 n, .int .i64 x] w fun e w' => e = .returned (.bool true) ∧ Below w.heap.size w w' := by
  go_enter Try.func3, Try.ntmps3
  go_wp2_with (fail)
  refine (put_any n x _ hn).mono ?_
  rintro e w1 ⟨A1, n1, c1, rfl, B1, T⟩
  go_wp2_with (fail)
  refine (rput_any n x _ hn).mono ?_
  rintro e w2 ⟨A2, n2, c2, rfl, B2, G⟩
  have T := nxt T G
  have B1 := B1.below G
  clear G
  go_wp2_with (fail)
  refine (same_true A1 A2 n1 c1 n2 c2 _ _ B1 B2).mono ?_
  rintro e w3 ⟨rfl, G⟩
  have T := nxt T G
  clear G
  go_wp2_with (fail)
  refine (live_any _).mono ?_
  rintro e w4 ⟨rfl, G⟩
  have T := nxt T G
  clear G
  go_wp2_with (fail)
  go_ret
  exact ⟨rfl, T⟩

set_option maxRecDepth 20000 in
set_option maxHeartbeats 1000000 in
theorem walk_OctetNumber (A : Option Addr) (n c : Nat) (l : List UInt8) (w : World) (hB : Bys w A n c l) :
    Calls Try.prog 4 #[.slice A n c] w fun e w' => e = .returned (.bool true) ∧ Below w.heap.size w w' := by
  go_enter Try.func4, Try.ntmps4
  go_wp2_with (fail)
  refine (number_any A n c l _ hB).mono ?_
  rintro e w1 ⟨rfl, rfl⟩
  go_wp2_with (fail)
  refine (rnumber_any A n c l _ hB).mono ?_
  rintro e w2 ⟨rfl, rfl⟩
  go_wp2_with (fail)
  refine (live_any _).mono ?_
  rintro e w4 ⟨rfl, G⟩
  go_wp2_with (fail)
  go_ret
  exact ⟨rfl, G⟩

theorem cb_cases : ∀ (l m : List UInt8), Lib.compareBytes l m = -1 ∨ Lib.compareBytes l m = 0 ∨ Lib.compareBytes l m = 1
  | [], [] => by simp [Lib.compareBytes]
  | [], _ :: _ => by simp [Lib.compareBytes]
  | _ :: _, [] => by simp [Lib.compareBytes]
  | a :: l, b :: m => by
    unfold Lib.compareBytes
    by_cases h1 : a < b
    · simp [h1]
    · by_cases h2 : b < a
      · simp [h1, h2]
      · simp only [h1, h2, if_false]
        exact cb_cases l m
theorem same_of_cb (l m : List UInt8) : sameB l m = (Lib.compareBytes l m == 0) := by
  rw [Bool.eq_iff_iff, sameB_iff, beq_iff_eq]
  constructor
  · intro h; subst h; exact cb_self l
  · exact cb_zero l m

set_option maxRecDepth 20000 in
set_option maxHeartbeats 2000000 in
theorem walk_OctetOrders (A : Option Addr) (n c : Nat) (l : List UInt8) (A' : Option Addr) (n' c' : Nat) (m : List UInt8) (w : World) (hB : Bys w A n c l) (hB' : Bys w A' n' c' m) :
    Calls Try.prog 7 #[.slice A n c, .slice A' n' c'] w fun e w' => e = .returned (.bool true) ∧ Below w.heap.size w w' := by
  have O1 := order_any A A' n c n' c' l m w hB hB'
  have O2 : ∀ k, Calls Try.prog 19 #[.slice A' n' c', .slice A n c] (w.drewN k) fun e w' => e = .returned (.int .i64 (Lib.compareBytes m l)) ∧ w' = w.drewN k := fun k => order_any A' A n' c' n c m l (w.drewN k) (hB'.drewN k) (hB.drewN k)
  have R1 := rorder_any A A' n c n' c' l m w hB hB'
  have S1 : ∀ k, Calls Try.prog 18 #[.slice A n c, .slice A' n' c'] (w.drewN k) fun e w' => e = .returned (.bool (sameB l m)) ∧ w' = w.drewN k := fun k => osame_any A A' n c n' c' l m (w.drewN k) (hB.drewN k) (hB'.drewN k)
  have S2 : ∀ k, Calls Try.prog 9 #[.slice A n c, .slice A' n' c'] (w.drewN k) fun e w' => e = .returned (.bool (sameB l m)) ∧ ∃ j, w' = (w.drewN k).drewN j := fun k => same_any A A' n c n' c' l m (w.drewN k) (hB.drewN k) (hB'.drewN k)
  have hs := same_of_cb l m
  have hsw := cb_swap l m
  have hcs := cb_cases l m
  rw [hs] at S1 S2
  rw [hsw] at O2
  clear hs hsw
  generalize Lib.compareBytes l m = X at *
  clear hB hB'
  rcases hcs with rfl | rfl | rfl
  all_goals
    have O1 := Lib.hid O1
    have O2 := Lib.hid O2
    have R1 := Lib.hid R1
    have S1 := Lib.hid S1
    have S2 := Lib.hid S2
    go_enter Try.func7, Try.ntmps7
    go_wp2_with (fail)
    refine O1.out.mono ?_
    rintro e w1 ⟨rfl, rfl⟩
    go_wp2_with (fail)
    refine R1.out.mono ?_
    rintro e w2 ⟨rfl, k, rfl⟩
    go_wp2_with (fail)
    refine (O2.out k).mono ?_
    rintro e w3 ⟨rfl, rfl⟩
    go_wp2_with (fail)
    refine (S1.out k).mono ?_
    rintro e w4 ⟨rfl, rfl⟩
    go_wp2_with (fail)
    refine (S1.out k).mono ?_
    rintro e w5 ⟨rfl, rfl⟩
    go_wp2_with (fail)
    refine (S2.out k).mono ?_
    rintro e w6 ⟨rfl, j, rfl⟩
    go_wp2_with (fail)
    refine (live_any _).mono ?_
    rintro e w7 ⟨rfl, G⟩
    go_wp2_with (fail)
    go_ret
    exact ⟨rfl, nxt (below_drewN' (Below.refl _ _) _) G⟩

theorem numOf_put (n : Nat) : ∀ k, numOf (putB n k) = n % 256 ^ k := by
  have hcons : ∀ (b : UInt8) (l : List UInt8), numOf (b :: l) = b.toNat * 256 ^ l.length + numOf l := by
    intro b l
    have gen : ∀ (l : List UInt8) (a : Nat), l.foldl (fun a b => a * 256 + b.toNat) a = a * 256 ^ l.length + numOf l := by
      intro l
      induction l with
      | nil => intro a; simp [numOf]
      | cons x l ih =>
        intro a
        simp only [List.foldl_cons, List.length_cons, numOf] at ih ⊢
        rw [ih (a * 256 + x.toNat), ih (0 * 256 + x.toNat), Nat.pow_succ, Nat.add_mul, Nat.add_mul, Nat.mul_assoc, Nat.mul_comm 256]
        omega
    show (b :: l).foldl (fun a b => a * 256 + b.toNat) 0 = _
    rw [List.foldl_cons, gen]
    simp
  intro k
  induction k with
  | zero => simp [putB, numOf, Nat.mod_one]
  | succ k ih =>
    rw [putB, hcons, ih, putB_length, UInt8.toNat_ofNat', Nat.pow_succ 256 k, Nat.mod_mul, Nat.add_comm, Nat.mul_comm _ (256 ^ k)]
theorem pow_lt (k : Nat) (h : k ≤ 7) : 256 ^ k ≤ 72057594037927936 := by
  have h2 : 256 ^ k ≤ 256 ^ 7 := Nat.pow_le_pow_right (by omega) h
  have h3 : (256 : Nat) ^ 7 = 72057594037927936 := by decide
  omega

set_option maxRecDepth 20000 in
set_option maxHeartbeats 2000000 in
theorem walk_OctetBack (n : Nat) (x : Int) (w : World) (hn : n < 18446744073709551616) :
    Calls Try.prog 5 #[.int .u64 n, .int .i64 x] w fun e w' => e = .returned (.bool true) ∧ Below w.heap.size w w' := by
  have P := Lib.hid (put_any n x w hn)
  by_cases h1 : x < 1
  · have hd : decide (x < 1) = true := by simpa using h1
    have hp := putOf_no n x (.inl h1)
    rw [hp] at P
    clear hp
    go_enter Try.func5, Try.ntmps5
    go_wp2_with (fail)
    refine P.out.mono ?_
    rintro e w1 ⟨A1, n1, c1, rfl, B1, T⟩
    obtain rfl : n1 = 0 := B1.len.symm
    go_wp2_with (fail)
    refine (live_any _).mono ?_
    rintro e w4 ⟨rfl, G⟩
    have T := nxt T G
    clear G
    go_wp2_with (fail)
    go_ret
    exact ⟨rfl, T⟩
  · have hd : decide (x < 1) = false := by simpa using h1
    by_cases h8 : 8 < x
    · have hd8 : decide (8 < x) = true := by simpa using h8
      have hp := putOf_no n x (.inr h8)
      rw [hp] at P
      clear hp
      go_enter Try.func5, Try.ntmps5
      go_wp2_with (fail)
      refine P.out.mono ?_
      rintro e w1 ⟨A1, n1, c1, rfl, B1, T⟩
      obtain rfl : n1 = 0 := B1.len.symm
      go_wp2_with (fail)
      refine (live_any _).mono ?_
      rintro e w4 ⟨rfl, G⟩
      have T := nxt T G
      clear G
      go_wp2_with (fail)
      go_ret
      exact ⟨rfl, T⟩
    · have hd8 : decide (8 < x) = false := by simpa using h8
      obtain ⟨k, rfl⟩ := Int.eq_ofNat_of_zero_le (show 0 ≤ x by omega)
      have hp : putOf n (k : Int) = putB n k := by rw [putOf, if_neg (by omega)]; rfl
      rw [hp] at P
      clear hp
      have hk1 : 1 ≤ k := by omega
      have hk8 : k ≤ 8 := by omega
      have hpl := Lib.hid (putB_length n k)
      have hnum : numB (putB n k) = n % 256 ^ k := by rw [numB, if_pos (by rw [putB_length]; omega), numOf_put]
      have N := fun A c W => number_any A k c (putB n k) W
      rw [hnum] at N
      clear hnum
      have N := Lib.hid N
      by_cases hk : k < 8
      · have hd7 : decide ((k : Int) < 8) = true := by simp; omega
        have hpw := pow_lt k (by omega)
        have hq0 : 0 < 256 ^ k := Nat.pow_pos (by omega)
        have hsh : IntKind.u64.wrap ((2 : Int) ^ (8 * k)) = ((256 ^ k : Nat) : Int) := by
          have e : ((2 : Int) ^ (8 * k)) = ((256 ^ k : Nat) : Int) := by rw [← two_pow8]; simp
          rw [e, IntWalk.u64_in _ (by omega)]
        generalize 256 ^ k = Q at *
        have hz : ((Q : Int) == 0) = false := by simp; omega
        go_enter Try.func5, Try.ntmps5
        go_wp2_with (fail)
        refine P.out.mono ?_
        rintro e w1 ⟨A1, n1, c1, rfl, B1, T⟩
        obtain rfl : n1 = k := B1.len.symm.trans hpl.out
        go_wp2_with (fail)
        refine (N.out _ _ _ B1).mono ?_
        rintro e w2 ⟨rfl, rfl⟩
        go_wp2_with (fail)
        refine (live_any _).mono ?_
        rintro e w4 ⟨rfl, G⟩
        have T := nxt T G
        clear G
        go_wp2_with (fail)
        go_ret
        exact ⟨rfl, T⟩
      · have hd7 : decide ((k : Int) < 8) = false := by simp; omega
        have e : n % 256 ^ k = n := Nat.mod_eq_of_lt (by
          have h8 : k = 8 := by omega
          have : (256 : Nat) ^ 8 = 18446744073709551616 := by decide
          rw [h8, this]; exact hn)
        rw [e] at N
        clear e hn
        go_enter Try.func5, Try.ntmps5
        go_wp2_with (fail)
        refine P.out.mono ?_
        rintro e w1 ⟨A1, n1, c1, rfl, B1, T⟩
        obtain rfl : n1 = k := B1.len.symm.trans hpl.out
        go_wp2_with (fail)
        refine (N.out _ _ _ B1).mono ?_
        rintro e w2 ⟨rfl, rfl⟩
        go_wp2_with (fail)
        refine (live_any _).mono ?_
        rintro e w4 ⟨rfl, G⟩
        have T := nxt T G
        clear G
        go_wp2_with (fail)
        go_ret
        exact ⟨rfl, T⟩

theorem hexB_get : ∀ (l : List UInt8) (k : Nat) (h : k < l.length), (hexB l).getD (2 * k) 0 = hexChar (l[k].toNat / 16) ∧ (hexB l).getD (2 * k + 1) 0 = hexChar (l[k].toNat % 16)
  | [], k, h => by simp at h
  | b :: l, 0, h => by simp [hexB]
  | b :: l, k + 1, h => by
    have := hexB_get l k (by simpa using h)
    have e : hexB (b :: l) = hexChar (b.toNat / 16) :: hexChar (b.toNat % 16) :: hexB l := by simp [hexB]
    rw [e, show 2 * (k + 1) = 2 * k + 1 + 1 from by omega]
    simpa using this
theorem pair_hex (b : UInt8) : pairOf (hexChar (b.toNat / 16)) (hexChar (b.toNat % 16)) = some b := by
  have hb := b.toNat_lt
  obtain ⟨h1, h2⟩ := pair_byte _ _ (b.toNat / 16) (b.toNat % 16) (by omega) (by omega) (digOf_hexChar (b.toNat / 16) (by omega)) (digOf_hexChar (b.toNat % 16) (by omega))
  rw [h1]
  congr 1
  apply UInt8.toNat_inj.1
  rw [h2]; omega
theorem unhexL_hex (l : List UInt8) : ∀ k, k ≤ l.length → unhexL (hexB l) k = some (l.take k) := by
  intro k
  induction k with
  | zero => intro _; simp [unhexL]
  | succ k ih =>
    intro h
    obtain ⟨h1, h2⟩ := hexB_get l k (by omega)
    simp only [unhexL, ih (by omega), pairAt, h1, h2, pair_hex, Option.bind_some, Option.map_some]
    rw [List.take_succ_eq_append_getElem (by omega)]
theorem unhex_hex (l : List UInt8) : unhexB (hexB l) = some l := by
  rw [unhexB, hexB_length, if_pos (by omega), show 2 * l.length / 2 = l.length from by omega, unhexL_hex l l.length (Nat.le_refl _), List.take_length]

set_option maxRecDepth 20000 in
set_option maxHeartbeats 2000000 in
theorem walk_OctetTells (A : Option Addr) (n c : Nat) (l : List UInt8) (s : ByteArray) (w : World) (hB : Bys w A n c l) (hn : n ≤ 1048576) (hs : s.size ≤ 140737488355328) :
    Calls Try.prog 8 #[.slice A n c, .string s] w fun e w' => e = .returned (.bool true) ∧ Below w.heap.size w w' := by
  have U1 := fun W => unhex_any ⟨(hexB l).toArray⟩ W (by
    show (hexB l).toArray.size ≤ _
    have := hB.len
    simp [hexB_length]; omega)
  have e1 : unhexB (⟨(hexB l).toArray⟩ : ByteArray).data.toList = some l := by simpa using unhex_hex l
  simp only [e1] at U1
  clear e1
  have U2 := fun W => unhex_any s W hs
  have U3 := fun W => runhex_any s W hs
  generalize unhexB s.data.toList = r at *
  have U1 := Lib.hid U1
  have U2 := Lib.hid U2
  have U3 := Lib.hid U3
  have H1 := fun W h => hex_any A n c l W h hn
  have H2 := fun W h => rhex_any A n c l W h hn
  generalize (⟨(hexB l).toArray⟩ : ByteArray) = t at *
  have H1 := Lib.hid H1
  have H2 := Lib.hid H2
  go_enter Try.func8, Try.ntmps8
  go_wp2_with (fail)
  refine (H1.out w hB).mono ?_
  rintro e w1 ⟨rfl, T⟩
  have B0 := hB.below T
  clear hB
  go_wp2_with (fail)
  refine (U1.out _).mono ?_
  rintro e w2 ⟨A1, n1, c1, rfl, B1, G⟩
  have T := nxt T G
  have B0 := B0.below G
  clear G
  go_wp2_with (fail)
  refine (U2.out _).mono ?_
  rintro e w3 ⟨A2, n2, c2, rfl, B2, G⟩
  have T := nxt T G
  have B0 := B0.below G
  have B1 := B1.below G
  clear G
  go_wp2_with (fail)
  refine (U3.out _).mono ?_
  rintro e w4 ⟨A3, n3, c3, rfl, B3, G⟩
  have T := nxt T G
  have B0 := B0.below G
  have B1 := B1.below G
  have B2 := B2.below G
  clear G
  go_wp2_with (fail)
  refine (H2.out _ B0).mono ?_
  rintro e w5 ⟨rfl, G⟩
  have T := nxt T G
  have B0 := B0.below G
  have B1 := B1.below G
  have B2 := B2.below G
  have B3 := B3.below G
  clear G
  go_wp2_with (fail)
  refine (same_true _ _ _ _ _ _ l _ B1 B0).mono ?_
  rintro e w6 ⟨rfl, G⟩
  have T := nxt T G
  have B2 := B2.below G
  have B3 := B3.below G
  clear G
  go_wp2_with (fail)
  refine (same_true _ _ _ _ _ _ _ _ B2 B3).mono ?_
  rintro e w7 ⟨rfl, G⟩
  have T := nxt T G
  clear G
  go_wp2_with (fail)
  refine (live_any _).mono ?_
  rintro e w8 ⟨rfl, G⟩
  have T := nxt T G
  clear G
  go_wp2_with (fail)
  go_ret
  exact ⟨rfl, T⟩
end Go.Proofs.Ytndieoohlncfcaa
