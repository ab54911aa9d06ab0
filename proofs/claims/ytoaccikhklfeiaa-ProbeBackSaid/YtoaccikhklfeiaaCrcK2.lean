/- Package crc as it landed: Sum, Put, Check, and all its contracts together. -/
import Derived.Test.YtoaccikhklfeiaaCrcK
import Derived.Test.YtoaccikhklfeiaaPut
import Derived.Test.YtoaccikhklfeiaaRev
import Derived.Test.YtoaccikhklfeiaaOsame
import Derived.Test.YtoaccikhklfeiaaCut
import Derived.Test.YtoaccikhklfeiaaJoin
namespace Go.Proofs.Ytoaccikhklfeiaa
open Go.RowKit

theorem xor_ones (y : Nat) : y ^^^ 4294967295 ^^^ 4294967295 = y := by rw [Nat.xor_assoc, Nat.xor_self, Nat.xor_zero]
theorem crcMore_of (l m : List UInt8) : crcMore (crcOf l) m = crcOf (l ++ m) := by
  unfold crcMore crcOf
  rw [xor_ones, feed_append]
theorem crcOf_nil : crcOf [] = 0 := by decide
theorem crcMore_take (ls : List (List UInt8)) (k : Nat) (h : k < ls.length) : crcMore (crcOf (ls.take k).flatten) ls[k] = crcOf (ls.take (k + 1)).flatten := by
  rw [crcMore_of, flat_take ls k h]

set_option maxRecDepth 20000 in
set_option maxHeartbeats 2000000 in
theorem sum_any (a : Addr) (P : Option Addr) (n c : Nat) (ls : List (List UInt8)) (w : World) (ht : Tab w a) (h : Rws w P n c ls) :
    Calls Try.prog 34 #[.pointer (some a), .slice P n c] w fun e w' => e = .returned (.int .u32 (crcOf ls.flatten : Int)) ∧ w = w' := by
  have hl := h.1
  have hnc := h.2.1
  have hcm := h.2.2.1
  unfold maxLen at hcm
  have HA := Lib.hid h.at_
  clear h
  subst hl
  have M := Lib.hid (fun x A n c l => more_any a x A n c l w ht)
  go_enter Try.func34, Try.ntmps34
  go_wp2
  go_loop [5, 10] (fun t i => ∃ k : Nat, k ≤ ls.length ∧ i = .int .i64 k ∧ t = .int .u32 (crcOf (ls.take k).flatten : Int)) (fun _ i => ls.length - (intOf i).toNat)
  case atStart => exact ⟨0, Nat.zero_le _, rfl, by rw [List.take_zero, List.flatten_nil, crcOf_nil]; rfl⟩
  case round =>
    obtain ⟨k, hk, rfl, rfl⟩ := hrel
    by_cases hlt : k < ls.length
    · obtain ⟨b, o, A, d, rfl, hb, hk2, hc, hB⟩ := HA.out k hlt
      have HC := Lib.hid (M.out (crcOf (ls.take k).flatten) A _ d _ (crcOf_lt _) hB)
      rw [crcMore_take ls k hk2] at HC
      clear hB
      generalize crcOf (ls.take k).flatten = y at *
      generalize ls[k].length = m at *
      go_wp2_with (fail)
      refine HC.out.mono ?_
      rintro e w1 ⟨rfl, rfl⟩
      go_wp2
      go_round
      case rel => exact ⟨k + 1, by omega, by go_num, rfl⟩
      case measure => simp [intOf]; omega
    · have HE : Hid ((ls.take k).flatten = ls.flatten) := by
        show _ = _
        rw [List.take_of_length_le (by omega)]
      rw [HE.out]
      go_wp2
      go_ret
      exact ⟨rfl, rfl⟩

set_option maxRecDepth 20000 in
set_option maxHeartbeats 2000000 in
theorem sum_nil (P : Option Addr) (n c : Nat) (ls : List (List UInt8)) (w : World) (h : Rws w P n c ls) :
    Calls Try.prog 34 #[.pointer none, .slice P n c] w fun e w' => e = .returned (.int .u32 0) ∧ w = w' := by
  have hl := h.1
  have hnc := h.2.1
  have hcm := h.2.2.1
  unfold maxLen at hcm
  have HA := Lib.hid h.at_
  clear h
  subst hl
  have M := Lib.hid (fun A n c => more_nil 0 A n c w)
  go_enter Try.func34, Try.ntmps34
  go_wp2
  go_loop [5, 10] (fun t i => ∃ k : Nat, k ≤ ls.length ∧ i = .int .i64 k ∧ t = .int .u32 0) (fun _ i => ls.length - (intOf i).toNat)
  case atStart => exact ⟨0, Nat.zero_le _, rfl, rfl⟩
  case round =>
    obtain ⟨k, hk, rfl, rfl⟩ := hrel
    by_cases hlt : k < ls.length
    · obtain ⟨b, o, A, d, rfl, hb, hk2, hc, hB⟩ := HA.out k hlt
      clear hB
      generalize ls[k].length = m at *
      go_wp2_with (fail)
      refine (M.out _ _ _).mono ?_
      rintro e w1 ⟨rfl, rfl⟩
      go_wp2
      go_round
      case rel => exact ⟨k + 1, by omega, by go_num, rfl⟩
      case measure => simp [intOf]; omega
    · go_wp2
      go_ret
      exact ⟨rfl, rfl⟩

theorem putB_rev (s : Nat) : (putB s 4).reverse = leB s 4 := by
  simp [putB, leB, Nat.div_div_eq_div_mul]

set_option maxRecDepth 20000 in
set_option maxHeartbeats 2000000 in
theorem tail_any (a : Addr) (A : Option Addr) (n c : Nat) (l : List UInt8) (w : World) (ht : Tab w a) (h : Bys w A n c l) :
    Calls Try.prog 31 #[.pointer (some a), .slice A n c] w (GivesO w (leB (crcOf l) 4)) := by
  have hs := crcOf_lt l
  have L := litrow1 w A n c l h.len h
  have S := Lib.hid (sum_any a _ 1 1 [l] _ (ht.below ((Below.refl _ _).alloc (Nat.le_refl _) (.cells #[.slice A n c] 22))) L)
  have e : [l].flatten = l := by simp
  rw [e] at S
  clear h L e ht
  have HV := Lib.hid (putB_rev (crcOf l))
  have HL := Lib.hid (leB_length 4 (crcOf l))
  have PL := Lib.hid (putB_length (crcOf l) 4)
  generalize crcOf l = s at *
  have hwr : IntKind.u64.wrap (s : Int) = (s : Int) := IntWalk.u64_in _ (by omega)
  go_enter Try.func31, Try.ntmps31
  go_wp2_with (fail)
  refine S.out.mono ?_
  rintro e w1 ⟨rfl, rfl⟩
  go_wp2_with (fail)
  refine (put_yes s 4 _ (by omega) (by omega) (by omega)).mono ?_
  rintro e w2 ⟨g, c2, rfl, O2, G⟩
  rw [PL.out] at O2 ⊢
  go_wp2_with (fail)
  refine (rev_any _ g 4 c2 _ w2 O2 G.size).mono ?_
  rintro e w3 ⟨rfl, O3, G3⟩
  rw [HV.out] at O3
  go_wp2
  go_ret
  refine ⟨g, c2, ?_, ?_, ?_⟩
  · rw [HL.out]; rfl
  · rw [HL.out]; exact O3.down (by simp)
  · exact ((Below.refl _ _).alloc (Nat.le_refl _) _).trans ((G.mono (by simp)).trans (G3.mono (by simp)))

set_option maxRecDepth 20000 in
set_option maxHeartbeats 2000000 in
theorem cput_any (a : Addr) (A : Option Addr) (n c : Nat) (l : List UInt8) (w : World) (ht : Tab w a) (h : Bys w A n c l) (hn : n ≤ 5000) :
    Calls Try.prog 26 #[.pointer (some a), .slice A n c] w (GivesO w (crcPut l)) := by
  have M := Lib.hid (made_tab a w ht)
  have HT := Lib.hid (tail_any a A n c l w ht h)
  have HL := Lib.hid (leB_length 4 (crcOf l))
  have HN := Lib.hid h.len
  have HP : Hid (crcPut l = l ++ leB (crcOf l) 4) := rfl
  generalize leB (crcOf l) 4 = t at *
  go_enter Try.func26, Try.ntmps26
  go_wp2_with (fail)
  refine M.out.mono ?_
  rintro e w1 ⟨rfl, rfl⟩
  go_wp2_with (fail)
  refine HT.out.mono ?_
  rintro e w2 ⟨g, c2, rfl, O2, G⟩
  rw [HL.out] at O2 ⊢
  go_wp2_with (fail)
  have L := litrow2 w2 A (some ⟨g, 0, none⟩) n 4 c c2 l t HN.out HL.out (h.below G) O2.bys
  have J := ojoin_own _ 2 2 [l, t] _ L (by omega) (by omega) (by simp [Lib.lens, HN.out, HL.out]; omega) (by simp [HL.out])
  have e : [l, t].flatten = crcPut l := by rw [HP.out]; simp
  rw [e] at J
  have hl : (crcPut l).length = n + 4 := by rw [crcPut_length, HN.out]
  unfold GivesO at J
  rw [hl] at J
  have hl := Lib.hid hl
  clear e
  refine J.mono ?_
  rintro e w3 ⟨g3, c3, rfl, O3, G3⟩
  go_wp2
  go_ret
  refine ⟨g3, c3, ?_, ?_, ?_⟩
  · rw [hl.out]; rfl
  · rw [hl.out]; exact O3.down (by have := G.size; simp; omega)
  · exact G.trans ((((Below.refl _ _).alloc (Nat.le_refl _) _).trans (G3.mono (by simp))).mono G.size)

set_option maxHeartbeats 1000000 in
theorem cput_nil (A : Option Addr) (n c : Nat) (w : World) : Calls Try.prog 26 #[.pointer none, .slice A n c] w (GivesB w []) := by
  have M := Lib.hid (made_nil w)
  go_enter Try.func26, Try.ntmps26
  go_wp2_with (fail)
  refine M.out.mono ?_
  rintro e w1 ⟨rfl, rfl⟩
  go_wp2
  go_ret
  exact ⟨_, _, _, rfl, Bys.nil _, Below.refl _ _⟩

theorem chk_short (l : List UInt8) (h : l.length < 4) : crcChk l = none := by
  unfold crcChk
  rw [if_neg (by omega)]
theorem chk_yes (l : List UInt8) (k : Nat) (h : l.length = k + 4) (e : l.drop k = leB (crcOf (l.take k)) 4) : crcChk l = some (l.take k) := by
  unfold crcChk
  have hk : l.length - 4 = k := by omega
  have hp : l = crcPut (l.take k) := by
    unfold crcPut
    rw [← e, List.take_append_drop]
  rw [hk, if_pos ⟨by omega, hp⟩]
theorem chk_no (l : List UInt8) (k : Nat) (h : l.length = k + 4) (e : l.drop k ≠ leB (crcOf (l.take k)) 4) : crcChk l = none := by
  unfold crcChk
  have hk : l.length - 4 = k := by omega
  rw [hk, if_neg]
  rintro ⟨_, e2⟩
  apply e
  have hl : (l.take k).length = k := by simp; omega
  have h3 := congrArg (List.drop k) e2
  unfold crcPut at h3
  have h5 : (l.take k).drop k = [] := List.drop_eq_nil_of_le (by omega)
  rw [List.drop_append_of_le_length (by omega), h5, List.nil_append] at h3
  exact h3

end Go.Proofs.Ytoaccikhklfeiaa
