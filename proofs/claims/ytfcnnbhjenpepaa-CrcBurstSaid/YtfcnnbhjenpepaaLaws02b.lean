/- The walks of CrcParts and CrcBurst, over the contracts of package crc. -/
import Derived.Test.YtfcnnbhjenpepaaLaws02
namespace Go.Proofs.Ytfcnnbhjenpepaa
open Go.RowKit

theorem lens_take (ls : List (List UInt8)) (k : Nat) (h : k < ls.length) : Lib.lens (ls.take (k + 1)) = Lib.lens (ls.take k) + ls[k].length := by
  rw [← flat_len, ← flat_len, flat_take ls k h, List.length_append]

def HugeE (n : Nat) (ls : List (List UInt8)) (w : World) (e : Ending) (w' : World) : Prop := ∃ b, e = .returned (.bool b) ∧ w = w' ∧ (b = false → n ≤ 101 ∧ Lib.lens ls ≤ 4000)
set_option maxRecDepth 20000 in
set_option maxHeartbeats 2000000 in
theorem huge_any (P : Option Addr) (n c : Nat) (ls : List (List UInt8)) (w : World) (hR : Rws w P n c ls) (hin : ∀ k (h : k < ls.length), ls[k].length ≤ 140737488351232) :
    Calls Try.prog 13 #[.slice P n c] w (HugeE n ls w) := by
  have hpn := hR.1
  have hnc := hR.2.1
  have hcm := hR.2.2.1
  unfold maxLen at hcm
  have hat := hR.at_
  have HA := Lib.hid hat; clear hat
  have HI := Lib.hid hin; clear hin
  clear hR
  subst hpn
  go_enter Try.func13, Try.ntmps13
  go_wp2
  go_loop [3, 4] (fun t i => ∃ k : Nat, k ≤ ls.length ∧ k ≤ 101 ∧ i = .int .i64 k ∧ Lib.lens (ls.take k) ≤ 4000 ∧ t = .int .i64 (Lib.lens (ls.take k) : Int)) (fun _ i => ls.length - (intOf i).toNat)
  case atStart => exact ⟨0, Nat.zero_le _, Nat.zero_le _, rfl, by simp [Lib.lens], rfl⟩
  case round =>
    obtain ⟨k, hk, hk1, rfl, h4, rfl⟩ := hrel
    by_cases hlt : k < ls.length
    · obtain ⟨b, o, A1, d, rfl, hb, hk', hc, hB1⟩ := HA.out k hlt
      have HL := Lib.hid (lens_take ls k hlt)
      have hy := HI.out k hlt
      clear hB1
      generalize ls[k] = y at *
      by_cases h5 : 4000 < Lib.lens (ls.take k) + y.length
      · have hd : decide ((4000 : Int) < (Lib.lens (ls.take k) : Int) + (y.length : Int)) = true := by simp; omega
        go_wp2
        go_ret
        exact ⟨_, rfl, rfl, fun h => by simp at h⟩
      · have hd : decide ((4000 : Int) < (Lib.lens (ls.take k) : Int) + (y.length : Int)) = false := by simp; omega
        by_cases h6 : 100 < k
        · have hd2 : decide ((100 : Int) < (k : Int)) = true := by simp; omega
          go_wp2
          go_ret
          exact ⟨_, rfl, rfl, fun h => by simp at h⟩
        · have hd2 : decide ((100 : Int) < (k : Int)) = false := by simp; omega
          go_wp2
          go_round
          case rel => exact ⟨k + 1, by omega, by omega, by go_num, by rw [HL.out]; omega, by rw [HL.out]; go_num⟩
          case measure => simp [intOf]; omega
    · obtain rfl : k = ls.length := by omega
      go_wp2
      go_ret
      rw [List.take_length] at h4
      exact ⟨_, rfl, rfl, fun _ => ⟨hk1, h4⟩⟩

theorem Rws.take {w : World} {P : Option Addr} {n c : Nat} {ls : List (List UInt8)} (h : Rws w P n c ls) (k : Nat) (hk : k ≤ n) : Rws w P k c (ls.take k) := by
  have h1 := h.1
  have h2 := h.2.1
  refine ⟨by simp; omega, by omega, h.2.2.1, fun hp => ?_⟩
  obtain ⟨b, o, vs, e, hb, hl, hc, hv⟩ := h.2.2.2 (by omega)
  refine ⟨b, o, vs.take k, e, hb, by simp; omega, fun j hj => ?_, fun j hj hj' => ?_⟩
  · simp at hj
    have := hc j (by omega)
    simpa using this
  · simp at hj
    obtain ⟨A, d, h3, h4⟩ := hv j (by omega) (by omega)
    refine ⟨A, d, ?_, ?_⟩
    · simpa using h3
    · simpa using h4
theorem rws_hi {w : World} {P : Option Addr} {n c : Nat} {ls : List (List UInt8)} (h : Rws w P n c ls) (k : Nat) (hk : k ≤ n) :
    (∀ W, (Instr.sliceAt 31 (.slice P n c) none (some (.int .i64 k)) none).run Try.prog W = .ok (.slice P k c) W) ∧ Rws w P k c (ls.take k) := by
  refine ⟨fun W => ?_, h.take k hk⟩
  have h2 := h.2.1
  have ht : Try.prog.underlying 31 = some (.slice (Try.prog.elem 31)) := by kernel_rfl
  have he : Try.prog.elem 31 = 22 := by kernel_rfl
  obtain ⟨i0, hi, hz⟩ : ∃ i, Try.prog.info? 22 = some i ∧ i.size = 1 := by
    have h : (Try.prog.info? 22).map (·.size) = some 1 := by kernel_rfl
    obtain ⟨i, hi, hzz⟩ := Option.map_eq_some_iff.1 h
    exact ⟨i, hi, hzz⟩
  rw [run_sliceAt_slice _ _ _ _ _ _ ht, run_slice_h _ _ _ _ _ ht .i64 k (by omega) (by omega), he]
  simp [Go.sizeOf, typeInfo, hi, hz, sliced, map_add0]
theorem lens_one (x : List UInt8) : Lib.lens [x] = x.length := by simp [Lib.lens]
theorem crcMore_of (l m : List UInt8) : crcMore (crcOf l) m = crcOf (l ++ m) := by
  unfold crcMore crcOf
  rw [Nat.xor_assoc, Nat.xor_self, Nat.xor_zero, feed_append]

section
variable {Tab : World → Addr → Prop} (K : CrcC Tab)
include K

set_option maxRecDepth 20000 in
set_option maxHeartbeats 4000000 in
theorem walk_CrcParts (P : Option Addr) (n c : Nat) (ls : List (List UInt8)) (x : Int) (w : World) (hR : Rws w P n c ls) (hin : ∀ k (h : k < ls.length), ls[k].length ≤ 140737488351232) :
    Calls Try.prog 4 #[.slice P n c, .int .i64 x] w fun e w' => e = .returned (.bool true) ∧ Below w.heap.size w w' := by
  have H := Lib.hid (huge_any P n c ls w hR hin)
  have L := fun W => live02 K W
  have L := Lib.hid L
  go_enter Try.func4, Try.ntmps4
  go_wp2_with (fail)
  refine H.out.mono ?_
  rintro e w' ⟨b, rfl, rfl, hb⟩
  clear H
  have HB := Lib.hid hb; clear hb
  cases b with
  | true =>
    go_wp2_with (fail)
    refine (L.out _).mono ?_
    rintro e w1 ⟨rfl, T⟩
    go_wp2_with (fail)
    go_ret
    exact ⟨rfl, T⟩
  | false =>
    obtain ⟨hn, hs⟩ := HB.out rfl
    clear HB
    by_cases hx0 : x < 0
    · have hd : decide (x < 0) = true := by simpa using hx0
      go_wp2_with (fail)
      refine (L.out _).mono ?_
      rintro e w1 ⟨rfl, T⟩
      go_wp2_with (fail)
      go_ret
      exact ⟨rfl, T⟩
    · have hd : decide (x < 0) = false := by simpa using hx0
      by_cases hxn : (n : Int) < x
      · have hd2 : decide ((n : Int) < x) = true := by simpa using hxn
        go_wp2_with (fail)
        refine (L.out _).mono ?_
        rintro e w1 ⟨rfl, T⟩
        go_wp2_with (fail)
        go_ret
        exact ⟨rfl, T⟩
      · obtain ⟨k, rfl⟩ := Int.eq_ofNat_of_zero_le (show 0 ≤ x by omega)
        have hd2 : decide ((n : Int) < (k : Int)) = false := by simpa using hxn
        have hd3 : decide (n < k) = false := by simp; omega
        have hk : k ≤ n := by omega
        have hpn := hR.1
        go_wp2_with (fail)
        refine (K.new_ w).mono ?_
        rintro e w1 ⟨a, rfl, Ta, T⟩
        have hR := hR.below T
        obtain ⟨s1, R1⟩ := rws_hi hR k hk
        have hls : Lib.lens (ls.take k) ≤ 5000 := by
          have e1 := flat_len (ls.take k)
          have e2 := flat_len ls
          have : (ls.take k).flatten.length ≤ ls.flatten.length := by
            conv => rhs; rw [← List.take_append_drop k ls]
            rw [List.flatten_append, List.length_append]
            omega
          omega
        have S := Lib.hid (K.sum_ a P k c (ls.take k) w1 Ta R1 (by omega) hls)
        clear hls R1
        have HPN := Lib.hid hpn; clear hpn
        go_wp2_with (fail)
        refine S.out.mono ?_
        rintro e w2 ⟨rfl, G⟩
        have T := nxt T G
        have Ta := K.below Ta G
        have hR := hR.below G
        clear G S s1
        go_wp2_with (fail)
        have hat := hR.at_
        have HA := Lib.hid hat; clear hat
        have HR := Lib.hid hR; clear hR
        have HT := Lib.hid Ta; clear Ta
        go_loopw [6, 7] (fun t i wr => ∃ j : Nat, k ≤ j ∧ j ≤ n ∧ i = .int .i64 j ∧ t = .int .u32 (crcOf (ls.take j).flatten : Int) ∧ Below w2.heap.size w2 wr) (fun _ i _ => n - (intOf i).toNat)
        case atStart => exact ⟨k, Nat.le_refl _, hk, rfl, rfl, Below.refl _ _⟩
        case round =>
          obtain ⟨j, hj, hjn, rfl, rfl, hbel⟩ := hrel
          by_cases hlt : j < n
          · obtain ⟨b, o, A1, d, rfl, hb, hk', hc, hB1⟩ := HA.out j hlt
            have c1 := (hbel.cell (p := ⟨b, o + j, none⟩) hb).trans hc
            have hB2 := hB1.below hbel
            have hy : ls[j].length ≤ 5000 := by
              have := lens_take_le ls j hk'
              omega
            have hcl := crcOf_lt (ls.take j).flatten
            have HF : Hid (crcOf (ls.take (j + 1)).flatten = crcMore (crcOf (ls.take j).flatten) ls[j]) := by
              show _ = _
              rw [crcMore_of, flat_take ls j hk']
            have M := Lib.hid (K.more_ a (crcOf (ls.take j).flatten) A1 ls[j].length d ls[j] wr (K.below HT.out hbel) hcl hB2 hy)
            clear hc hB1 hB2 hcl
            go_wp2_with (fail)
            refine M.out.mono ?_
            rintro e w3 ⟨rfl, G⟩
            go_wp2_with (fail)
            go_roundw
            case rel => exact ⟨j + 1, by omega, by omega, by go_num, by rw [HF.out], hbel.trans (G.mono hbel.size)⟩
            case measure => simp [intOf]; omega
          · obtain rfl : j = n := by omega
            have T := nxt T hbel
            have Ta := K.below HT.out hbel
            have hR := HR.out.below hbel
            have htk : ls.take j = ls := by rw [← HPN.out, List.take_length]
            rw [htk]
            have HTK := Lib.hid htk; clear htk
            go_wp2_with (fail)
            refine (K.sum_ a P j c ls wr Ta hR (by omega) (by omega)).mono ?_
            rintro e w3 ⟨rfl, G⟩
            have T := nxt T G
            have Ta := K.below Ta G
            have hR := hR.below G
            clear G
            go_wp2_with (fail)
            refine (rjoin_any P j c ls w3 hR (by omega)).mono ?_
            rintro e w4 ⟨A4, n4, c4, rfl, B4, G⟩
            have T := nxt T G
            have Ta := K.below Ta G
            clear G
            have hn4 := B4.len
            have hlf := flat_len ls
            have hfl : [ls.flatten].flatten = ls.flatten := by simp
            have S := K.sum_ a _ 1 1 _ _ (K.al Ta _) (litrow1 _ _ n4 c4 ls.flatten hn4 B4) (by decide) (by rw [lens_one, hlf]; omega)
            rw [hfl] at S
            have S := Lib.hid S
            clear hn4 hlf hfl
            go_wp2_with (fail)
            refine S.out.mono ?_
            rintro e w5 ⟨rfl, G⟩
            have T := nxt (T.alloc T.size _) G
            clear G S
            go_wp2_with (fail)
            refine (L.out _).mono ?_
            rintro e w6 ⟨rfl, G⟩
            have T := nxt T G
            go_wp2_with (fail)
            go_ret
            exact ⟨rfl, T⟩

end
/-- four bytes, of which the first k are other ones -/
def mix (m0 m1 m2 m3 : UInt8) (d : Nat) : Nat → List UInt8
  | 0 => [m0, m1, m2, m3]
  | 1 => [m0 ^^^ UInt8.ofNat d, m1, m2, m3]
  | 2 => [m0 ^^^ UInt8.ofNat d, m1 ^^^ UInt8.ofNat (d / 256), m2, m3]
  | 3 => [m0 ^^^ UInt8.ofNat d, m1 ^^^ UInt8.ofNat (d / 256), m2 ^^^ UInt8.ofNat (d / 256 / 256), m3]
  | _ => [m0 ^^^ UInt8.ofNat d, m1 ^^^ UInt8.ofNat (d / 256), m2 ^^^ UInt8.ofNat (d / 256 / 256), m3 ^^^ UInt8.ofNat (d / 256 / 256 / 256)]
def mth (m0 m1 m2 m3 : UInt8) : Nat → UInt8 | 0 => m0 | 1 => m1 | 2 => m2 | _ => m3
theorem mix_length (m0 m1 m2 m3 : UInt8) (d k : Nat) : (mix m0 m1 m2 m3 d k).length = 4 := by
  match k with | 0 | 1 | 2 | 3 => rfl | _ + 4 => rfl
theorem mix_get (m0 m1 m2 m3 : UInt8) (d k : Nat) (h : k < 4) : (mix m0 m1 m2 m3 d k)[k]? = some (mth m0 m1 m2 m3 k) := by
  match k, h with | 0, _ | 1, _ | 2, _ | 3, _ => rfl
theorem mix_set (m0 m1 m2 m3 : UInt8) (d k : Nat) (h : k < 4) : (mix m0 m1 m2 m3 d k).set k (mth m0 m1 m2 m3 k ^^^ UInt8.ofNat (d / 256 ^ k)) = mix m0 m1 m2 m3 d (k + 1) := by
  match k, h with
  | 0, _ => simp [mix, mth]
  | 1, _ => simp [mix, mth]
  | 2, _ => simp [mix, mth, Nat.div_div_eq_div_mul]
  | 3, _ => simp [mix, mth, Nat.div_div_eq_div_mul]
theorem mix_all (m0 m1 m2 m3 : UInt8) (d : Nat) : mix m0 m1 m2 m3 d 4 = List.zipWith (· ^^^ ·) [m0, m1, m2, m3] (leB d 4) := by
  simp [mix, leB]
theorem mix_none (m0 m1 m2 m3 : UInt8) (d : Nat) : mix m0 m1 m2 m3 d 0 = [m0, m1, m2, m3] := rfl
/-- a list of four more than at, parted at that place -/
theorem part4 (p : List UInt8) (at_ : Nat) (h : at_ + 4 ≤ p.length) : ∃ a m0 m1 m2 m3 c, p = a ++ [m0, m1, m2, m3] ++ c ∧ a.length = at_ := by
  have hm : ((p.drop at_).take 4).length = 4 := by simp; omega
  match hq : (p.drop at_).take 4, hm with
  | [m0, m1, m2, m3], _ =>
    refine ⟨p.take at_, m0, m1, m2, m3, p.drop (at_ + 4), ?_, by simp; omega⟩
    rw [← hq, List.append_assoc]
    conv => lhs; rw [← List.take_append_drop at_ p, ← List.take_append_drop 4 (p.drop at_)]
    rw [List.drop_drop]
theorem get_mid (a x c : List UInt8) (k : Nat) (u : UInt8) (hk : x[k]? = some u) : (a ++ x ++ c)[a.length + k]? = some u := by
  have hl : k < x.length := (List.getElem?_eq_some_iff.1 hk).1
  rw [List.append_assoc, List.getElem?_append_right (by omega), List.getElem?_append_left (by omega)]
  simpa using hk
theorem set_mid (a x c : List UInt8) (k : Nat) (u : UInt8) (hk : k < x.length) : a ++ x.set k u ++ c = (a ++ x ++ c).set (a.length + k) u := by
  rw [List.append_assoc, List.append_assoc, List.set_append_right _ _ (by omega), List.set_append_left _ _ (by omega)]
  simp
theorem u8_x (x : UInt8) (y : UInt8) : bits BinOp.xor IntKind.u8 (x.toNat : Int) (y.toNat : Int) = ((x ^^^ y).toNat : Int) := by
  have hx := x.toNat_lt
  have hy := y.toNat_lt
  rw [u8_xor_nat _ _ hx hy, UInt8.toNat_xor]
theorem sh_byte (d k : Nat) : ((d : Int) / 2 ^ (8 * k)) % 256 = ((UInt8.ofNat (d / 256 ^ k)).toNat : Int) := by
  have e : ((2 : Int) ^ (8 * k)) = ((256 ^ k : Nat) : Int) := by
    have : (2 : Nat) ^ (8 * k) = 256 ^ k := by rw [Nat.pow_mul]
    rw [← this]; simp
  rw [e, UInt8.toNat_ofNat']
  simp

section
variable {Tab : World → Addr → Prop} (K : CrcC Tab)
include K

set_option maxRecDepth 20000 in
set_option maxHeartbeats 4000000 in
theorem walk_CrcBurst (A : Option Addr) (n c : Nat) (l : List UInt8) (x : Int) (d : Nat) (w : World) (hB : Bys w A n c l) (hd : d < 4294967296) (hx : -9223372036854775808 ≤ x ∧ x ≤ 9223372036854775807) :
    Calls Try.prog 6 #[.slice A n c, .int .i64 x, .int .u32 d] w fun e w' => e = .returned (.bool true) ∧ Below w.heap.size w w' := by
  have L := fun W => live02 K W
  have L := Lib.hid L
  have N := Lib.hid (K.new_ w)
  by_cases h4 : 4000 < n
  · have hd1 : decide ((4000 : Int) < (n : Int)) = true := by simp; omega
    go_enter Try.func6, Try.ntmps6
    go_wp2_with (fail)
    refine N.out.mono ?_
    rintro e w1 ⟨a, rfl, Ta, T⟩
    go_wp2_with (fail)
    refine (L.out _).mono ?_
    rintro e w2 ⟨rfl, G⟩
    have T := nxt T G
    go_wp2_with (fail)
    go_ret
    exact ⟨rfl, T⟩
  · have hd1 : decide ((4000 : Int) < (n : Int)) = false := by simp; omega
    by_cases h0 : x < 0
    · have hd2 : decide (x < 0) = true := by simpa using h0
      go_enter Try.func6, Try.ntmps6
      go_wp2_with (fail)
      refine N.out.mono ?_
      rintro e w1 ⟨a, rfl, Ta, T⟩
      go_wp2_with (fail)
      refine (L.out _).mono ?_
      rintro e w2 ⟨rfl, G⟩
      have T := nxt T G
      go_wp2_with (fail)
      go_ret
      exact ⟨rfl, T⟩
    · have hd2 : decide (x < 0) = false := by simpa using h0
      by_cases h1 : (n : Int) < x
      · have hd3 : decide ((n : Int) < x) = true := by simpa using h1
        go_enter Try.func6, Try.ntmps6
        go_wp2_with (fail)
        refine N.out.mono ?_
        rintro e w1 ⟨a, rfl, Ta, T⟩
        go_wp2_with (fail)
        refine (L.out _).mono ?_
        rintro e w2 ⟨rfl, G⟩
        have T := nxt T G
        go_wp2_with (fail)
        go_ret
        exact ⟨rfl, T⟩
      · obtain ⟨k, rfl⟩ := Int.eq_ofNat_of_zero_le (show 0 ≤ x by omega)
        have hk : k ≤ n := by omega
        have hd3 : decide ((n : Int) < (k : Int)) = false := by simpa using h1
        have hd4 : decide (n < k) = false := by simp; omega
        by_cases hz : d = 0
        · subst hz
          have hd5 : (((0 : Nat) : Int) == 0) = true := by decide
          go_enter Try.func6, Try.ntmps6
          go_wp2_with (fail)
          refine N.out.mono ?_
          rintro e w1 ⟨a, rfl, Ta, T⟩
          go_wp2_with (fail)
          refine (L.out _).mono ?_
          rintro e w2 ⟨rfl, G⟩
          have T := nxt T G
          go_wp2_with (fail)
          go_ret
          exact ⟨rfl, T⟩
        · have hd5 : ((d : Int) == 0) = false := by simp; omega
          have hlen := hB.len
          have hpl : (crcPut l).length = n + 4 := by rw [crcPut_length]; omega
          obtain ⟨a0, m0, m1, m2, m3, c0, hp, ha⟩ := part4 (crcPut l) k (by omega)
          have HBU := Lib.hid (crcChk_burst l a0 [m0, m1, m2, m3] c0 d hp rfl hd hz)
          have P1 : ∀ a W, Tab W a → Bys W A n c l → Calls Try.prog 15 #[.pointer (some a), .slice A n c] W fun e w' => ∃ g c2, e = .returned (.slice (some ⟨g, 0, none⟩) (n + 4) c2) ∧ Own w' W.heap.size g (n + 4) c2 (a0 ++ [m0, m1, m2, m3] ++ c0) ∧ Below W.heap.size W w' := by
            intro a W ht hb
            refine (K.put_ a A n c l W ht hb (by omega)).mono ?_
            rintro e w' ⟨g, c2, he, ho, hb⟩
            rw [hpl] at he ho
            rw [hp] at ho
            exact ⟨g, c2, he, ho, hb⟩
          rw [hp] at hpl
          clear hp hlen
          have P1 := Lib.hid P1
          subst ha
          have HPL := Lib.hid hpl; clear hpl
          clear hz h0 h1
          go_enter Try.func6, Try.ntmps6
          go_wp2_with (fail)
          refine N.out.mono ?_
          rintro e w1 ⟨a, rfl, Ta, T⟩
          have hB := hB.below T
          go_wp2_with (fail)
          refine (P1.out a _ Ta hB).mono ?_
          rintro e w2 ⟨g, c2, rfl, O2, G⟩
          clear hB
          go_wp2_with (fail)
          go_loopw [9] (fun i wr => ∃ j : Nat, j ≤ 4 ∧ i = .int .i64 j ∧ Own wr w1.heap.size g (n + 4) c2 (a0 ++ mix m0 m1 m2 m3 d j ++ c0) ∧ Below w1.heap.size w1 wr) (fun i _ => 4 - (intOf i).toNat)
          case atStart => exact ⟨0, Nat.zero_le _, rfl, O2, G⟩
          case round =>
            obtain ⟨j, hj, rfl, hown, hbel⟩ := hrel
            by_cases hlt : j < 4
            · have hml := mix_length m0 m1 m2 m3 d j
              have hpos : a0.length + j < (a0 ++ mix m0 m1 m2 m3 d j ++ c0).length := by simp [hml]; omega
              have hgm := get_mid a0 (mix m0 m1 m2 m3 d j) c0 j _ (mix_get m0 m1 m2 m3 d j hlt)
              have c1 : wr.cell? ⟨g, a0.length + j, none⟩ = some (.int .u8 ((mth m0 m1 m2 m3 j).toNat : Int)) := by
                rw [hown.cell _ hpos]
                rw [List.getElem?_eq_getElem hpos] at hgm
                injection hgm with hgm
                rw [hgm]
              have f1 := hown.free _ hpos
              clear hgm
              have hst := fun b => hown.set (a0.length + j) b (by have := hown.len; omega)
              have HST := Lib.hid hst; clear hst
              have hg1 := hown.base
              clear hpos
              have HMS := Lib.hid (mix_set m0 m1 m2 m3 d j hlt)
              have HSM := Lib.hid (set_mid a0 (mix m0 m1 m2 m3 d j) c0 j (mth m0 m1 m2 m3 j ^^^ UInt8.ofNat (d / 256 ^ j)) (by omega))
              have hsb := sh_byte d j
              have hxo := u8_x (mth m0 m1 m2 m3 j) (UInt8.ofNat (d / 256 ^ j))
              generalize UInt8.ofNat (d / 256 ^ j) = y at *
              generalize mth m0 m1 m2 m3 j = v at *
              generalize v ^^^ y = z at *
              clear hml hown
              go_wp2
              go_roundw
              case rel =>
                refine ⟨j + 1, by omega, by go_num, ?_, hbel.setCell hg1 _⟩
                have h := HST.out z
                have e : (a0 ++ mix m0 m1 m2 m3 d j ++ c0).set (a0.length + j) z = a0 ++ mix m0 m1 m2 m3 d (j + 1) ++ c0 := by
                  rw [← HSM.out, HMS.out]
                rw [e] at h
                exact h
              case measure => simp [intOf]; omega
            · obtain rfl : j = 4 := by omega
              rw [mix_all] at hown
              have T := nxt T hbel
              have Ta := K.below Ta hbel
              have C := Lib.hid (K.check_ a _ (n + 4) c2 _ wr Ta hown.bys (by omega))
              clear hown
              go_wp2_with (fail)
              refine C.out.mono ?_
              rw [HBU.out]
              rintro e w3 ⟨A3, n3, c3, rfl, -, G3⟩
              have T := nxt T G3
              go_wp2_with (fail)
              refine (L.out _).mono ?_
              rintro e w4 ⟨rfl, G4⟩
              have T := nxt T G4
              go_wp2_with (fail)
              go_ret
              exact ⟨rfl, T⟩
end
end Go.Proofs.Ytfcnnbhjenpepaa
