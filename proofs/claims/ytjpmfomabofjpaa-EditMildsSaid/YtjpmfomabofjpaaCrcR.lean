/- What kedgeref02's Feed, Sum, More, Put and Check answer. -/
import Derived.Test.YtjpmfomabofjpaaFresh
import Derived.Test.YtjpmfomabofjpaaWords
import Derived.Test.YtjpmfomabofjpaaCrcM
namespace Go.Proofs.Ytjpmfomabofjpaa
open Go.RowKit

theorem csteps_succ (x k : Nat) : csteps x (k + 1) = cstep (csteps x k) := by rw [csteps_add]; rfl
theorem u32_x (a b : Nat) (ha : a < 4294967296) (hb : b < 4294967296) : bits BinOp.xor IntKind.u32 (a : Int) (b : Int) = ((a ^^^ b : Nat) : Int) := u32_xor_nat a b ha hb
theorem u32_poly (a : Nat) (ha : a < 4294967296) : bits BinOp.xor IntKind.u32 (a : Int) 3988292384 = ((a ^^^ 3988292384 : Nat) : Int) := u32_xor_nat a 3988292384 ha (by decide)
theorem u32_ones (a : Nat) (ha : a < 4294967296) : bits BinOp.xor IntKind.u32 (a : Int) 4294967295 = ((a ^^^ 4294967295 : Nat) : Int) := u32_xor_nat a 4294967295 ha (by decide)
theorem feed_take (x : Nat) (l : List UInt8) (k : Nat) (h : k < l.length) : feed x (l.take (k + 1)) = csteps (feed x (l.take k) ^^^ l[k].toNat) 8 := by
  rw [List.take_succ_eq_append_getElem h, feed_snoc]; rfl

set_option maxRecDepth 20000 in
set_option maxHeartbeats 2000000 in
theorem rfeed_any (x : Nat) (A : Option Addr) (n c : Nat) (l : List UInt8) (w : World) (hx : x < 4294967296) (h : Bys w A n c l) :
    Calls Try.prog 46 #[.int .u32 x, .slice A n c] w fun e w' => e = .returned (.int .u32 (feed x l : Int)) ∧ w = w' := by
  obtain ⟨hl, hnc, hcm, hcell⟩ := h
  unfold maxLen at hcm
  subst hl
  have HC := Lib.hid hcell; clear hcell
  go_enter Try.func46, Try.ntmps46
  go_wp2
  go_loop [0, 5] (fun t i => ∃ k : Nat, k ≤ l.length ∧ i = .int .i64 k ∧ t = .int .u32 (feed x (l.take k) : Int)) (fun _ i => l.length - (intOf i).toNat)
  case atStart => exact ⟨0, Nat.zero_le _, rfl, by simp [feed]⟩
  case round =>
    obtain ⟨k, hk, rfl, rfl⟩ := hrel
    by_cases hlt : k < l.length
    · obtain ⟨b, o, rfl, hb, hc⟩ := HC.out (by omega)
      have c1 := hc k hlt
      clear hc
      have HF := Lib.hid (feed_take x l k hlt)
      have hy := feed_lt (l.take k) x hx
      generalize feed x (l.take k) = y at *
      have hb2 := l[k].toNat_lt
      have hxo := u32_x y l[k].toNat hy (by omega)
      have hz := xor_lt y l[k].toNat hy (by omega)
      have HZ : Hid (y ^^^ l[k].toNat = y ^^^ l[k].toNat) := rfl
      generalize y ^^^ l[k].toNat = z at hxo hz HF
      clear HZ
      go_wp2
      clear hxo c1
      go_loop [0, 6] (fun t j => ∃ m : Nat, m ≤ 8 ∧ j = .int .i64 m ∧ t = .int .u32 (csteps z m : Int)) (fun _ j => 8 - (intOf j).toNat)
      case atStart => exact ⟨0, Nat.zero_le _, rfl, rfl⟩
      case round =>
        obtain ⟨m, hm, rfl, rfl⟩ := hrel
        by_cases h8 : m < 8
        · have HS := Lib.hid (csteps_succ z m)
          have hv := csteps_lt m z hz
          generalize csteps z m = v at *
          have hh : (v : Int) / 2 = ((v / 2 : Nat) : Int) := by omega
          have hhl : v / 2 < 4294967296 := by omega
          have HD : Hid (v / 2 = v / 2) := rfl
          rcases Nat.mod_two_eq_zero_or_one v with hp | hp
          · have HS2 : Hid (csteps z (m + 1) = v / 2) := by rw [HS.out]; simp [Hid, cstep, hp]
            have hpi : (v : Int) % 2 = 0 := by omega
            clear HS hp HD
            generalize v / 2 = q at *
            go_wp2
            go_round
            case rel => exact ⟨m + 1, by omega, by go_num, by rw [HS2.out]⟩
            case measure => simp [intOf]; omega
          · have HS2 : Hid (csteps z (m + 1) = v / 2 ^^^ 3988292384) := by rw [HS.out]; simp [Hid, cstep, hp]
            have hpi : (v : Int) % 2 = 1 := by omega
            have hpo := u32_poly (v / 2) hhl
            clear HS hp HD
            generalize v / 2 = q at *
            generalize q ^^^ 3988292384 = r at *
            go_wp2
            go_round
            case rel => exact ⟨m + 1, by omega, by go_num, by rw [HS2.out]⟩
            case measure => simp [intOf]; omega
        · obtain rfl : m = 8 := by omega
          go_wp2
          go_round
          case rel => exact ⟨k + 1, by omega, by go_num, by rw [HF.out]⟩
          case measure => simp [intOf]; omega
    · go_wp2
      go_ret
      exact ⟨ret_int (by rw [List.take_of_length_le (by omega)]), rfl⟩

set_option maxRecDepth 20000 in
set_option maxHeartbeats 1000000 in
theorem rsum_any (A : Option Addr) (n c : Nat) (l : List UInt8) (w : World) (h : Bys w A n c l) :
    Calls Try.prog 40 #[.slice A n c] w fun e w' => e = .returned (.int .u32 (crcOf l : Int)) ∧ w = w' := by
  have hf := feed_lt l 4294967295 (by decide)
  have hxo := u32_ones _ hf
  have H := Lib.hid (rfeed_any 4294967295 A n c l w (by decide) h)
  have HC : Hid (crcOf l = feed 4294967295 l ^^^ 4294967295) := rfl
  generalize feed 4294967295 l = y at *
  generalize y ^^^ 4294967295 = z at *
  clear h
  go_enter Try.func40, Try.ntmps40
  go_wp2_with (fail)
  refine H.out.mono ?_
  rintro e w' ⟨rfl, rfl⟩
  go_wp2
  go_ret
  exact ⟨ret_int (by rw [HC.out]), rfl⟩

theorem leB_take (s : Nat) : ∀ k, k < 4 → leB s (k + 1) = leB s k ++ [UInt8.ofNat (s / 256 ^ k)] := by
  have gen : ∀ k s, leB s (k + 1) = leB s k ++ [UInt8.ofNat (s / 256 ^ k)] := by
    intro k
    induction k with
    | zero => intro s; simp [leB]
    | succ k ih =>
      intro s
      have := ih (s / 256)
      show UInt8.ofNat s :: leB (s / 256) (k + 1) = UInt8.ofNat s :: leB (s / 256) k ++ _
      rw [this, Nat.div_div_eq_div_mul, Nat.pow_succ, Nat.mul_comm 256]
      rfl
  exact fun k _ => gen k s

set_option maxRecDepth 20000 in
set_option maxHeartbeats 2000000 in
theorem rcput_any (A : Option Addr) (n c : Nat) (l : List UInt8) (w : World) (h : Bys w A n c l) (hn : n ≤ 140737488351232) :
    Calls Try.prog 34 #[.slice A n c] w (GivesB w (crcPut l)) := by
  have hl := h.len
  have H := Lib.hid (rsum_any A n c l w h)
  have HC : Hid (crcPut l = l ++ leB (crcOf l) 4) := rfl
  have hs := crcOf_lt l
  generalize crcOf l = s at *
  have HL := Lib.hid hl; clear hl
  go_enter Try.func34, Try.ntmps34
  go_wp2_with (fail)
  refine H.out.mono ?_
  rintro e w' ⟨rfl, rfl⟩
  go_wp2_with ((with_reducible refine app_bys _ rfl (.tmp 8) (.tmp 9) rfl w.heap.size (.slice (some ⟨w.heap.size, 0, none⟩) 0 0) 0 [] rfl ?c1 A n c l rfl (h.alloc _) ?c2 ?c3 ?_); rotate_right; intro v1 w1 hown1 hgrow1 hwhere1)
  case c1 => exact World.ownsRow_made w #[] 0 (Nat.le_refl _) (Nat.zero_le _) rfl
  case c2 => omega
  case c3 => simp
  simp only [Nat.zero_add, List.nil_append] at hown1
  have hb1 : Below w.heap.size w w1 := ((Below.refl _ w).alloc (Nat.le_refl _) _).grown hgrow1 (by simp) (by intro k hk; simp [Value.ownBlock] at hk; omega)
  clear hgrow1 hwhere1
  go_loopw [3, 4, 5] (fun t v i wr => ∃ k : Nat, k ≤ 4 ∧ i = .int .i64 k ∧ t = .int .u32 ((s / 256 ^ k : Nat) : Int) ∧ wr.ownsRow w.heap.size 5 1 v (n + k) (bvs (l ++ leB s k)) ∧ Below w.heap.size w wr) (fun _ _ i _ => 4 - (intOf i).toNat)
  case atStart => exact ⟨0, Nat.zero_le _, rfl, by simp, by simpa [leB] using hown1, hb1⟩
  case round =>
    obtain ⟨k, hk, rfl, rfl, hown2, hbel⟩ := hrel
    by_cases hlt : k < 4
    · have HT := Lib.hid (leB_take s k hlt)
      have hdl : s / 256 ^ k < 4294967296 := Nat.lt_of_le_of_lt (Nat.div_le_self _ _) hs
      have HD : Hid (s / 256 ^ (k + 1) = s / 256 ^ k / 256) := by simp [Hid, Nat.pow_succ, Nat.div_div_eq_div_mul]
      generalize s / 256 ^ k = q at *
      have hz : (q : Int) % 256 = ((UInt8.ofNat q).toNat : Int) := by rw [UInt8.toNat_ofNat']; omega
      have hzl := lt256 (UInt8.ofNat q)
      have HQ : Hid ((q : Int) / 256 = ((q / 256 : Nat) : Int)) := by simp [Hid]
      generalize UInt8.ofNat q = z at *
      have hnew : Hid (∀ W : World, Bys (W.alloc (.cells #[.int .u8 (z.toNat : Int)] 5)) (some ⟨W.heap.size, 0, none⟩) 1 1 [z]) := fun W => Bys.lit W [z] (by simp)
      go_wp2_with ((with_reducible refine app_bys _ rfl (.tmp 15) (.tmp 19) rfl w.heap.size u4 (n + k) (bvs (l ++ leB s k)) rfl ?_ (some ⟨wr.heap.size, 0, none⟩) 1 1 [z] rfl ?_ ?_ ?_ ?_); (exact hown2.alloc _); (exact hnew.out wr); (omega); (have := hbel.size; simp; omega); intro v2 w2 hown3 hgrow3 hwhere3)
      go_roundw
      case rel =>
        refine ⟨k + 1, by omega, by go_num, by rw [HD.out]; go_num, ?_, (hbel.alloc hbel.size _).grown hgrow3 (by have := hbel.size; simp; omega) (fun g hg => (hown2.lt g hg).1)⟩
        rw [HT.out, ← List.append_assoc, bvs_append (l ++ leB s k)]
        exact hown3
      case measure => simp [intOf]; omega
    · go_wp2
      go_ret
      obtain rfl : k = 4 := by omega
      obtain ⟨A2, c2, rfl⟩ := own_shape hown2
      rw [HC.out]
      exact ⟨_, _, _, rfl, Bys.of_own hown2, hbel⟩

theorem crcChk_short (q : List UInt8) (h : q.length < 4) : crcChk q = none := by rw [crcChk, if_neg (by omega)]
theorem crcChk_no (q : List UInt8) (h : q ≠ crcPut (q.take (q.length - 4))) : crcChk q = none := by rw [crcChk, if_neg (fun hh => h hh.2)]
theorem crcChk_yes (q : List UInt8) (h4 : 4 ≤ q.length) (h : q = crcPut (q.take (q.length - 4))) : crcChk q = some (q.take (q.length - 4)) := by rw [crcChk, if_pos ⟨h4, h⟩]

set_option maxRecDepth 20000 in
set_option maxHeartbeats 2000000 in
theorem rcheck_fr (A : Option Addr) (n c : Nat) (q : List UInt8) (w : World) (h : Bys w A n c q) (hn : n ≤ 140737488351232) :
    Calls Try.prog 45 #[.slice A n c] w (GivesUf w (crcChk q)) := by
  have hl := h.len
  have hnc := h.le
  have hcap := h.cap
  by_cases h4 : n < 4
  · rw [crcChk_short q (by omega)]
    clear hl
    go_enter Try.func45, Try.ntmps45
    go_wp2
    go_ret2
    exact ⟨_, _, _, rfl, Bys.nil _, Av.none _ _, Below.refl _ _⟩
  · obtain ⟨m, rfl⟩ : ∃ m, n = m + 4 := ⟨n - 4, by omega⟩
    obtain ⟨s1, b1⟩ := cut_hi h m (by omega)
    have P := Lib.hid (rcput_any A m c (q.take m) w b1 (by omega))
    have hpl : (crcPut (q.take m)).length = m + 4 := by rw [crcPut_length]; simp; omega
    have HNO : Hid (q ≠ crcPut (q.take m) → crcChk q = none) := fun hh => crcChk_no q (by rw [hl]; simpa using hh)
    have HYES : Hid (q = crcPut (q.take m) → crcChk q = some (q.take m)) := fun hh => by
      have := crcChk_yes q (by omega) (by rw [hl]; simpa using hh)
      rw [hl] at this
      simpa using this
    have HCUT := Lib.hid b1
    clear b1
    generalize crcPut (q.take m) = X at *
    have HPL := Lib.hid hpl; clear hpl
    have HL := Lib.hid hl; clear hl
    go_enter Try.func45, Try.ntmps45
    go_wp2_with (fail)
    refine P.out.mono ?_
    rintro e w1 ⟨A1, n1, c1, rfl, B1, T⟩
    obtain rfl : n1 = m + 4 := B1.len.symm.trans HPL.out
    have hB := h.below T
    have hcut := HCUT.out.below T
    clear h HCUT P
    have HB := Lib.hid hB; clear hB
    have HB1 := Lib.hid B1
    have hle1 := B1.le
    have hcap1 := B1.cap
    clear B1
    have HCUT := Lib.hid hcut; clear hcut
    go_wp2_with (fail)
    go_loopw [6] (fun i wr => ∃ k : Nat, k ≤ m + 4 ∧ i = .int .i64 k ∧ q.take k = X.take k ∧ ∃ nd, wr = w1.drewN nd) (fun i _ => m + 4 - (intOf i).toNat)
    case atStart => exact ⟨0, Nat.zero_le _, rfl, by simp, 0, rfl⟩
    case round =>
      obtain ⟨k, hk, rfl, heq, nd, rfl⟩ := hrel
      have HE := Lib.hid heq; clear heq
      by_cases hlt : k < m + 4
      · obtain ⟨b, o, rfl, hb, hc⟩ := HB.out.at_ (by omega)
        obtain ⟨b', o', rfl, hb', hc'⟩ := HB1.out.at_ (by omega)
        have hq : k < q.length := by have := HL.out; omega
        have hX : k < X.length := by have := HPL.out; omega
        have d1 := hc k hq
        have d2 := hc' k hX
        clear hc hc'
        have HTQ : Hid (q.take (k + 1) = q.take k ++ [q[k]]) := by rw [List.take_succ_eq_append_getElem hq]; rfl
        have HTX : Hid (X.take (k + 1) = X.take k ++ [X[k]]) := by rw [List.take_succ_eq_append_getElem hX]; rfl
        have HNE : Hid (q = X → q[k] = X[k]) := fun hh => by subst hh; rfl
        generalize q[k] = x at *
        generalize X[k] = y at *
        have hlk : (k : Int) < (m : Int) + 4 := by omega
        go_wp2
        go_quiet (fail)
        go_wp2
        · have hne : ((y.toNat : Int) != (x.toNat : Int)) = true := by assumption
          go_ret2
          have hno : q ≠ X := fun hh => by
            have := HNE.out hh
            subst this
            simp at hne
          rw [HNO.out hno]
          exact ⟨_, _, _, rfl, Bys.nil _, Av.none _ _, below_drewN' (below_drewN' T _) _⟩
        · have heq : ((y.toNat : Int) != (x.toNat : Int)) = false := by assumption
          go_roundw
          case rel =>
            refine ⟨k + 1, by omega, by go_num, ?_, _, rfl⟩
            have : x = y := UInt8.toNat_inj.1 (by simp at heq; omega)
            rw [HTQ.out, HTX.out, HE.out, this]
          case measure => simp [intOf]; omega
      · obtain rfl : k = m + 4 := by omega
        have hqX : q = X := by
          have e := HE.out
          have := HL.out
          have := HPL.out
          rw [List.take_of_length_le (by omega), List.take_of_length_le (by omega)] at e
          exact e
        have HY := Lib.hid (HYES.out hqX)
        clear hqX
        have hTs := T.size
        go_wp2_with ((with_reducible refine app_bys _ rfl (.tmp 32) (.tmp 35) rfl w.heap.size (.slice (some ⟨w1.heap.size, 0, none⟩) 0 0) 0 [] rfl ?_ A m c (q.take m) rfl ?_ ?_ ?_ ?_); (exact World.ownsRow_made (w1.drewN nd) #[] 0 hTs (Nat.zero_le _) rfl); (exact HCUT.out.alloc _); (omega); (simp; omega); intro v2 w2 hown2 hgrow2 hwhere2)
        go_ret2
        simp only [Nat.zero_add, List.nil_append] at hown2
        obtain ⟨A2, c2, rfl⟩ := own_shape hown2
        rw [HY.out]
        refine ⟨_, _, _, rfl, Bys.of_own hown2, (own_fr hown2).imp (fun k hk => hk), ?_⟩
        have hg2 : (w1.alloc (.cells #[] 5)).grownBy w2 (some w1.heap.size) := ⟨hgrow2.os, hgrow2.tape, hgrow2.output, hgrow2.size, hgrow2.block⟩
        exact (T.alloc hTs _).grown hg2 (Nat.le_trans hTs (by rw [World.size_alloc]; omega)) (by intro g hg; injection hg with hg; omega)
theorem rcheck_any (A : Option Addr) (n c : Nat) (q : List UInt8) (w : World) (h : Bys w A n c q) (hn : n ≤ 140737488351232) :
    Calls Try.prog 45 #[.slice A n c] w (GivesU w (crcChk q)) := (rcheck_fr A n c q w h hn).mono fun _ _ h => h.givesU
end Go.Proofs.Ytjpmfomabofjpaa
