/- What kedgeref24's Take answers. -/
import Derived.Test.YtncpabnmdofomaaRpu3
namespace Go.Proofs.Ytncpabnmdofomaa
open Go.RowKit
set_option maxRecDepth 20000

/-- what Take does but for going on -/
def GivesPuTk (g gt : Nat) (v : Value) (s' : Pus) (l : List Sld) (Xt Xl : Nat → Prop) (w : World) (e : Ending) (w' : World) : Prop := ∃ vo Xt', e = .returned vo ∧ Out w (Tri g Xt' Xl) vo l w' ∧ RPv g gt v s' Xt' Xl w' ∧ Turns (Tri g Xt Xl) (Tri g Xt' Xl) w w'
set_option maxHeartbeats 4000000 in
theorem rptake_no (g gt : Nat) (v : Value) (s : Pus) (Xt Xl : Nat → Prop) (seq : Int) (bits : Nat) (A : Option Addr) (n c : Nat) (w : World) (h : RPv g gt v s Xt Xl w) :
    Calls Try.prog 17 #[.pointer (some ⟨g, 0, none⟩), .agg #[.bool false, .int .i64 seq, .int .u64 (bits : Int), .slice A n c]] w (GivesPuTk g gt v s [] Xt Xl w) := by
  have T0 := (Below.refl _ w).alloc (Nat.le_refl _) (.cells #[.bool false, .int .i64 seq, .int .u64 (bits : Int), .slice A n c] 38)
  have HR := Lib.hid (h.below T0)
  have HT0 := Lib.hid T0
  clear h T0
  go_enter Try.func17, Try.ntmps17
  go_wp2
  go_ret
  exact ⟨_, Xt, rfl, Out.nil _ _ _, HR.out, Turns.of_below HT0.out⟩
set_option maxHeartbeats 16000000 in
theorem rptake_none (g gt : Nat) (v : Value) (s : Pus) (Xt Xl : Nat → Prop) (seq : Int) (bits : Nat) (A : Option Addr) (n c : Nat) (w : World) (h : RPv g gt v s Xt Xl w) (hok : PsOk s) (hq : puNear s seq = none) :
    Calls Try.prog 17 #[.pointer (some ⟨g, 0, none⟩), .agg #[.bool true, .int .i64 seq, .int .u64 (bits : Int), .slice A n c]] w (GivesPuTk g gt v s [] Xt Xl w) := by
  have T0 := (Below.refl _ w).alloc (Nat.le_refl _) (.cells #[.bool true, .int .i64 seq, .int .u64 (bits : Int), .slice A n c] 38)
  have n0 := heap_alloc_new w (.cells #[.bool true, .int .i64 seq, .int .u64 (bits : Int), .slice A n c] 38)
  have R0 := h.below T0
  obtain ⟨⟨c1, c2, _⟩, _, c8, c9, _, _⟩ := R0.cells
  obtain ⟨⟨p0, p1, p2, _⟩, _⟩ := row4 n0
  have HR := Lib.hid R0
  have HT0 := Lib.hid T0
  have hw := hok.1.1
  have hwr : IntKind.i64.wrap (s.c.w + 1) = s.c.w + 1 := IntWalk.i64_in _ (by omega)
  unfold puNear at hq
  cases hn : rgNear s.base (s.c.w + 1) seq s.c.m with
  | none =>
    have HNR := Lib.hid (fun W => (rrnear_any s.base (s.c.w + 1) seq s.c.m W).mono (fun _ _ h => And.intro h.1 h.2.symm))
    rw [hn] at HNR
    have HNR : Hid (∀ W, Calls Try.prog 38 #[.int .i64 (s.base : Int), .int .i64 (s.c.w + 1), .int .i64 seq, .int .i64 s.c.m] W fun e w' => e = .returned (.tuple #[.int .i64 0, .bool false]) ∧ w' = W) := HNR.out
    clear h hok hq hn T0 n0 R0
    go_enter Try.func17, Try.ntmps17
    go_wp2_with (fail)
    generalize w.alloc (.cells #[.bool true, .int .i64 seq, .int .u64 (bits : Int), .slice A n c] 38) = W1 at *
    go_quiet ((go_at_call 38; refine Calls.quiet_of_same (HNR.out _)))
    go_wp2
    go_ret
    have B := below_drewN' (Below.refl W1.heap.size W1) nq
    exact ⟨_, Xt, rfl, Out.nil _ _ _, HR.out.below B, (Turns.of_below HT0.out).next B⟩
  | some z =>
    rw [hn] at hq
    simp only at hq
    have hz : (s.next : Int) < z := by
      by_cases e : (s.next : Int) < z
      · exact e
      · rw [if_neg e] at hq; cases hq
    have dz : decide ((s.next : Int) < z) = true := by simpa using hz
    have HNR := Lib.hid (fun W => (rrnear_any s.base (s.c.w + 1) seq s.c.m W).mono (fun _ _ h => And.intro h.1 h.2.symm))
    rw [hn] at HNR
    have HNR : Hid (∀ W, Calls Try.prog 38 #[.int .i64 (s.base : Int), .int .i64 (s.c.w + 1), .int .i64 seq, .int .i64 s.c.m] W fun e w' => e = .returned (.tuple #[.int .i64 z, .bool true]) ∧ w' = W) := HNR.out
    clear h hok hq hn T0 n0 R0 hz
    go_enter Try.func17, Try.ntmps17
    go_wp2_with (fail)
    generalize w.alloc (.cells #[.bool true, .int .i64 seq, .int .u64 (bits : Int), .slice A n c] 38) = W1 at *
    go_quiet ((go_at_call 38; refine Calls.quiet_of_same (HNR.out _)))
    go_wp2
    go_ret
    have B := below_drewN' (Below.refl W1.heap.size W1) nq
    exact ⟨_, Xt, rfl, Out.nil _ _ _, HR.out.below B, (Turns.of_below HT0.out).next B⟩
set_option maxHeartbeats 16000000 in
theorem rptake_some (g gt : Nat) (v : Value) (s : Pus) (Xt Xl : Nat → Prop) (seq : Int) (bits : Nat) (A : Option Addr) (n c : Nat) (w : World) (h : RPv g gt v s Xt Xl w) (hok : PsOk s) (hb : s.ls.length < 100000) (hbits : bits < 18446744073709551616) (q : Nat) (hq : puNear s seq = some q) :
    Calls Try.prog 17 #[.pointer (some ⟨g, 0, none⟩), .agg #[.bool true, .int .i64 seq, .int .u64 (bits : Int), .slice A n c]] w (GivesPuTk g gt v (puOn (puAck s q bits)) (puOnL (puAck s q bits)) Xt Xl w) := by
  have T0 := (Below.refl _ w).alloc (Nat.le_refl _) (.cells #[.bool true, .int .i64 seq, .int .u64 (bits : Int), .slice A n c] 38)
  have n0 := heap_alloc_new w (.cells #[.bool true, .int .i64 seq, .int .u64 (bits : Int), .slice A n c] 38)
  have R0 := h.below T0
  obtain ⟨⟨c1, c2, _⟩, _, c8, c9, _, _⟩ := R0.cells
  obtain ⟨⟨p0, p1, p2, _⟩, _⟩ := row4 n0
  have HR := Lib.hid R0
  have HT0 := Lib.hid T0
  have hw := hok.1.1
  have hbl := hok.2.1
  have hwr : IntKind.i64.wrap (s.c.w + 1) = s.c.w + 1 := IntWalk.i64_in _ (by omega)
  obtain ⟨hbq, hqn, hrg⟩ := puNear_some hq
  have dz : decide ((s.next : Int) < (q : Int)) = false := by simp; omega
  have dz' : decide (s.next < q) = false := by simp; omega
  have HNR := Lib.hid (fun W => (rrnear_any s.base (s.c.w + 1) seq s.c.m W).mono (fun _ _ h => And.intro h.1 h.2.symm))
  rw [hrg] at HNR
  have HNR : Hid (∀ W, Calls Try.prog 38 #[.int .i64 (s.base : Int), .int .i64 (s.c.w + 1), .int .i64 seq, .int .i64 s.c.m] W fun e w' => e = .returned (.tuple #[.int .i64 (q : Int), .bool true]) ∧ w' = W) := HNR.out
  have HACK := Lib.hid (hok.ack q bits hbq hqn (by omega))
  have hcl := puClr_keys (most := s.c.b) (q - s.base) s.base s.tm hok.2.2.2.2.1
  have hkp := puKeep_keys q s.next hcl.1 (by omega)
  have HTL := Lib.hid hok.tlen
  have HCL := Lib.hid hcl
  have HKP := Lib.hid hkp
  have hpl : w.heap.size < (w.alloc (.cells #[.bool true, .int .i64 seq, .int .u64 (bits : Int), .slice A n c] 38)).heap.size := by simp
  have hpx : ¬ Tri g Xt Xl w.heap.size := fun e => by have := h.lt _ e; omega
  generalize hW1 : w.alloc (.cells #[.bool true, .int .i64 seq, .int .u64 (bits : Int), .slice A n c] 38) = W1 at *
  have HPB : Hid (∀ wr X', Turns (Tri g Xt Xl) X' W1 wr → wr.cell? ⟨w.heap.size, 2, none⟩ = some (.int .u64 (bits : Int))) := fun wr X' t => (t.off.cell (p := ⟨w.heap.size, 2, none⟩) hpl hpx).trans p2
  have HW1 := Lib.hid hW1
  clear h hok hq hrg T0 n0 R0 hcl hkp
  go_enter Try.func17, Try.ntmps17
  go_wp2_with (fail)
  clear hW1
  go_quiet ((go_at_call 38; refine Calls.quiet_of_same (HNR.out _)))
  go_wp2_with (fail)
  have B := below_drewN' (Below.refl W1.heap.size W1) nq
  have HR1 := Lib.hid (HR.out.below B)
  have HT1 : Hid (Turns (Tri g Xt Xl) (Tri g Xt Xl) W1 (W1.drewN nq)) := Turns.of_below B
  generalize W1.drewN nq = W2 at *
  clear c1 c2 c8 c9 p0 p1 p2
  go_loopw [7] (fun i wr => ∃ (k j : Nat) (Xt' : Nat → Prop), k ≤ q ∧ i = .int .i64 (k : Int) ∧ Hid (k = s.base + j) ∧ Hid (RPv g gt v { s with tm := puClr j s.base s.tm } Xt' Xl wr) ∧ Hid (Turns (Tri g Xt Xl) (Tri g Xt' Xl) W1 wr)) (fun i _ => q - (intOf i).toNat)
  case atStart => exact ⟨s.base, 0, Xt, hbq, rfl, rfl, HR1, HT1⟩
  case round =>
    obtain ⟨k, j, Xt', hk, rfl, HKJ, HRR, HTT⟩ := hrel
    obtain ⟨-, -, -, g9, g10, -⟩ := HRR.out.cells
    by_cases hlt : k < q
    · have d0 : decide ((k : Int) < (q : Int)) = true := by simp; omega
      have HC := Lib.hid (rtclear_any gt s.c.b (puClr j s.base s.tm) (k : Int) wr Xt' HRR.out.2.1)
      go_wp2_with (fail)
      refine HC.out.mono ?_
      rintro e w3 ⟨rfl, Xt2, q3, t3⟩
      have HR3 := Lib.hid (HRR.out.t q3 t3)
      have HE3 : Hid (puClr (j + 1) s.base s.tm = tmClear (puClr j s.base s.tm) (k : Int)) := by show _ = _; rw [HKJ.out]; exact puClr_succ _ _ _
      clear q3 t3 g9 g10
      go_wp2
      go_roundw
      case rel => exact ⟨k + 1, j + 1, Xt2, by omega, by go_num, by show k + 1 = _; have := HKJ.out; omega, by rw [HE3.out]; exact HR3.out.1, HTT.out.trans HR3.out.2⟩
      case measure => simp [intOf]; omega
    · have d0 : decide ((k : Int) < (q : Int)) = false := by simp; omega
      obtain rfl : k = q := by omega
      have hj : j = k - s.base := by have := HKJ.out; omega
      subst hj
      have HR4 := Lib.hid (HRR.out.c (s' := { s with tm := puClr (k - s.base) s.base s.tm, base := k }) 8 (.int .i64 (k : Int)) rfl rfl rfl rfl)
      have gf8 := HRR.out.cells.2.2.2.2.2 8
      have g8 := HRR.out.cells.2.2.1
      have HPA : Hid (puAck s k bits = { s with base := k, tm := puBits k s.next bits 64 (puKeep k s.next (puClr (k - s.base) s.base s.tm)) }) := rfl
      have HT4 := Lib.hid (HTT.out.trans HR4.out.2)
      clear HTT g9 HKJ
      generalize puClr (k - s.base) s.base s.tm = tm1 at *
      have HAT := Lib.hid (rtat_any gt s.c.b tm1 (k : Int) _ Xt' HR4.out.1.2.1)
      go_wp2_with (fail)
      generalize wr.setCell ⟨g, 8, none⟩ (.int .i64 (k : Int)) = w4 at *
      refine HAT.out.mono ?_
      rintro e w5 ⟨rfl, T5⟩
      have HR5 := Lib.hid (HR4.out.1.below T5)
      have HT5 := Lib.hid (HT4.out.next T5)
      obtain ⟨-, -, -, g9, g10, -⟩ := HR5.out.cells
      have g9 : w5.cell? ⟨g, 9, none⟩ = some (.int .i64 (s.next : Int)) := g9
      clear HR4 HT4 T5 HAT g8 gf8
      cases his : tmIs tm1 (k : Int) with
      | true =>
        have dk0 : decide (k < s.next) = decide (k < s.next) := rfl
        clear dk0
        have HKT : Hid (puKeep k s.next tm1 = tm1) := by show _ = _; unfold puKeep; rw [if_neg (by rw [his]; simp)]
        have HR6 : Hid (RPv g gt v { s with base := k, tm := tm1 } Xt' Xl w5) := HR5.out
        have HT6 := HT5
        clear HR5 HT5 his
        have HPB6 := Lib.hid (HPB.out _ _ HT6.out)
        have hpb6 := HPB6.out
        go_wp2_with (fail)
        clear g9 g10
        have hk64 : k ≤ 100000 := by omega
        go_loopw [10, 11] (fun vb i wr => ∃ (j b : Nat) (Xt' : Nat → Prop), j ≤ 64 ∧ i = .int .i64 (j : Int) ∧ vb = .int .u64 (b : Int) ∧ Hid (b = bits / 2 ^ j) ∧ Hid (RPv g gt v { s with base := k, tm := puBits k s.next bits j tm1 } Xt' Xl wr) ∧ Hid (Turns (Tri g Xt Xl) (Tri g Xt' Xl) W1 wr)) (fun _ i _ => 64 - (intOf i).toNat)
        case atStart => exact ⟨0, bits, Xt', by omega, rfl, rfl, by show bits = _; simp, HR6, HT6⟩
        case round =>
          obtain ⟨j, b, Xt7, hj, rfl, rfl, HBJ, HR7, HT7⟩ := hrel
          obtain ⟨-, -, -, g9, g10, -⟩ := HR7.out.cells
          have g9 : wr.cell? ⟨g, 9, none⟩ = some (.int .i64 (s.next : Int)) := g9
          by_cases hlt : j < 64
          · have d0 : decide ((j : Int) < 64) = true := by simp; omega
            have d0' : decide (j < 64) = true := by simp; omega
            have hb3 : (b : Int) / 2 = ((b / 2 : Nat) : Int) := by omega
            have hb4 : (b : Int).tdiv 2 = ((b / 2 : Nat) : Int) := by rw [Int.tdiv_eq_ediv_of_nonneg (by omega)]; omega
            have HB2 : Hid (b / 2 = bits / 2 ^ (j + 1)) := by show _ = _; rw [HBJ.out, Nat.div_div_eq_div_mul, Nat.pow_succ]
            have HST : Hid (puBits k s.next bits (j + 1) tm1 = if b % 2 = 1 ∧ 0 < j ∧ k + j < s.next then tmClear (puBits k s.next bits j tm1) ((k + j : Nat) : Int) else puBits k s.next bits j tm1) := by
              show puBit k s.next bits (puBits k s.next bits j tm1) j = _
              unfold puBit
              rw [← HBJ.out]
            have hbb : b < 18446744073709551616 := by rw [HBJ.out]; exact Nat.lt_of_le_of_lt (Nat.div_le_self _ _) hbits
            have hwr2 : IntKind.i64.wrap ((k : Int) + (j : Int)) = (k : Int) + (j : Int) := IntWalk.i64_in _ (by omega)
            have hwb : IntKind.u64.wrap ((b / 2 : Nat) : Int) = ((b / 2 : Nat) : Int) := IntWalk.u64_in _ (by omega)
            by_cases hbit : b % 2 = 1
            · have hb1 : (b : Int) % 2 = 1 := by omega
              have hb2 : (b : Int).tmod 2 = 1 := by rw [Int.tmod_eq_emod_of_nonneg (by omega)]; omega
              by_cases hj0 : 0 < j
              · have dj : decide ((0 : Int) < (j : Int)) = true := by simp; omega
                have dj' : decide (0 < j) = true := by simp; omega
                by_cases hkj : k + j < s.next
                · have dkj : decide ((k : Int) + (j : Int) < (s.next : Int)) = true := by simp; omega
                  have HNX : Hid (puBits k s.next bits (j + 1) tm1 = tmClear (puBits k s.next bits j tm1) ((k + j : Nat) : Int)) := by show _ = _; rw [HST.out, if_pos ⟨hbit, hj0, hkj⟩]
                  have HC := Lib.hid (rtclear_any gt s.c.b (puBits k s.next bits j tm1) ((k : Int) + (j : Int)) wr Xt7 HR7.out.2.1)
                  generalize b / 2 = b' at *
                  clear HST hbit hj0 hkj hbb HBJ
                  go_wp2_with (fail)
                  refine HC.out.mono ?_
                  rintro e w8 ⟨rfl, Xt8, q8, t8⟩
                  have hr8 := HR7.out.t q8 t8
                  have HR8 : Hid (RPv g gt v { s with base := k, tm := tmClear (puBits k s.next bits j tm1) ((k + j : Nat) : Int) } Xt8 Xl w8) := hr8.1
                  have HT8 := Lib.hid (HT7.out.trans hr8.2)
                  clear q8 t8 hr8 g9 g10
                  go_wp2
                  go_roundw
                  case rel => exact ⟨j + 1, b', Xt8, by omega, by go_num, rfl, HB2.out, by rw [HNX.out]; exact HR8.out, HT8.out⟩
                  case measure => simp [intOf]; omega
                · have dkj : decide ((k : Int) + (j : Int) < (s.next : Int)) = false := by simp; omega
                  have HNX : Hid (puBits k s.next bits (j + 1) tm1 = puBits k s.next bits j tm1) := by show _ = _; rw [HST.out, if_neg (fun e => hkj e.2.2)]
                  generalize b / 2 = b' at *
                  clear HST hbit hj0 hkj hbb HBJ
                  go_wp2
                  go_roundw
                  case rel => exact ⟨j + 1, b', Xt7, by omega, by go_num, rfl, HB2.out, by rw [HNX.out]; exact HR7.out, HT7.out⟩
                  case measure => simp [intOf]; omega
              · have dj : decide ((0 : Int) < (j : Int)) = false := by simp; omega
                have dj' : decide (0 < j) = false := by simp; omega
                have HNX : Hid (puBits k s.next bits (j + 1) tm1 = puBits k s.next bits j tm1) := by show _ = _; rw [HST.out, if_neg (fun e => hj0 e.2.1)]
                generalize b / 2 = b' at *
                clear HST hbit hj0 hbb HBJ
                go_wp2
                go_roundw
                case rel => exact ⟨j + 1, b', Xt7, by omega, by go_num, rfl, HB2.out, by rw [HNX.out]; exact HR7.out, HT7.out⟩
                case measure => simp [intOf]; omega
            · have hb1 : (b : Int) % 2 = 0 := by omega
              have hb2 : (b : Int).tmod 2 = 0 := by rw [Int.tmod_eq_emod_of_nonneg (by omega)]; omega
              have HNX : Hid (puBits k s.next bits (j + 1) tm1 = puBits k s.next bits j tm1) := by show _ = _; rw [HST.out, if_neg (fun e => hbit e.1)]
              generalize b / 2 = b' at *
              clear HST hbit hbb HBJ
              go_wp2
              go_roundw
              case rel => exact ⟨j + 1, b', Xt7, by omega, by go_num, rfl, HB2.out, by rw [HNX.out]; exact HR7.out, HT7.out⟩
              case measure => simp [intOf]; omega
          · have d0 : decide ((j : Int) < 64) = false := by simp; omega
            have d0' : decide (j < 64) = false := by simp; omega
            obtain rfl : j = 64 := by omega
            have HR8 : Hid (RPv g gt v (puAck s k bits) Xt7 Xl wr) := by rw [HPA.out, HKT.out]; exact HR7.out
            have HON := Lib.hid (rpon_any g gt v (puAck s k bits) Xt7 Xl wr HR8.out HACK.out (by show s.ls.length ≤ _; omega))
            clear g9 g10
            go_wp2_with (fail)
            refine HON.out.mono ?_
            rintro e w9 ⟨vo, Xt9, rfl, hO9, hR9, t9⟩
            have HE9 := Lib.hid (And.intro hO9 (And.intro hR9 t9))
            clear hO9 hR9 t9
            go_wp2
            go_ret
            have hT := HT7.out.trans HE9.out.2.2
            exact ⟨vo, Xt9, rfl, HE9.out.1.base (Nat.le_trans HT0.out.size HT7.out.off.size), HE9.out.2.1, ⟨(Off.of_below HT0.out).trans hT.off, fun i hi => (hT.grow i hi).imp id (fun h => Nat.le_trans HT0.out.size h)⟩⟩
      | false =>
        by_cases hkn : k < s.next
        · have dk : decide ((k : Int) < (s.next : Int)) = true := by simp; omega
          have dk' : decide (k < s.next) = true := by simp; omega
          have HKT : Hid (puKeep k s.next tm1 = tmSet tm1 (k : Int)) := by show _ = _; unfold puKeep; rw [if_pos ⟨his, hkn⟩]
          have HSET := Lib.hid (rtset_any gt s.c.b tm1 (k : Int) w5 Xt' HR5.out.2.1 ⟨by omega, by omega⟩ (by have := HCL.out.2.2; have := HTL.out; omega))
          clear his hkn
          go_wp2_with (fail)
          refine HSET.out.mono ?_
          rintro e w6 ⟨rfl, Xt6, q6, t6⟩
          have hr6 := HR5.out.t q6 t6
          have HR6 : Hid (RPv g gt v { s with base := k, tm := tmSet tm1 (k : Int) } Xt6 Xl w6) := hr6.1
          have HT6 := Lib.hid (HT5.out.trans hr6.2)
          clear q6 t6 hr6 HR5 HT5
          generalize tmSet tm1 (k : Int) = tm3 at *
          have HPB6 := Lib.hid (HPB.out _ _ HT6.out)
          have hpb6 := HPB6.out
          go_wp2_with (fail)
          clear g9 g10
          have hk64 : k ≤ 100000 := by omega
          go_loopw [10, 11] (fun vb i wr => ∃ (j b : Nat) (Xt' : Nat → Prop), j ≤ 64 ∧ i = .int .i64 (j : Int) ∧ vb = .int .u64 (b : Int) ∧ Hid (b = bits / 2 ^ j) ∧ Hid (RPv g gt v { s with base := k, tm := puBits k s.next bits j tm3 } Xt' Xl wr) ∧ Hid (Turns (Tri g Xt Xl) (Tri g Xt' Xl) W1 wr)) (fun _ i _ => 64 - (intOf i).toNat)
          case atStart => exact ⟨0, bits, Xt6, by omega, rfl, rfl, by show bits = _; simp, HR6, HT6⟩
          case round =>
            obtain ⟨j, b, Xt7, hj, rfl, rfl, HBJ, HR7, HT7⟩ := hrel
            obtain ⟨-, -, -, g9, g10, -⟩ := HR7.out.cells
            have g9 : wr.cell? ⟨g, 9, none⟩ = some (.int .i64 (s.next : Int)) := g9
            by_cases hlt : j < 64
            · have d0 : decide ((j : Int) < 64) = true := by simp; omega
              have d0' : decide (j < 64) = true := by simp; omega
              have hb3 : (b : Int) / 2 = ((b / 2 : Nat) : Int) := by omega
              have hb4 : (b : Int).tdiv 2 = ((b / 2 : Nat) : Int) := by rw [Int.tdiv_eq_ediv_of_nonneg (by omega)]; omega
              have HB2 : Hid (b / 2 = bits / 2 ^ (j + 1)) := by show _ = _; rw [HBJ.out, Nat.div_div_eq_div_mul, Nat.pow_succ]
              have HST : Hid (puBits k s.next bits (j + 1) tm3 = if b % 2 = 1 ∧ 0 < j ∧ k + j < s.next then tmClear (puBits k s.next bits j tm3) ((k + j : Nat) : Int) else puBits k s.next bits j tm3) := by
                show puBit k s.next bits (puBits k s.next bits j tm3) j = _
                unfold puBit
                rw [← HBJ.out]
              have hbb : b < 18446744073709551616 := by rw [HBJ.out]; exact Nat.lt_of_le_of_lt (Nat.div_le_self _ _) hbits
              have hwr2 : IntKind.i64.wrap ((k : Int) + (j : Int)) = (k : Int) + (j : Int) := IntWalk.i64_in _ (by omega)
              have hwb : IntKind.u64.wrap ((b / 2 : Nat) : Int) = ((b / 2 : Nat) : Int) := IntWalk.u64_in _ (by omega)
              by_cases hbit : b % 2 = 1
              · have hb1 : (b : Int) % 2 = 1 := by omega
                have hb2 : (b : Int).tmod 2 = 1 := by rw [Int.tmod_eq_emod_of_nonneg (by omega)]; omega
                by_cases hj0 : 0 < j
                · have dj : decide ((0 : Int) < (j : Int)) = true := by simp; omega
                  have dj' : decide (0 < j) = true := by simp; omega
                  by_cases hkj : k + j < s.next
                  · have dkj : decide ((k : Int) + (j : Int) < (s.next : Int)) = true := by simp; omega
                    have HNX : Hid (puBits k s.next bits (j + 1) tm3 = tmClear (puBits k s.next bits j tm3) ((k + j : Nat) : Int)) := by show _ = _; rw [HST.out, if_pos ⟨hbit, hj0, hkj⟩]
                    have HC := Lib.hid (rtclear_any gt s.c.b (puBits k s.next bits j tm3) ((k : Int) + (j : Int)) wr Xt7 HR7.out.2.1)
                    generalize b / 2 = b' at *
                    clear HST hbit hj0 hkj hbb HBJ
                    go_wp2_with (fail)
                    refine HC.out.mono ?_
                    rintro e w8 ⟨rfl, Xt8, q8, t8⟩
                    have hr8 := HR7.out.t q8 t8
                    have HR8 : Hid (RPv g gt v { s with base := k, tm := tmClear (puBits k s.next bits j tm3) ((k + j : Nat) : Int) } Xt8 Xl w8) := hr8.1
                    have HT8 := Lib.hid (HT7.out.trans hr8.2)
                    clear q8 t8 hr8 g9 g10
                    go_wp2
                    go_roundw
                    case rel => exact ⟨j + 1, b', Xt8, by omega, by go_num, rfl, HB2.out, by rw [HNX.out]; exact HR8.out, HT8.out⟩
                    case measure => simp [intOf]; omega
                  · have dkj : decide ((k : Int) + (j : Int) < (s.next : Int)) = false := by simp; omega
                    have HNX : Hid (puBits k s.next bits (j + 1) tm3 = puBits k s.next bits j tm3) := by show _ = _; rw [HST.out, if_neg (fun e => hkj e.2.2)]
                    generalize b / 2 = b' at *
                    clear HST hbit hj0 hkj hbb HBJ
                    go_wp2
                    go_roundw
                    case rel => exact ⟨j + 1, b', Xt7, by omega, by go_num, rfl, HB2.out, by rw [HNX.out]; exact HR7.out, HT7.out⟩
                    case measure => simp [intOf]; omega
                · have dj : decide ((0 : Int) < (j : Int)) = false := by simp; omega
                  have dj' : decide (0 < j) = false := by simp; omega
                  have HNX : Hid (puBits k s.next bits (j + 1) tm3 = puBits k s.next bits j tm3) := by show _ = _; rw [HST.out, if_neg (fun e => hj0 e.2.1)]
                  generalize b / 2 = b' at *
                  clear HST hbit hj0 hbb HBJ
                  go_wp2
                  go_roundw
                  case rel => exact ⟨j + 1, b', Xt7, by omega, by go_num, rfl, HB2.out, by rw [HNX.out]; exact HR7.out, HT7.out⟩
                  case measure => simp [intOf]; omega
              · have hb1 : (b : Int) % 2 = 0 := by omega
                have hb2 : (b : Int).tmod 2 = 0 := by rw [Int.tmod_eq_emod_of_nonneg (by omega)]; omega
                have HNX : Hid (puBits k s.next bits (j + 1) tm3 = puBits k s.next bits j tm3) := by show _ = _; rw [HST.out, if_neg (fun e => hbit e.1)]
                generalize b / 2 = b' at *
                clear HST hbit hbb HBJ
                go_wp2
                go_roundw
                case rel => exact ⟨j + 1, b', Xt7, by omega, by go_num, rfl, HB2.out, by rw [HNX.out]; exact HR7.out, HT7.out⟩
                case measure => simp [intOf]; omega
            · have d0 : decide ((j : Int) < 64) = false := by simp; omega
              have d0' : decide (j < 64) = false := by simp; omega
              obtain rfl : j = 64 := by omega
              have HR8 : Hid (RPv g gt v (puAck s k bits) Xt7 Xl wr) := by rw [HPA.out, HKT.out]; exact HR7.out
              have HON := Lib.hid (rpon_any g gt v (puAck s k bits) Xt7 Xl wr HR8.out HACK.out (by show s.ls.length ≤ _; omega))
              clear g9 g10
              go_wp2_with (fail)
              refine HON.out.mono ?_
              rintro e w9 ⟨vo, Xt9, rfl, hO9, hR9, t9⟩
              have HE9 := Lib.hid (And.intro hO9 (And.intro hR9 t9))
              clear hO9 hR9 t9
              go_wp2
              go_ret
              have hT := HT7.out.trans HE9.out.2.2
              exact ⟨vo, Xt9, rfl, HE9.out.1.base (Nat.le_trans HT0.out.size HT7.out.off.size), HE9.out.2.1, ⟨(Off.of_below HT0.out).trans hT.off, fun i hi => (hT.grow i hi).imp id (fun h => Nat.le_trans HT0.out.size h)⟩⟩
        · have dk : decide ((k : Int) < (s.next : Int)) = false := by simp; omega
          have dk' : decide (k < s.next) = false := by simp; omega
          have HKT : Hid (puKeep k s.next tm1 = tm1) := by show _ = _; unfold puKeep; rw [if_neg (fun e => hkn e.2)]
          have HR6 : Hid (RPv g gt v { s with base := k, tm := tm1 } Xt' Xl w5) := HR5.out
          have HT6 := HT5
          clear HR5 HT5 his hkn
          have HPB6 := Lib.hid (HPB.out _ _ HT6.out)
          have hpb6 := HPB6.out
          go_wp2_with (fail)
          clear g9 g10
          have hk64 : k ≤ 100000 := by omega
          go_loopw [10, 11] (fun vb i wr => ∃ (j b : Nat) (Xt' : Nat → Prop), j ≤ 64 ∧ i = .int .i64 (j : Int) ∧ vb = .int .u64 (b : Int) ∧ Hid (b = bits / 2 ^ j) ∧ Hid (RPv g gt v { s with base := k, tm := puBits k s.next bits j tm1 } Xt' Xl wr) ∧ Hid (Turns (Tri g Xt Xl) (Tri g Xt' Xl) W1 wr)) (fun _ i _ => 64 - (intOf i).toNat)
          case atStart => exact ⟨0, bits, Xt', by omega, rfl, rfl, by show bits = _; simp, HR6, HT6⟩
          case round =>
            obtain ⟨j, b, Xt7, hj, rfl, rfl, HBJ, HR7, HT7⟩ := hrel
            obtain ⟨-, -, -, g9, g10, -⟩ := HR7.out.cells
            have g9 : wr.cell? ⟨g, 9, none⟩ = some (.int .i64 (s.next : Int)) := g9
            by_cases hlt : j < 64
            · have d0 : decide ((j : Int) < 64) = true := by simp; omega
              have d0' : decide (j < 64) = true := by simp; omega
              have hb3 : (b : Int) / 2 = ((b / 2 : Nat) : Int) := by omega
              have hb4 : (b : Int).tdiv 2 = ((b / 2 : Nat) : Int) := by rw [Int.tdiv_eq_ediv_of_nonneg (by omega)]; omega
              have HB2 : Hid (b / 2 = bits / 2 ^ (j + 1)) := by show _ = _; rw [HBJ.out, Nat.div_div_eq_div_mul, Nat.pow_succ]
              have HST : Hid (puBits k s.next bits (j + 1) tm1 = if b % 2 = 1 ∧ 0 < j ∧ k + j < s.next then tmClear (puBits k s.next bits j tm1) ((k + j : Nat) : Int) else puBits k s.next bits j tm1) := by
                show puBit k s.next bits (puBits k s.next bits j tm1) j = _
                unfold puBit
                rw [← HBJ.out]
              have hbb : b < 18446744073709551616 := by rw [HBJ.out]; exact Nat.lt_of_le_of_lt (Nat.div_le_self _ _) hbits
              have hwr2 : IntKind.i64.wrap ((k : Int) + (j : Int)) = (k : Int) + (j : Int) := IntWalk.i64_in _ (by omega)
              have hwb : IntKind.u64.wrap ((b / 2 : Nat) : Int) = ((b / 2 : Nat) : Int) := IntWalk.u64_in _ (by omega)
              by_cases hbit : b % 2 = 1
              · have hb1 : (b : Int) % 2 = 1 := by omega
                have hb2 : (b : Int).tmod 2 = 1 := by rw [Int.tmod_eq_emod_of_nonneg (by omega)]; omega
                by_cases hj0 : 0 < j
                · have dj : decide ((0 : Int) < (j : Int)) = true := by simp; omega
                  have dj' : decide (0 < j) = true := by simp; omega
                  by_cases hkj : k + j < s.next
                  · have dkj : decide ((k : Int) + (j : Int) < (s.next : Int)) = true := by simp; omega
                    have HNX : Hid (puBits k s.next bits (j + 1) tm1 = tmClear (puBits k s.next bits j tm1) ((k + j : Nat) : Int)) := by show _ = _; rw [HST.out, if_pos ⟨hbit, hj0, hkj⟩]
                    have HC := Lib.hid (rtclear_any gt s.c.b (puBits k s.next bits j tm1) ((k : Int) + (j : Int)) wr Xt7 HR7.out.2.1)
                    generalize b / 2 = b' at *
                    clear HST hbit hj0 hkj hbb HBJ
                    go_wp2_with (fail)
                    refine HC.out.mono ?_
                    rintro e w8 ⟨rfl, Xt8, q8, t8⟩
                    have hr8 := HR7.out.t q8 t8
                    have HR8 : Hid (RPv g gt v { s with base := k, tm := tmClear (puBits k s.next bits j tm1) ((k + j : Nat) : Int) } Xt8 Xl w8) := hr8.1
                    have HT8 := Lib.hid (HT7.out.trans hr8.2)
                    clear q8 t8 hr8 g9 g10
                    go_wp2
                    go_roundw
                    case rel => exact ⟨j + 1, b', Xt8, by omega, by go_num, rfl, HB2.out, by rw [HNX.out]; exact HR8.out, HT8.out⟩
                    case measure => simp [intOf]; omega
                  · have dkj : decide ((k : Int) + (j : Int) < (s.next : Int)) = false := by simp; omega
                    have HNX : Hid (puBits k s.next bits (j + 1) tm1 = puBits k s.next bits j tm1) := by show _ = _; rw [HST.out, if_neg (fun e => hkj e.2.2)]
                    generalize b / 2 = b' at *
                    clear HST hbit hj0 hkj hbb HBJ
                    go_wp2
                    go_roundw
                    case rel => exact ⟨j + 1, b', Xt7, by omega, by go_num, rfl, HB2.out, by rw [HNX.out]; exact HR7.out, HT7.out⟩
                    case measure => simp [intOf]; omega
                · have dj : decide ((0 : Int) < (j : Int)) = false := by simp; omega
                  have dj' : decide (0 < j) = false := by simp; omega
                  have HNX : Hid (puBits k s.next bits (j + 1) tm1 = puBits k s.next bits j tm1) := by show _ = _; rw [HST.out, if_neg (fun e => hj0 e.2.1)]
                  generalize b / 2 = b' at *
                  clear HST hbit hj0 hbb HBJ
                  go_wp2
                  go_roundw
                  case rel => exact ⟨j + 1, b', Xt7, by omega, by go_num, rfl, HB2.out, by rw [HNX.out]; exact HR7.out, HT7.out⟩
                  case measure => simp [intOf]; omega
              · have hb1 : (b : Int) % 2 = 0 := by omega
                have hb2 : (b : Int).tmod 2 = 0 := by rw [Int.tmod_eq_emod_of_nonneg (by omega)]; omega
                have HNX : Hid (puBits k s.next bits (j + 1) tm1 = puBits k s.next bits j tm1) := by show _ = _; rw [HST.out, if_neg (fun e => hbit e.1)]
                generalize b / 2 = b' at *
                clear HST hbit hbb HBJ
                go_wp2
                go_roundw
                case rel => exact ⟨j + 1, b', Xt7, by omega, by go_num, rfl, HB2.out, by rw [HNX.out]; exact HR7.out, HT7.out⟩
                case measure => simp [intOf]; omega
            · have d0 : decide ((j : Int) < 64) = false := by simp; omega
              have d0' : decide (j < 64) = false := by simp; omega
              obtain rfl : j = 64 := by omega
              have HR8 : Hid (RPv g gt v (puAck s k bits) Xt7 Xl wr) := by rw [HPA.out, HKT.out]; exact HR7.out
              have HON := Lib.hid (rpon_any g gt v (puAck s k bits) Xt7 Xl wr HR8.out HACK.out (by show s.ls.length ≤ _; omega))
              clear g9 g10
              go_wp2_with (fail)
              refine HON.out.mono ?_
              rintro e w9 ⟨vo, Xt9, rfl, hO9, hR9, t9⟩
              have HE9 := Lib.hid (And.intro hO9 (And.intro hR9 t9))
              clear hO9 hR9 t9
              go_wp2
              go_ret
              have hT := HT7.out.trans HE9.out.2.2
              exact ⟨vo, Xt9, rfl, HE9.out.1.base (Nat.le_trans HT0.out.size HT7.out.off.size), HE9.out.2.1, ⟨(Off.of_below HT0.out).trans hT.off, fun i hi => (hT.grow i hi).imp id (fun h => Nat.le_trans HT0.out.size h)⟩⟩
end Go.Proofs.Ytncpabnmdofomaa
