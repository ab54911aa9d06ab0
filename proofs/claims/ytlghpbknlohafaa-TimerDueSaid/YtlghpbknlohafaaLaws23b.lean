/- The walk of layer 23's TimerDue, over the contracts of timer. -/
import Derived.Test.YtlghpbknlohafaaLaws23
namespace Go.Proofs.Ytlghpbknlohafaa
open Go.RowKit
set_option maxRecDepth 20000
theorem mem_one {most : Int} {l : List Tmr} (h : TmOk most l) {a b : Tmr} (ha : a ∈ l) (hb : b ∈ l) (e : a.1 = b.1) : a = b := by
  obtain ⟨i, hi, rfl⟩ := List.mem_iff_getElem.1 ha
  obtain ⟨j, hj, rfl⟩ := List.mem_iff_getElem.1 hb
  rcases Nat.lt_trichotomy i j with h3 | h3 | h3
  · have := key_at h i j hi hj h3; omega
  · subst h3; rfl
  · have := key_at h j i hj hi h3; omega
theorem mem_cut {l : List Tmr} {t : Tmr} (ht : t ∈ l) (key : Int) (hne : t.1 ≠ key) : t ∈ l.take (tmAt l key) ∨ t ∈ l.drop (if tmIs l key then tmAt l key + 1 else tmAt l key) := by
  rw [← List.take_append_drop (tmAt l key) l] at ht
  rcases List.mem_append.1 ht with h | h
  · exact .inl h
  · refine .inr ?_
    cases hf : tmIs l key with
    | false => simpa using h
    | true =>
      have hlt := tmIs_lt l key hf
      rw [tmIs_eq l key hlt] at hf
      rw [List.drop_eq_getElem_cons hlt] at h
      rcases List.mem_cons.1 h with rfl | h
      · exact absurd (by simpa using hf) hne
      · simpa using h
theorem mem_set {l : List Tmr} {t : Tmr} (ht : t ∈ l) (key : Int) (hne : t.1 ≠ key) : t ∈ tmSet l key := by
  unfold tmSet
  rcases mem_cut ht key hne with h | h
  · exact List.mem_append_left _ (List.mem_append_left _ h)
  · exact List.mem_append_right _ h
theorem mem_clear {l : List Tmr} {t : Tmr} (ht : t ∈ l) (key : Int) (hne : t.1 ≠ key) : t ∈ tmClear l key := by
  unfold tmClear
  cases hf : tmIs l key with
  | false => simpa using ht
  | true =>
    have := mem_cut ht key hne
    rw [hf] at this
    simp only [if_true] at this ⊢
    exact List.mem_append.2 this
theorem mem_due {most : Int} {l : List Tmr} (h : TmOk most l) {key lf sp : Int} (ht : (key, lf, sp) ∈ l) : (tmDue l).any (· == key) = decide (¬ 0 < lf - 1) := by
  by_cases hl : 0 < lf - 1
  · rw [decide_eq_false (fun h' => h' hl)]
    rw [Bool.eq_false_iff]
    intro ha
    obtain ⟨x, hx, hxk⟩ := List.any_eq_true.1 ha
    unfold tmDue at hx
    obtain ⟨t, ht2, rfl⟩ := List.mem_map.1 hx
    have hm := List.mem_filter.1 ht2
    have e : t.1 = key := by simpa using hxk
    have := mem_one h hm.1 ht e
    subst this
    exact (of_decide_eq_true hm.2) hl
  · rw [decide_eq_true hl]
    refine List.any_eq_true.2 ⟨key, ?_, by simp⟩
    unfold tmDue
    exact List.mem_map.2 ⟨(key, lf, sp), List.mem_filter.2 ⟨ht, decide_eq_true hl⟩, rfl⟩
theorem mem_tick {most : Int} {l : List Tmr} {t : Tmr} (ht : t ∈ l) : tmStep most t ∈ tmTick most l := List.mem_map.2 ⟨t, ht, rfl⟩
set_option maxHeartbeats 4000000 in
theorem walk_TimerDue {T : Nat → Int → List Tmr → World → (Nat → Prop) → Prop} (C : TmC T) (r key : Int) (A : Option Addr) (n c : Nat) (l : List (Int × Int)) (w : World) (hr : I64 r) (hkI : I64 key) (hR : Recs rdAct23 2 w A n c l) :
    Calls Try.prog 4 #[.int .i64 r, .int .i64 key, .slice A n c] w fun e w' => e = .returned (.bool true) ∧ Below w.heap.size w w' := by
  have HL := Lib.hid (fun W => live23_any C W)
  have HN := Lib.hid num23_any
  have hlen := hR.1
  have hnc := hR.2.1
  have hcm := hR.2.2.1
  unfold maxLen at hcm
  have HC := Lib.hid hR.2.2.2
  have HLN := Lib.hid hlen
  clear hR hlen
  by_cases hrr : r < 1 ∨ 64 < r
  · have G1 := Lib.hid (fun W => C.new_no r W hr hrr)
    clear hrr
    go_enter Try.func4, Try.ntmps4
    go_wp2_with (fail)
    refine (G1.out _).mono ?_
    rintro e w2 ⟨rfl, T2⟩
    go_wp2_with (fail)
    refine (HN.out _ _).mono ?_
    rintro e w3 ⟨rfl, rfl⟩
    go_wp2_with (fail)
    refine (HL.out _).mono ?_
    rintro e w4 ⟨rfl, T4⟩
    have T4 := nxt T2 T4
    go_wp2
    go_ret
    exact ⟨rfl, T4⟩
  · have hr1 : 1 ≤ r := by omega
    have hr2 : r ≤ 64 := by omega
    have G1 := Lib.hid (fun W => C.new_yes r W hr1 hr2)
    have hOK0 : Hid (TmOk r []) := ⟨⟨hr1, hr2⟩, List.Pairwise.nil, fun t ht => by cases ht⟩
    generalize r = most at *
    clear hrr
    by_cases h200 : 200 < n
    · have d1 : decide ((200 : Int) < (n : Int)) = true := by simp; omega
      clear h200
      go_enter Try.func4, Try.ntmps4
      go_wp2_with (fail)
      refine (G1.out _).mono ?_
      rintro e w2 ⟨ga, X0, rfl, q2, x2, T2⟩
      clear q2 x2
      go_wp2_with (fail)
      refine (HN.out _ _).mono ?_
      rintro e w3 ⟨rfl, rfl⟩
      go_wp2_with (fail)
      refine (HL.out _).mono ?_
      rintro e w4 ⟨rfl, T4⟩
      have T4 := nxt T2 T4
      go_wp2
      go_ret
      exact ⟨rfl, T4⟩
    · have d1 : decide ((200 : Int) < (n : Int)) = false := by simp; omega
      have d1' : ¬ ((200 : Int) < (n : Int)) := by omega
      go_enter Try.func4, Try.ntmps4
      go_wp2_with (fail)
      refine (G1.out _).mono ?_
      rintro e w2 ⟨ga, X0, rfl, q2, x2, T2⟩
      have HT2 : Hid (OneAt w.heap.size (T ga most []) X0 w2) := ⟨q2, x2, T2.size⟩
      clear q2 x2
      go_wp2_with (fail)
      refine (HN.out _ _).mono ?_
      rintro e w3 ⟨rfl, rfl⟩
      have F1 := Lib.hid (C.set ga most [] key w2 X0 HT2.out.p hOK0.out hkI (by simp))
      go_wp2_with (fail)
      refine F1.out.mono ?_
      rintro e w3 ⟨rfl, X1, q3, t3⟩
      obtain ⟨k1, k2⟩ := HT2.out.turn q3 t3
      have HT3 := Lib.hid k1
      have hb3 := T2.trans k2
      have HOK3 := Lib.hid (tmSet_ok key hkI hOK0.out)
      have HM3 : Hid ((key, 1, 1) ∈ tmSet [] key) := by show _ ∈ _; simp [tmSet, tmAt, tmIs]
      have hl3 : (tmSet [] key).length ≤ 1 := tmSet_len [] key
      clear k1 k2 q3 t3 F1 HT2 hOK0 G1
      generalize tmSet [] key = l3 at *
      go_wp2_with (fail)
      go_loopw [9, 10] (fun v i wr => ∃ (j : Nat) (wt lf sp : Int) (ls : List Tmr) (X : Nat → Prop), j ≤ n ∧ ls.length ≤ j + 1 ∧ v = .int .i64 wt ∧ i = .int .i64 (j : Int) ∧ Hid (TmOk most ls) ∧ Hid ((key, lf, sp) ∈ ls) ∧ lf ≤ wt ∧ wt ≤ 64 ∧ (j = 0 → lf = 1) ∧ Hid (OneAt w.heap.size (T ga most ls) X wr) ∧ Below w.heap.size w wr) (fun _ i _ => n - (intOf i).toNat)
      case atStart => exact ⟨0, 1, 1, 1, l3, X1, Nat.zero_le _, by omega, rfl, rfl, HOK3, HM3, by omega, by omega, fun _ => rfl, HT3, hb3⟩
      case round =>
        obtain ⟨j, wt, lf, sp, ls, X, hj, hlj, rfl, rfl, HOK, HM, hlf, hwt, hfirst, HT, hbel⟩ := hrel
        by_cases hlt : j < n
        · have d0 : (j : Int) < (n : Int) := by omega
          have hjl : j < l.length := by rw [HLN.out]; exact hlt
          obtain ⟨b, o, rfl, hb, hc⟩ := HC.out (by omega)
          obtain ⟨q0, q1, hkd, hkI2⟩ := hc j hjl
          have KC := Lib.hid (fun W (U : Below w.heap.size w W) => And.intro ((U.cell (p := ⟨b, o + j * 2, none⟩) hb).trans q0) ((U.cell (p := ⟨b, o + j * 2 + 1, none⟩) hb).trans q1))
          obtain ⟨c0, c1⟩ := KC.out _ hbel
          clear hc q0 q1
          generalize l[j] = x at *
          obtain ⟨kd, key'⟩ := x
          simp only at c0 c1 hkd hkI2 KC
          by_cases hk0 : kd = 0
          · subst hk0
            have F1 := Lib.hid (C.tick ga most ls wr X HT.out.p HOK.out (by omega))
            have hmd := mem_due HOK.out HM.out
            have hbd := HOK.out.2.2 _ HM.out
            simp only at hbd
            have HOK2 := Lib.hid (tmTick_ok HOK.out)
            have HM2 := Lib.hid (mem_tick (most := most) HM.out)
            have hl2 : (tmTick most ls).length ≤ j + 1 + 1 := by unfold tmTick; rw [List.length_map]; omega
            obtain ⟨is, his⟩ : ∃ is, decide (¬ 0 < lf - 1) = is := ⟨_, rfl⟩
            rw [his] at hmd
            obtain ⟨due, hdue⟩ : ∃ d, tmDue ls = d := ⟨_, rfl⟩
            rw [hdue] at hmd F1
            have HMD := Lib.hid hmd
            have hms : (tmStep most (key, lf, sp)).1 = key := by unfold tmStep; split <;> rfl
            have hstep : tmStep most (key, lf, sp) = (key, if is = false then (lf - 1, sp) else ((if most < 2 * sp then most else 2 * sp), (if most < 2 * sp then most else 2 * sp))) := by
              unfold tmStep
              by_cases h : 0 < lf - 1
              · have : is = false := by rw [← his]; exact decide_eq_false (fun h' => h' h)
                simp only [if_pos h, this, if_true]
              · have : is = true := by rw [← his]; exact decide_eq_true h
                simp only [if_neg h, this, Bool.true_eq_false, if_false]
            rw [hstep] at HM2
            generalize tmTick most ls = l2 at *
            clear hdue hmd hms hstep HOK HM
            go_wp2_with (fail)
            refine F1.out.mono ?_
            rintro e w1 ⟨A1, n1, c1', X2, rfl, z1, -, q1, t1⟩
            obtain ⟨k1, k2⟩ := HT.out.turn q1 t1
            have HT1 := Lib.hid k1
            have hb1 := hbel.trans k2
            have hz1 := z1.le
            have hz2 := z1.cap
            have HZN := Lib.hid z1.len
            have HZC := Lib.hid (fun hn => z1.cell hn)
            clear k1 k2 q1 t1 F1 HT z1
            go_wp2_with (fail)
            go_loopw [12, 13] (fun v i wr => ∃ q : Nat, q ≤ n1 ∧ v = .bool ((due.take q).any (· == key)) ∧ i = .int .i64 (q : Int) ∧ wr = w1) (fun _ i _ => n1 - (intOf i).toNat)
            case atStart => exact ⟨0, Nat.zero_le _, rfl, rfl, rfl⟩
            case round =>
              obtain ⟨q, hq, rfl, rfl, rfl⟩ := hrel
              by_cases hlq : q < n1
              · have d6 : (q : Int) < (n1 : Int) := by omega
                have hql : q < due.length := by rw [HZN.out]; exact hlq
                obtain ⟨b2, o2, rfl, hb2, hk2⟩ := HZC.out (by omega)
                have ck := hk2 q hql
                have htk : due.take (q + 1) = due.take q ++ [due[q]] := List.take_succ_eq_append_getElem hql
                have HTK : Hid ((due.take (q + 1)).any (· == key) = ((due.take q).any (· == key) || (due[q] == key))) := by
                  show _ = _
                  rw [htk, List.any_append]
                  simp
                clear hk2 htk
                generalize due[q] = x at *
                generalize (due.take q).any (· == key) = f at *
                cases f with
                | true =>
                  have e := HTK.out
                  rw [Bool.true_or] at e
                  have HE := Lib.hid e
                  clear HTK e
                  go_wp2_with (fail)
                  go_roundw
                  case rel => exact ⟨q + 1, by omega, by rw [HE.out], by go_num, by first | rfl | trivial⟩
                  case measure => simp [intOf]; omega
                | false =>
                  have e := HTK.out
                  rw [Bool.false_or] at e
                  have HE := Lib.hid e
                  clear HTK e
                  go_wp2_with (fail)
                  go_roundw
                  case rel => exact ⟨q + 1, by omega, by rw [HE.out]; try rfl, by go_num, by first | rfl | trivial⟩
                  case measure => simp [intOf]; omega
              · have d6 : ¬ ((q : Int) < (n1 : Int)) := by omega
                have e : due.take q = due := List.take_of_length_le (by rw [HZN.out]; omega)
                rw [e, HMD.out]
                have hw1 : IntKind.i64.wrap (wt - 1) = wt - 1 := IntWalk.i64_in _ (by omega)
                have d7 : decide (wt - 1 < 0) = false := by simp; omega
                have d7' : ¬ (wt - 1 < 0) := by omega
                clear e
                cases is with
                | true =>
                  simp only [Bool.true_eq_false, if_false] at HM2
                  have hs1 : (if most < 2 * sp then most else 2 * sp) ≤ most := by split <;> omega
                  by_cases hj0 : j = 0
                  · have e0 : ((j : Int) == 0) = true := by simp; omega
                    have e1 : (j : Int) = 0 := by omega
                    go_wp2_with (fail)
                    go_roundw
                    case rel => exact ⟨j + 1, most, _, _, l2, X2, by omega, by omega, rfl, by go_num, HOK2, HM2, hs1, by omega, fun h => absurd h (by omega), HT1, hb1⟩
                    case measure => simp [intOf]; omega
                  · have e0 : ((j : Int) == 0) = false := by simp; omega
                    have e1 : ¬ ((j : Int) = 0) := by omega
                    go_wp2_with (fail)
                    go_roundw
                    case rel => exact ⟨j + 1, most, _, _, l2, X2, by omega, by omega, rfl, by go_num, HOK2, HM2, hs1, by omega, fun h => absurd h (by omega), HT1, hb1⟩
                    case measure => simp [intOf]; omega
                | false =>
                  simp only [if_true] at HM2
                  have hlf2 : 0 < lf - 1 := by
                    have h := of_decide_eq_false his
                    omega
                  have hj0 : ((j : Int) == 0) = false := by
                    simp
                    intro h0
                    have := hfirst h0
                    omega
                  have hj0' : ¬ ((j : Int) = 0) := by
                    intro h0
                    have := hfirst (by omega)
                    omega
                  go_wp2_with (fail)
                  go_roundw
                  case rel => exact ⟨j + 1, wt - 1, lf - 1, sp, l2, X2, by omega, by omega, rfl, by go_num, HOK2, HM2, by omega, by omega, fun h => absurd h (by omega), HT1, hb1⟩
                  case measure => simp [intOf]; omega
          · have m0 : (kd != 0) = true := by simpa using hk0
            by_cases hk1 : kd = 1
            · subst hk1
              by_cases hke : key' = key
              · subst hke
                have m1 : (key' != key') = false := by simp
                go_wp2_with (fail)
                go_roundw
                case rel => exact ⟨j + 1, wt, lf, sp, ls, X, by omega, by omega, rfl, by go_num, HOK, HM, hlf, hwt, fun h => absurd h (by omega), HT, hbel⟩
                case measure => simp [intOf]; omega
              · have m1 : (key' != key) = true := by simpa using hke
                have F1 := Lib.hid (C.set ga most ls key' wr X HT.out.p HOK.out hkI2 (by omega))
                go_wp2_with (fail)
                refine F1.out.mono ?_
                rintro e w1 ⟨rfl, X2, q1, t1⟩
                obtain ⟨k1, k2⟩ := HT.out.turn q1 t1
                have HT1 := Lib.hid k1
                have hb1 := hbel.trans k2
                have HOK2 := Lib.hid (tmSet_ok key' hkI2 HOK.out)
                have HM2 := Lib.hid (mem_set HM.out key' (fun e => hke e.symm))
                have hl2 : (tmSet ls key').length ≤ j + 1 + 1 := Nat.le_trans (tmSet_len ls key') (by omega)
                obtain ⟨c0, c1⟩ := KC.out _ hb1
                clear k1 k2 q1 t1 F1 HT HOK HM
                generalize tmSet ls key' = l2 at *
                go_wp2_with (fail)
                go_roundw
                case rel => exact ⟨j + 1, wt, lf, sp, l2, X2, by omega, by omega, rfl, by go_num, HOK2, HM2, hlf, hwt, fun h => absurd h (by omega), HT1, hb1⟩
                case measure => simp [intOf]; omega
            · have m2 : (kd == 1) = false := by simpa using hk1
              by_cases hk2 : kd = 2
              · subst hk2
                by_cases hke : key' = key
                · subst hke
                  have m1 : (key' != key') = false := by simp
                  go_wp2_with (fail)
                  go_roundw
                  case rel => exact ⟨j + 1, wt, lf, sp, ls, X, by omega, by omega, rfl, by go_num, HOK, HM, hlf, hwt, fun h => absurd h (by omega), HT, hbel⟩
                  case measure => simp [intOf]; omega
                · have m1 : (key' != key) = true := by simpa using hke
                  have F1 := Lib.hid (C.clear ga most ls key' wr X HT.out.p HOK.out hkI2 (by omega))
                  go_wp2_with (fail)
                  refine F1.out.mono ?_
                  rintro e w1 ⟨rfl, X2, q1, t1⟩
                  obtain ⟨k1, k2⟩ := HT.out.turn q1 t1
                  have HT1 := Lib.hid k1
                  have hb1 := hbel.trans k2
                  have HOK2 := Lib.hid (tmClear_ok key' HOK.out)
                  have HM2 := Lib.hid (mem_clear HM.out key' (fun e => hke e.symm))
                  have hl2 : (tmClear ls key').length ≤ j + 1 + 1 := Nat.le_trans (tmClear_len ls key') (by omega)
                  obtain ⟨c0, c1⟩ := KC.out _ hb1
                  clear k1 k2 q1 t1 F1 HT HOK HM
                  generalize tmClear ls key' = l2 at *
                  go_wp2_with (fail)
                  go_roundw
                  case rel => exact ⟨j + 1, wt, lf, sp, l2, X2, by omega, by omega, rfl, by go_num, HOK2, HM2, hlf, hwt, fun h => absurd h (by omega), HT1, hb1⟩
                  case measure => simp [intOf]; omega
              · have m3 : (kd == 2) = false := by simpa using hk2
                go_wp2_with (fail)
                go_roundw
                case rel => exact ⟨j + 1, wt, lf, sp, ls, X, by omega, by omega, rfl, by go_num, HOK, HM, hlf, hwt, fun h => absurd h (by omega), HT, hbel⟩
                case measure => simp [intOf]; omega
        · have d0 : ¬ ((j : Int) < (n : Int)) := by omega
          have N1 := Lib.hid (C.nset key)
          have N2 := Lib.hid (C.nleft key)
          have N3 := Lib.hid C.ntick
          have N4 := Lib.hid (C.nclear key)
          have N5 := Lib.hid C.nkeys
          clear HT HM HOK
          go_wp2_with (fail)
          refine (N1.out _).mono ?_
          rintro e w4 ⟨rfl, T4⟩
          have T4 := nxt hbel T4
          go_wp2_with (fail)
          refine (N2.out _).mono ?_
          rintro e w5 ⟨rfl, T5⟩
          have T5 := nxt T4 T5
          go_wp2_with (fail)
          refine (N3.out _).mono ?_
          rintro e w6 ⟨A6, n6, c6, rfl, z6, T6⟩
          obtain rfl : 0 = n6 := z6.len
          have T6 := nxt T5 T6
          clear z6
          go_wp2_with (fail)
          refine (N4.out _).mono ?_
          rintro e w7 ⟨rfl, T7⟩
          have T7 := nxt T6 T7
          go_wp2_with (fail)
          refine (N5.out _).mono ?_
          rintro e w8 ⟨A8, n8, c8, rfl, z8, T8⟩
          obtain rfl : 0 = n8 := z8.len
          have T8 := nxt T7 T8
          clear z8
          go_wp2_with (fail)
          refine (HL.out _).mono ?_
          rintro e w9 ⟨rfl, T9⟩
          have T9 := nxt T8 T9
          go_wp2
          go_ret
          exact ⟨rfl, T9⟩
end Go.Proofs.Ytlghpbknlohafaa
