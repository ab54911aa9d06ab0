/- The walk of layer 23's TimerDoes, over the contracts of timer. -/
import Derived.Test.YtlghpbknlohafaaTmC
import Derived.Deep.RegionHeld3
namespace Go.Proofs.Ytlghpbknlohafaa
open Go.RowKit
set_option maxRecDepth 20000
/-- an act: its kind and its number -/
def rdAct23 (w : World) (b o : Nat) (x : Int × Int) : Prop := w.cell? ⟨b, o, none⟩ = some (.int .i64 x.1) ∧ w.cell? ⟨b, o + 1, none⟩ = some (.int .i64 x.2) ∧ I64 x.1 ∧ I64 x.2
theorem keeps23 : Keeps rdAct23 := fun _ _ b o _ hb T ⟨h1, h2, h3⟩ => ⟨(T.cell (p := ⟨b, o, none⟩) hb).trans h1, (T.cell (p := ⟨b, o + 1, none⟩) hb).trans h2, h3⟩
set_option maxHeartbeats 4000000 in
theorem walk_TimerDoes {T : Nat → Int → List Tmr → World → (Nat → Prop) → Prop} (C : TmC T) (r : Int) (A : Option Addr) (n c : Nat) (l : List (Int × Int)) (w : World) (hr : I64 r) (hR : Recs rdAct23 2 w A n c l) :
    Calls Try.prog 3 #[.int .i64 r, .slice A n c] w fun e w' => e = .returned (.bool true) ∧ Below w.heap.size w w' := by
  have HL := Lib.hid (fun W => live23_any C W)
  have HN := Lib.hid num23_any
  have hlen := hR.1
  have hnc := hR.2.1
  have hcm := hR.2.2.1
  unfold maxLen at hcm
  have HC := Lib.hid hR.2.2.2
  have HLN := Lib.hid hlen
  clear hR hlen
  by_cases h200 : 200 < n
  · have d1 : (200 : Int) < (n : Int) := by omega
    clear h200
    go_enter Try.func3, Try.ntmps3
    go_wp2_with (fail)
    refine (HL.out _).mono ?_
    rintro e w2 ⟨rfl, T2⟩
    go_wp2
    go_ret
    exact ⟨rfl, T2⟩
  · have d1 : ¬ ((200 : Int) < (n : Int)) := by omega
    by_cases hrr : r < 1 ∨ 64 < r
    · have G1 := Lib.hid (fun W => C.new_no r W hr hrr)
      have G2 := Lib.hid (fun W => rtnew_no r W hrr)
      clear hrr
      go_enter Try.func3, Try.ntmps3
      go_wp2_with (fail)
      refine (G1.out _).mono ?_
      rintro e w2 ⟨rfl, T2⟩
      go_wp2_with (fail)
      refine (G2.out _).mono ?_
      rintro e w3 ⟨rfl, rfl⟩
      go_wp2_with (fail)
      refine (HN.out _ _).mono ?_
      rintro e w3 ⟨rfl, rfl⟩
      go_wp2_with (fail)
      go_loopw [9] (fun i wr => i = .int .i64 0 ∧ Below w.heap.size w wr) (fun _ _ => 0)
      case atStart => exact ⟨rfl, T2⟩
      case round =>
        obtain ⟨rfl, hbel⟩ := hrel
        by_cases h0 : n = 0
        · have d0 : ¬ ((0 : Int) < (n : Int)) := by omega
          have d1 : decide ((0 : Int) < (n : Int)) = false := by simpa using d0
          clear h0
          go_wp2_with (fail)
          refine (HL.out _).mono ?_
          rintro e w4 ⟨rfl, T4⟩
          have T4 := nxt hbel T4
          go_wp2
          go_ret
          exact ⟨rfl, T4⟩
        · have d1 : decide ((0 : Int) < (n : Int)) = true := by simp; omega
          have d0 : (0 : Int) < (n : Int) := by omega
          clear h0
          go_wp2_with (fail)
          refine (HL.out _).mono ?_
          rintro e w4 ⟨rfl, T4⟩
          have T4 := nxt hbel T4
          go_wp2
          go_ret
          exact ⟨rfl, T4⟩
    · have hr1 : 1 ≤ r := by omega
      have hr2 : r ≤ 64 := by omega
      have G1 := Lib.hid (fun W => C.new_yes r W hr1 hr2)
      have G2 := Lib.hid (fun W => rtnew_yes r W hr1 hr2)
      have hOK0 : Hid (TmOk r []) := ⟨⟨hr1, hr2⟩, List.Pairwise.nil, fun t ht => by cases ht⟩
      generalize r = most at *
      clear hrr
      go_enter Try.func3, Try.ntmps3
      go_wp2_with (fail)
      refine (G1.out _).mono ?_
      rintro e w2 ⟨ga, X0, rfl, q2, x2, T2⟩
      have Q2 := Lib.hid q2
      clear q2
      go_wp2_with (fail)
      refine (G2.out _).mono ?_
      rintro e w3 ⟨gr, Y0, rfl, r3, y3, T3⟩
      have HTW := Lib.hid (TwoAt.mk (C.holds _ _ _) (RT.holds _ _ _) Q2.out x2 T2.size T3 r3 y3)
      have T3w := nxt T2 T3
      clear r3 x2 y3 T2 T3 Q2
      go_wp2_with (fail)
      refine (HN.out _ _).mono ?_
      rintro e w4 ⟨rfl, rfl⟩
      go_wp2_with (fail)
      go_loopw [9] (fun i wr => ∃ (j : Nat) (ls : List Tmr) (X Y : Nat → Prop), j ≤ n ∧ ls.length ≤ j ∧ i = .int .i64 (j : Int) ∧ Hid (TmOk most ls) ∧ Hid (TwoAt w.heap.size (T ga most ls) (RT gr most ls) X Y wr) ∧ Below w.heap.size w wr) (fun i _ => n - (intOf i).toNat)
      case atStart => exact ⟨0, [], X0, Y0, Nat.zero_le _, Nat.le_refl _, rfl, hOK0, HTW, T3w⟩
      case round =>
        obtain ⟨j, ls, X, Y, hj, hlj, rfl, HOK, HT, hbel⟩ := hrel
        by_cases hlt : j < n
        · have d0 : decide ((j : Int) < (n : Int)) = true := by simp; omega
          have hjl : j < l.length := by rw [HLN.out]; exact hlt
          obtain ⟨b, o, rfl, hb, hc⟩ := HC.out (by omega)
          obtain ⟨q0, q1, hkd, hkI⟩ := hc j hjl
          have c0 := (hbel.cell (p := ⟨b, o + j * 2, none⟩) hb).trans q0
          have c1 := (hbel.cell (p := ⟨b, o + j * 2 + 1, none⟩) hb).trans q1
          have hjn : (j : Int) < (n : Int) := by omega
          clear hc q0 q1
          generalize l[j] = x at *
          obtain ⟨kd, key⟩ := x
          simp only at c0 c1 hkd hkI
          by_cases hk0 : kd = 0
          · subst hk0
            have F1 := Lib.hid (C.tick ga most ls wr X HT.out.p1 HOK.out (by omega))
            go_wp2_with (fail)
            refine F1.out.mono ?_
            rintro e w1 ⟨A1, n1, c1', X2, rfl, z1, in1, q1, t1⟩
            have av1 := HT.out.told in1
            obtain ⟨k1, k2⟩ := HT.out.left (C.holds _ _ _) (RT.holds _ _ _) q1 t1
            have HT1 := Lib.hid k1
            have hb1 := hbel.trans k2
            have Z1 := Lib.hid z1
            have AV1 := Lib.hid av1
            clear k1 k2 q1 t1 in1 F1 HT z1 av1
            have F2 := Lib.hid (rttick_any gr most ls w1 Y HT1.out.p2)
            go_wp2_with (fail)
            refine F2.out.mono ?_
            rintro e w2 ⟨A2, n2, c2', rfl, z2, q2, t2⟩
            obtain ⟨k1, k2⟩ := HT1.out.right (C.holds _ _ _) (RT.holds _ _ _) q2 t2
            have HT2 := Lib.hid k1
            have hb2 := hb1.trans k2
            have F3 := Lib.hid (sameints_true A1 A2 n1 c1' n2 c2' _ w2 (Vals.off Z1.out AV1.out t2.off) z2)
            clear k1 k2 q2 t2 F2 HT1 z2 Z1 AV1
            go_wp2_with (fail)
            refine F3.out.mono ?_
            rintro e w3 ⟨rfl, T3⟩
            have HT3 := Lib.hid (HT2.out.below (C.holds _ _ _) (RT.holds _ _ _) T3)
            have hb3 := hb2.trans (T3.mono hb2.size)
            have HOK2 := Lib.hid (tmTick_ok HOK.out)
            have hl2 : (tmTick most ls).length ≤ j + 1 := by unfold tmTick; rw [List.length_map]; omega
            clear F3 HT2 HOK
            generalize tmTick most ls = l2 at *
            have F1 := Lib.hid (C.keys ga most l2 w3 X2 HT3.out.p1 HOK2.out (by omega))
            go_wp2_with (fail)
            refine F1.out.mono ?_
            rintro e w4 ⟨A4, n4, c4, rfl, z4, T4⟩
            obtain rfl : l2.length = n4 := by have := z4.len; simpa [tmKeys] using this
            have HT4 := Lib.hid (HT3.out.below (C.holds _ _ _) (RT.holds _ _ _) T4)
            have hb4 := hb3.trans (T4.mono hb3.size)
            have hc4 := z4.le
            have hcap4 := z4.cap
            obtain ⟨P, c5, cr0, cr1, kR⟩ := HT4.out.p2.cells
            have hgr := HT4.out.2.2.2.2.2.2.1 gr HT4.out.p2.1
            have hc5 := kR.2.1
            have hcap5 := kR.2.2.1
            unfold maxLen at hcap5
            have HKC := Lib.hid (fun hn => z4.cell hn)
            have HRC := Lib.hid kR.2.2.2
            obtain ⟨N, hN⟩ : ∃ N, l2.length = N := ⟨_, rfl⟩
            have HN2 := Lib.hid hN
            have HLA := Lib.hid (fun q (hq : q < l2.length) => tmLeft_at HOK2.out q hq)
            have HKB := Lib.hid (fun q (hq : q < l2.length) => (HOK2.out.2.2 _ (List.getElem_mem hq)).1)
            rw [hN] at hc4 cr1 hc5 hl2
            simp only [hN]
            have n5 : ((N : Int) != (N : Int)) = false := by simp
            clear F1 z4 HT3 kR hN T4
            go_wp2_with (fail)
            go_loopw [12] (fun i wr => ∃ q : Nat, q ≤ N ∧ i = .int .i64 (q : Int) ∧ Hid (TwoAt w.heap.size (T ga most l2) (RT gr most l2) X2 Y wr) ∧ Below w4.heap.size w4 wr) (fun i _ => N - (intOf i).toNat)
            case atStart => exact ⟨0, Nat.zero_le _, rfl, HT4, Below.refl _ _⟩
            case round =>
              obtain ⟨q, hq, rfl, HTq, hbq⟩ := hrel
              by_cases hlq : q < N
              · have d6 : (q : Int) < (N : Int) := by omega
                have hql : q < l2.length := by rw [HN2.out]; exact hlq
                obtain ⟨b2, o2, rfl, hb2, hk2⟩ := HKC.out (by omega)
                obtain ⟨b3, o3, rfl, hb3', hr3⟩ := HRC.out (by omega)
                have kq := hk2 q (by simpa [tmKeys] using hql)
                simp only [tmKeys, List.getElem_map] at kq
                have ck := (hbq.cell (p := ⟨b2, o2 + q, none⟩) hb2).trans kq
                have HLq := HLA.out q hql
                have hkb := HKB.out q hql
                have hr := hr3 q hql
                clear hk2 hr3
                generalize l2[q] = t at *
                obtain ⟨key2, left2, span2⟩ := t
                simp only at ck hkb HLq
                obtain ⟨r0, r1, r2⟩ := hr
                simp only at r0 r1 r2
                have G2 := C.left ga most l2 key2 _ X2 HTq.out.p1 HOK2.out hkb (by rw [HN2.out]; omega)
                rw [HLq] at G2
                have G2 := Lib.hid G2
                have K := Lib.hid (fun W (U : Below w4.heap.size w4 W) => And.intro ((U.cell (p := ⟨gr, 1, none⟩) hgr).trans cr1) (And.intro ((U.cell (p := ⟨b2, o2 + q, none⟩) hb2).trans kq) (And.intro ((U.cell (p := ⟨b3, o3 + q * 3, none⟩) hb3').trans r0) (And.intro ((U.cell (p := ⟨b3, o3 + q * 3 + 1, none⟩) hb3').trans r1) ((U.cell (p := ⟨b3, o3 + q * 3 + 2, none⟩) hb3').trans r2)))))
                have m1 : (key2 != key2) = false := by simp
                have m2 : (left2 != left2) = false := by simp
                have m3 : (span2 != span2) = false := by simp
                clear r0 r1 r2 kq HLq
                go_wp2_with (fail)
                refine G2.out.mono ?_
                rintro e w6 ⟨rfl, T6⟩
                have hb6 := hbq.trans (T6.mono hbq.size)
                have HT6 := Lib.hid (HTq.out.below (C.holds _ _ _) (RT.holds _ _ _) T6)
                obtain ⟨y1, y2, y3, y4, y5⟩ := K.out _ hb6
                clear K G2 ck
                go_wp2_with (fail)
                go_region
                go_wp2_with (fail)
                go_roundw
                case rel => exact ⟨q + 1, by omega, by go_num, HT6.out.below (C.holds _ _ _) (RT.holds _ _ _) (below_drewN' (Below.refl _ _) _), below_drewN' hb6 _⟩
                case measure => simp [intOf]; omega
              · have d6 : ¬ ((q : Int) < (N : Int)) := by omega
                have G1 := Lib.hid (rtat_any gr most l2 key _ Y HTq.out.p2)
                have hb5 := hb4.trans (hbq.mono hb4.size)
                go_wp2_with (fail)
                refine G1.out.mono ?_
                rintro e w6 ⟨rfl, T6⟩
                have HT6 := Lib.hid (HTq.out.below (C.holds _ _ _) (RT.holds _ _ _) T6)
                have hb6 := hb5.trans (T6.mono hb5.size)
                have G2 := C.left ga most l2 key w6 X2 HT6.out.p1 HOK2.out hkI (by rw [HN2.out]; omega)
                have HNO := tmLeft_no HOK2.out key
                generalize tmIs l2 key = f at *
                cases f with
                | false =>
                  rw [HNO rfl] at G2
                  have G2 := Lib.hid G2
                  clear HNO
                  go_wp2_with (fail)
                  refine G2.out.mono ?_
                  rintro e w7 ⟨rfl, T7⟩
                  have HT7 := Lib.hid (HT6.out.below (C.holds _ _ _) (RT.holds _ _ _) T7)
                  have hb7 := hb6.trans (T7.mono hb6.size)
                  go_wp2_with (fail)
                  go_roundw
                  case rel => exact ⟨j + 1, l2, X2, Y, by omega, by rw [HN2.out]; omega, by go_num, HOK2, HT7, hb7⟩
                  case measure => simp [intOf]; omega
                | true =>
                  have G2 := Lib.hid G2
                  clear HNO
                  go_wp2_with (fail)
                  refine G2.out.mono ?_
                  rintro e w7 ⟨rfl, T7⟩
                  have HT7 := Lib.hid (HT6.out.below (C.holds _ _ _) (RT.holds _ _ _) T7)
                  have hb7 := hb6.trans (T7.mono hb6.size)
                  go_wp2_with (fail)
                  go_roundw
                  case rel => exact ⟨j + 1, l2, X2, Y, by omega, by rw [HN2.out]; omega, by go_num, HOK2, HT7, hb7⟩
                  case measure => simp [intOf]; omega
          · by_cases hk1 : kd = 1
            · subst hk1
              have F1 := Lib.hid (C.set ga most ls key wr X HT.out.p1 HOK.out hkI (by omega))
              go_wp2_with (fail)
              refine F1.out.mono ?_
              rintro e w1 ⟨rfl, X2, q1, t1⟩
              obtain ⟨k1, k2⟩ := HT.out.left (C.holds _ _ _) (RT.holds _ _ _) q1 t1
              have HT1 := Lib.hid k1
              have hb1 := hbel.trans k2
              clear k1 k2 q1 t1 F1 HT
              have F2 := Lib.hid (rtset_any gr most ls key w1 Y HT1.out.p2 hkI (by omega))
              go_wp2_with (fail)
              refine F2.out.mono ?_
              rintro e w3 ⟨rfl, Y2, q2, t2⟩
              obtain ⟨k1, k2⟩ := HT1.out.right (C.holds _ _ _) (RT.holds _ _ _) q2 t2
              have HT3 := Lib.hid k1
              have hb3 := hb1.trans k2
              have HOK2 := Lib.hid (tmSet_ok key hkI HOK.out)
              have hl2 : (tmSet ls key).length ≤ j + 1 := Nat.le_trans (tmSet_len ls key) (by omega)
              clear k1 k2 q2 t2 F2 HT1 HOK
              generalize tmSet ls key = l2 at *
              have F1 := Lib.hid (C.keys ga most l2 w3 X2 HT3.out.p1 HOK2.out (by omega))
              go_wp2_with (fail)
              refine F1.out.mono ?_
              rintro e w4 ⟨A4, n4, c4, rfl, z4, T4⟩
              obtain rfl : l2.length = n4 := by have := z4.len; simpa [tmKeys] using this
              have HT4 := Lib.hid (HT3.out.below (C.holds _ _ _) (RT.holds _ _ _) T4)
              have hb4 := hb3.trans (T4.mono hb3.size)
              have hc4 := z4.le
              have hcap4 := z4.cap
              obtain ⟨P, c5, cr0, cr1, kR⟩ := HT4.out.p2.cells
              have hgr := HT4.out.2.2.2.2.2.2.1 gr HT4.out.p2.1
              have hc5 := kR.2.1
              have hcap5 := kR.2.2.1
              unfold maxLen at hcap5
              have HKC := Lib.hid (fun hn => z4.cell hn)
              have HRC := Lib.hid kR.2.2.2
              obtain ⟨N, hN⟩ : ∃ N, l2.length = N := ⟨_, rfl⟩
              have HN2 := Lib.hid hN
              have HLA := Lib.hid (fun q (hq : q < l2.length) => tmLeft_at HOK2.out q hq)
              have HKB := Lib.hid (fun q (hq : q < l2.length) => (HOK2.out.2.2 _ (List.getElem_mem hq)).1)
              rw [hN] at hc4 cr1 hc5 hl2
              simp only [hN]
              have n5 : ((N : Int) != (N : Int)) = false := by simp
              clear F1 z4 HT3 kR hN T4
              go_wp2_with (fail)
              go_loopw [12] (fun i wr => ∃ q : Nat, q ≤ N ∧ i = .int .i64 (q : Int) ∧ Hid (TwoAt w.heap.size (T ga most l2) (RT gr most l2) X2 Y2 wr) ∧ Below w4.heap.size w4 wr) (fun i _ => N - (intOf i).toNat)
              case atStart => exact ⟨0, Nat.zero_le _, rfl, HT4, Below.refl _ _⟩
              case round =>
                obtain ⟨q, hq, rfl, HTq, hbq⟩ := hrel
                by_cases hlq : q < N
                · have d6 : (q : Int) < (N : Int) := by omega
                  have hql : q < l2.length := by rw [HN2.out]; exact hlq
                  obtain ⟨b2, o2, rfl, hb2, hk2⟩ := HKC.out (by omega)
                  obtain ⟨b3, o3, rfl, hb3', hr3⟩ := HRC.out (by omega)
                  have kq := hk2 q (by simpa [tmKeys] using hql)
                  simp only [tmKeys, List.getElem_map] at kq
                  have ck := (hbq.cell (p := ⟨b2, o2 + q, none⟩) hb2).trans kq
                  have HLq := HLA.out q hql
                  have hkb := HKB.out q hql
                  have hr := hr3 q hql
                  clear hk2 hr3
                  generalize l2[q] = t at *
                  obtain ⟨key2, left2, span2⟩ := t
                  simp only at ck hkb HLq
                  obtain ⟨r0, r1, r2⟩ := hr
                  simp only at r0 r1 r2
                  have G2 := C.left ga most l2 key2 _ X2 HTq.out.p1 HOK2.out hkb (by rw [HN2.out]; omega)
                  rw [HLq] at G2
                  have G2 := Lib.hid G2
                  have K := Lib.hid (fun W (U : Below w4.heap.size w4 W) => And.intro ((U.cell (p := ⟨gr, 1, none⟩) hgr).trans cr1) (And.intro ((U.cell (p := ⟨b2, o2 + q, none⟩) hb2).trans kq) (And.intro ((U.cell (p := ⟨b3, o3 + q * 3, none⟩) hb3').trans r0) (And.intro ((U.cell (p := ⟨b3, o3 + q * 3 + 1, none⟩) hb3').trans r1) ((U.cell (p := ⟨b3, o3 + q * 3 + 2, none⟩) hb3').trans r2)))))
                  have m1 : (key2 != key2) = false := by simp
                  have m2 : (left2 != left2) = false := by simp
                  have m3 : (span2 != span2) = false := by simp
                  clear r0 r1 r2 kq HLq
                  go_wp2_with (fail)
                  refine G2.out.mono ?_
                  rintro e w6 ⟨rfl, T6⟩
                  have hb6 := hbq.trans (T6.mono hbq.size)
                  have HT6 := Lib.hid (HTq.out.below (C.holds _ _ _) (RT.holds _ _ _) T6)
                  obtain ⟨y1, y2, y3, y4, y5⟩ := K.out _ hb6
                  clear K G2 ck
                  go_wp2_with (fail)
                  go_region
                  go_wp2_with (fail)
                  go_roundw
                  case rel => exact ⟨q + 1, by omega, by go_num, HT6.out.below (C.holds _ _ _) (RT.holds _ _ _) (below_drewN' (Below.refl _ _) _), below_drewN' hb6 _⟩
                  case measure => simp [intOf]; omega
                · have d6 : ¬ ((q : Int) < (N : Int)) := by omega
                  have G1 := Lib.hid (rtat_any gr most l2 key _ Y2 HTq.out.p2)
                  have hb5 := hb4.trans (hbq.mono hb4.size)
                  go_wp2_with (fail)
                  refine G1.out.mono ?_
                  rintro e w6 ⟨rfl, T6⟩
                  have HT6 := Lib.hid (HTq.out.below (C.holds _ _ _) (RT.holds _ _ _) T6)
                  have hb6 := hb5.trans (T6.mono hb5.size)
                  have G2 := C.left ga most l2 key w6 X2 HT6.out.p1 HOK2.out hkI (by rw [HN2.out]; omega)
                  have HNO := tmLeft_no HOK2.out key
                  generalize tmIs l2 key = f at *
                  cases f with
                  | false =>
                    rw [HNO rfl] at G2
                    have G2 := Lib.hid G2
                    clear HNO
                    go_wp2_with (fail)
                    refine G2.out.mono ?_
                    rintro e w7 ⟨rfl, T7⟩
                    have HT7 := Lib.hid (HT6.out.below (C.holds _ _ _) (RT.holds _ _ _) T7)
                    have hb7 := hb6.trans (T7.mono hb6.size)
                    go_wp2_with (fail)
                    go_roundw
                    case rel => exact ⟨j + 1, l2, X2, Y2, by omega, by rw [HN2.out]; omega, by go_num, HOK2, HT7, hb7⟩
                    case measure => simp [intOf]; omega
                  | true =>
                    have G2 := Lib.hid G2
                    clear HNO
                    go_wp2_with (fail)
                    refine G2.out.mono ?_
                    rintro e w7 ⟨rfl, T7⟩
                    have HT7 := Lib.hid (HT6.out.below (C.holds _ _ _) (RT.holds _ _ _) T7)
                    have hb7 := hb6.trans (T7.mono hb6.size)
                    go_wp2_with (fail)
                    go_roundw
                    case rel => exact ⟨j + 1, l2, X2, Y2, by omega, by rw [HN2.out]; omega, by go_num, HOK2, HT7, hb7⟩
                    case measure => simp [intOf]; omega
            · by_cases hk2 : kd = 2
              · subst hk2
                have F1 := Lib.hid (C.clear ga most ls key wr X HT.out.p1 HOK.out hkI (by omega))
                go_wp2_with (fail)
                refine F1.out.mono ?_
                rintro e w1 ⟨rfl, X2, q1, t1⟩
                obtain ⟨k1, k2⟩ := HT.out.left (C.holds _ _ _) (RT.holds _ _ _) q1 t1
                have HT1 := Lib.hid k1
                have hb1 := hbel.trans k2
                clear k1 k2 q1 t1 F1 HT
                have F2 := Lib.hid (rtclear_any gr most ls key w1 Y HT1.out.p2)
                have m0 : (tmIs ls key != tmIs ls key) = false := by simp
                go_wp2_with (fail)
                refine F2.out.mono ?_
                rintro e w3 ⟨rfl, Y2, q2, t2⟩
                obtain ⟨k1, k2⟩ := HT1.out.right (C.holds _ _ _) (RT.holds _ _ _) q2 t2
                have HT3 := Lib.hid k1
                have hb3 := hb1.trans k2
                have HOK2 := Lib.hid (tmClear_ok key HOK.out)
                have hl2 : (tmClear ls key).length ≤ j + 1 := Nat.le_trans (tmClear_len ls key) (by omega)
                clear k1 k2 q2 t2 F2 HT1 HOK
                generalize tmClear ls key = l2 at *
                generalize tmIs ls key = f0 at *
                have F1 := Lib.hid (C.keys ga most l2 w3 X2 HT3.out.p1 HOK2.out (by omega))
                go_wp2_with (fail)
                refine F1.out.mono ?_
                rintro e w4 ⟨A4, n4, c4, rfl, z4, T4⟩
                obtain rfl : l2.length = n4 := by have := z4.len; simpa [tmKeys] using this
                have HT4 := Lib.hid (HT3.out.below (C.holds _ _ _) (RT.holds _ _ _) T4)
                have hb4 := hb3.trans (T4.mono hb3.size)
                have hc4 := z4.le
                have hcap4 := z4.cap
                obtain ⟨P, c5, cr0, cr1, kR⟩ := HT4.out.p2.cells
                have hgr := HT4.out.2.2.2.2.2.2.1 gr HT4.out.p2.1
                have hc5 := kR.2.1
                have hcap5 := kR.2.2.1
                unfold maxLen at hcap5
                have HKC := Lib.hid (fun hn => z4.cell hn)
                have HRC := Lib.hid kR.2.2.2
                obtain ⟨N, hN⟩ : ∃ N, l2.length = N := ⟨_, rfl⟩
                have HN2 := Lib.hid hN
                have HLA := Lib.hid (fun q (hq : q < l2.length) => tmLeft_at HOK2.out q hq)
                have HKB := Lib.hid (fun q (hq : q < l2.length) => (HOK2.out.2.2 _ (List.getElem_mem hq)).1)
                rw [hN] at hc4 cr1 hc5 hl2
                simp only [hN]
                have n5 : ((N : Int) != (N : Int)) = false := by simp
                clear F1 z4 HT3 kR hN T4
                go_wp2_with (fail)
                go_loopw [12] (fun i wr => ∃ q : Nat, q ≤ N ∧ i = .int .i64 (q : Int) ∧ Hid (TwoAt w.heap.size (T ga most l2) (RT gr most l2) X2 Y2 wr) ∧ Below w4.heap.size w4 wr) (fun i _ => N - (intOf i).toNat)
                case atStart => exact ⟨0, Nat.zero_le _, rfl, HT4, Below.refl _ _⟩
                case round =>
                  obtain ⟨q, hq, rfl, HTq, hbq⟩ := hrel
                  by_cases hlq : q < N
                  · have d6 : (q : Int) < (N : Int) := by omega
                    have hql : q < l2.length := by rw [HN2.out]; exact hlq
                    obtain ⟨b2, o2, rfl, hb2, hk2⟩ := HKC.out (by omega)
                    obtain ⟨b3, o3, rfl, hb3', hr3⟩ := HRC.out (by omega)
                    have kq := hk2 q (by simpa [tmKeys] using hql)
                    simp only [tmKeys, List.getElem_map] at kq
                    have ck := (hbq.cell (p := ⟨b2, o2 + q, none⟩) hb2).trans kq
                    have HLq := HLA.out q hql
                    have hkb := HKB.out q hql
                    have hr := hr3 q hql
                    clear hk2 hr3
                    generalize l2[q] = t at *
                    obtain ⟨key2, left2, span2⟩ := t
                    simp only at ck hkb HLq
                    obtain ⟨r0, r1, r2⟩ := hr
                    simp only at r0 r1 r2
                    have G2 := C.left ga most l2 key2 _ X2 HTq.out.p1 HOK2.out hkb (by rw [HN2.out]; omega)
                    rw [HLq] at G2
                    have G2 := Lib.hid G2
                    have K := Lib.hid (fun W (U : Below w4.heap.size w4 W) => And.intro ((U.cell (p := ⟨gr, 1, none⟩) hgr).trans cr1) (And.intro ((U.cell (p := ⟨b2, o2 + q, none⟩) hb2).trans kq) (And.intro ((U.cell (p := ⟨b3, o3 + q * 3, none⟩) hb3').trans r0) (And.intro ((U.cell (p := ⟨b3, o3 + q * 3 + 1, none⟩) hb3').trans r1) ((U.cell (p := ⟨b3, o3 + q * 3 + 2, none⟩) hb3').trans r2)))))
                    have m1 : (key2 != key2) = false := by simp
                    have m2 : (left2 != left2) = false := by simp
                    have m3 : (span2 != span2) = false := by simp
                    clear r0 r1 r2 kq HLq
                    go_wp2_with (fail)
                    refine G2.out.mono ?_
                    rintro e w6 ⟨rfl, T6⟩
                    have hb6 := hbq.trans (T6.mono hbq.size)
                    have HT6 := Lib.hid (HTq.out.below (C.holds _ _ _) (RT.holds _ _ _) T6)
                    obtain ⟨y1, y2, y3, y4, y5⟩ := K.out _ hb6
                    clear K G2 ck
                    go_wp2_with (fail)
                    go_region
                    go_wp2_with (fail)
                    go_roundw
                    case rel => exact ⟨q + 1, by omega, by go_num, HT6.out.below (C.holds _ _ _) (RT.holds _ _ _) (below_drewN' (Below.refl _ _) _), below_drewN' hb6 _⟩
                    case measure => simp [intOf]; omega
                  · have d6 : ¬ ((q : Int) < (N : Int)) := by omega
                    have G1 := Lib.hid (rtat_any gr most l2 key _ Y2 HTq.out.p2)
                    have hb5 := hb4.trans (hbq.mono hb4.size)
                    go_wp2_with (fail)
                    refine G1.out.mono ?_
                    rintro e w6 ⟨rfl, T6⟩
                    have HT6 := Lib.hid (HTq.out.below (C.holds _ _ _) (RT.holds _ _ _) T6)
                    have hb6 := hb5.trans (T6.mono hb5.size)
                    have G2 := C.left ga most l2 key w6 X2 HT6.out.p1 HOK2.out hkI (by rw [HN2.out]; omega)
                    have HNO := tmLeft_no HOK2.out key
                    generalize tmIs l2 key = f at *
                    cases f with
                    | false =>
                      rw [HNO rfl] at G2
                      have G2 := Lib.hid G2
                      clear HNO
                      go_wp2_with (fail)
                      refine G2.out.mono ?_
                      rintro e w7 ⟨rfl, T7⟩
                      have HT7 := Lib.hid (HT6.out.below (C.holds _ _ _) (RT.holds _ _ _) T7)
                      have hb7 := hb6.trans (T7.mono hb6.size)
                      go_wp2_with (fail)
                      go_roundw
                      case rel => exact ⟨j + 1, l2, X2, Y2, by omega, by rw [HN2.out]; omega, by go_num, HOK2, HT7, hb7⟩
                      case measure => simp [intOf]; omega
                    | true =>
                      have G2 := Lib.hid G2
                      clear HNO
                      go_wp2_with (fail)
                      refine G2.out.mono ?_
                      rintro e w7 ⟨rfl, T7⟩
                      have HT7 := Lib.hid (HT6.out.below (C.holds _ _ _) (RT.holds _ _ _) T7)
                      have hb7 := hb6.trans (T7.mono hb6.size)
                      go_wp2_with (fail)
                      go_roundw
                      case rel => exact ⟨j + 1, l2, X2, Y2, by omega, by rw [HN2.out]; omega, by go_num, HOK2, HT7, hb7⟩
                      case measure => simp [intOf]; omega
              · have m1 : (kd == 0) = false := by simpa using hk0
                have m2 : (kd == 1) = false := by simpa using hk1
                have m3 : (kd == 2) = false := by simpa using hk2
                have HT3 := HT
                have hb3 := hbel
                have HOK2 := HOK
                have hl2 : ls.length ≤ j + 1 := by omega
                clear HT HOK hlj
                generalize ls = l2 at *
                have X2e : ∃ X2 Y2, X2 = X ∧ Y2 = Y := ⟨_, _, rfl, rfl⟩
                obtain ⟨X2, Y2, hX2, hY2⟩ := X2e
                rw [← hX2, ← hY2] at HT3
                clear hX2 hY2
                generalize wr = w3 at *
                have F1 := Lib.hid (C.keys ga most l2 w3 X2 HT3.out.p1 HOK2.out (by omega))
                go_wp2_with (fail)
                refine F1.out.mono ?_
                rintro e w4 ⟨A4, n4, c4, rfl, z4, T4⟩
                obtain rfl : l2.length = n4 := by have := z4.len; simpa [tmKeys] using this
                have HT4 := Lib.hid (HT3.out.below (C.holds _ _ _) (RT.holds _ _ _) T4)
                have hb4 := hb3.trans (T4.mono hb3.size)
                have hc4 := z4.le
                have hcap4 := z4.cap
                obtain ⟨P, c5, cr0, cr1, kR⟩ := HT4.out.p2.cells
                have hgr := HT4.out.2.2.2.2.2.2.1 gr HT4.out.p2.1
                have hc5 := kR.2.1
                have hcap5 := kR.2.2.1
                unfold maxLen at hcap5
                have HKC := Lib.hid (fun hn => z4.cell hn)
                have HRC := Lib.hid kR.2.2.2
                obtain ⟨N, hN⟩ : ∃ N, l2.length = N := ⟨_, rfl⟩
                have HN2 := Lib.hid hN
                have HLA := Lib.hid (fun q (hq : q < l2.length) => tmLeft_at HOK2.out q hq)
                have HKB := Lib.hid (fun q (hq : q < l2.length) => (HOK2.out.2.2 _ (List.getElem_mem hq)).1)
                rw [hN] at hc4 cr1 hc5 hl2
                simp only [hN]
                have n5 : ((N : Int) != (N : Int)) = false := by simp
                clear F1 z4 HT3 kR hN T4
                go_wp2_with (fail)
                go_loopw [12] (fun i wr => ∃ q : Nat, q ≤ N ∧ i = .int .i64 (q : Int) ∧ Hid (TwoAt w.heap.size (T ga most l2) (RT gr most l2) X2 Y2 wr) ∧ Below w4.heap.size w4 wr) (fun i _ => N - (intOf i).toNat)
                case atStart => exact ⟨0, Nat.zero_le _, rfl, HT4, Below.refl _ _⟩
                case round =>
                  obtain ⟨q, hq, rfl, HTq, hbq⟩ := hrel
                  by_cases hlq : q < N
                  · have d6 : (q : Int) < (N : Int) := by omega
                    have hql : q < l2.length := by rw [HN2.out]; exact hlq
                    obtain ⟨b2, o2, rfl, hb2, hk2⟩ := HKC.out (by omega)
                    obtain ⟨b3, o3, rfl, hb3', hr3⟩ := HRC.out (by omega)
                    have kq := hk2 q (by simpa [tmKeys] using hql)
                    simp only [tmKeys, List.getElem_map] at kq
                    have ck := (hbq.cell (p := ⟨b2, o2 + q, none⟩) hb2).trans kq
                    have HLq := HLA.out q hql
                    have hkb := HKB.out q hql
                    have hr := hr3 q hql
                    clear hk2 hr3
                    generalize l2[q] = t at *
                    obtain ⟨key2, left2, span2⟩ := t
                    simp only at ck hkb HLq
                    obtain ⟨r0, r1, r2⟩ := hr
                    simp only at r0 r1 r2
                    have G2 := C.left ga most l2 key2 _ X2 HTq.out.p1 HOK2.out hkb (by rw [HN2.out]; omega)
                    rw [HLq] at G2
                    have G2 := Lib.hid G2
                    have K := Lib.hid (fun W (U : Below w4.heap.size w4 W) => And.intro ((U.cell (p := ⟨gr, 1, none⟩) hgr).trans cr1) (And.intro ((U.cell (p := ⟨b2, o2 + q, none⟩) hb2).trans kq) (And.intro ((U.cell (p := ⟨b3, o3 + q * 3, none⟩) hb3').trans r0) (And.intro ((U.cell (p := ⟨b3, o3 + q * 3 + 1, none⟩) hb3').trans r1) ((U.cell (p := ⟨b3, o3 + q * 3 + 2, none⟩) hb3').trans r2)))))
                    have m1 : (key2 != key2) = false := by simp
                    have m2 : (left2 != left2) = false := by simp
                    have m3 : (span2 != span2) = false := by simp
                    clear r0 r1 r2 kq HLq
                    go_wp2_with (fail)
                    refine G2.out.mono ?_
                    rintro e w6 ⟨rfl, T6⟩
                    have hb6 := hbq.trans (T6.mono hbq.size)
                    have HT6 := Lib.hid (HTq.out.below (C.holds _ _ _) (RT.holds _ _ _) T6)
                    obtain ⟨y1, y2, y3, y4, y5⟩ := K.out _ hb6
                    clear K G2 ck
                    go_wp2_with (fail)
                    go_region
                    go_wp2_with (fail)
                    go_roundw
                    case rel => exact ⟨q + 1, by omega, by go_num, HT6.out.below (C.holds _ _ _) (RT.holds _ _ _) (below_drewN' (Below.refl _ _) _), below_drewN' hb6 _⟩
                    case measure => simp [intOf]; omega
                  · have d6 : ¬ ((q : Int) < (N : Int)) := by omega
                    have G1 := Lib.hid (rtat_any gr most l2 key _ Y2 HTq.out.p2)
                    have hb5 := hb4.trans (hbq.mono hb4.size)
                    go_wp2_with (fail)
                    refine G1.out.mono ?_
                    rintro e w6 ⟨rfl, T6⟩
                    have HT6 := Lib.hid (HTq.out.below (C.holds _ _ _) (RT.holds _ _ _) T6)
                    have hb6 := hb5.trans (T6.mono hb5.size)
                    have G2 := C.left ga most l2 key w6 X2 HT6.out.p1 HOK2.out hkI (by rw [HN2.out]; omega)
                    have HNO := tmLeft_no HOK2.out key
                    generalize tmIs l2 key = f at *
                    cases f with
                    | false =>
                      rw [HNO rfl] at G2
                      have G2 := Lib.hid G2
                      clear HNO
                      go_wp2_with (fail)
                      refine G2.out.mono ?_
                      rintro e w7 ⟨rfl, T7⟩
                      have HT7 := Lib.hid (HT6.out.below (C.holds _ _ _) (RT.holds _ _ _) T7)
                      have hb7 := hb6.trans (T7.mono hb6.size)
                      go_wp2_with (fail)
                      go_roundw
                      case rel => exact ⟨j + 1, l2, X2, Y2, by omega, by rw [HN2.out]; omega, by go_num, HOK2, HT7, hb7⟩
                      case measure => simp [intOf]; omega
                    | true =>
                      have G2 := Lib.hid G2
                      clear HNO
                      go_wp2_with (fail)
                      refine G2.out.mono ?_
                      rintro e w7 ⟨rfl, T7⟩
                      have HT7 := Lib.hid (HT6.out.below (C.holds _ _ _) (RT.holds _ _ _) T7)
                      have hb7 := hb6.trans (T7.mono hb6.size)
                      go_wp2_with (fail)
                      go_roundw
                      case rel => exact ⟨j + 1, l2, X2, Y2, by omega, by rw [HN2.out]; omega, by go_num, HOK2, HT7, hb7⟩
                      case measure => simp [intOf]; omega
        · have d0 : decide ((j : Int) < (n : Int)) = false := by simp; omega
          have d1 : ¬ ((j : Int) < (n : Int)) := by omega
          go_wp2_with (fail)
          refine (HL.out _).mono ?_
          rintro e w4 ⟨rfl, T4⟩
          have T4 := nxt hbel T4
          go_wp2
          go_ret
          exact ⟨rfl, T4⟩
end Go.Proofs.Ytlghpbknlohafaa
