/- The walk of layer 8's CorrDots, over the contracts of phase and corr. -/
import Derived.Test.YtmpelpmgpklidaaLaws08
namespace Go.Proofs.Ytmpelpmgpklidaa
open Go.RowKit

theorem size_small {p : Pt} (h : -50000000 ≤ p.1 ∧ p.1 ≤ 50000000 ∧ -50000000 ≤ p.2 ∧ p.2 ≤ 50000000) : (sizeI p).natAbs < 9007199254740992 := by
  have m1 := mul_bound (B := 50000000) (by decide) h.1 h.2.1 h.1 h.2.1
  have m2 := mul_bound (B := 50000000) (by decide) h.2.2.1 h.2.2.2 h.2.2.1 h.2.2.2
  unfold sizeI
  omega
theorem mid_sliced {l : List Pt} : ∀ p ∈ slicedB l, Mid p := by
  intro p hp
  obtain ⟨q, _, rfl⟩ := List.mem_map.1 hp
  exact near_mid (sliceP_uni q).near
theorem slicedB_len (l : List Pt) : (slicedB l).length = l.length := by simp [slicedB]
set_option maxHeartbeats 8000000 in
theorem walk_CorrDots (C : PhC) (D : CoC) (A : Option Addr) (n c : Nat) (l : List Pt) (B : Option Addr) (m d : Nat) (r : List Pt) (w : World) (hP : Ps w A n c l) (hQ : Ps w B m d r) :
    Calls Try.prog 3 #[.slice A n c, .slice B m d] w fun e w' => e = .returned (.bool true) ∧ Below w.heap.size w w' := by
  have HS1 := Lib.hid (small8_any A n c l w hP)
  have HS2 := Lib.hid (small8_any B m d r w hQ)
  have HPP := Lib.hid hP
  have HQQ := Lib.hid hQ
  have HL := Lib.hid (And.intro hP.len hQ.len)
  clear hP hQ
  go_enter Try.func3, Try.ntmps3
  go_wp2_with (fail)
  refine HS1.out.mono ?_
  rintro e w1 ⟨b1, rfl, hr, rfl⟩
  cases b1 with
  | false =>
    clear hr
    go_wp2_with (fail)
    refine (live08_any C D _).mono ?_
    rintro e w9 ⟨rfl, T9⟩
    go_wp2
    go_ret
    exact ⟨rfl, T9⟩
  | true =>
    have HN1 := Lib.hid (hr rfl)
    clear hr
    go_wp2_with (fail)
    refine HS2.out.mono ?_
    rintro e w1 ⟨b2, rfl, hr, rfl⟩
    cases b2 with
    | false =>
      clear hr
      go_wp2_with (fail)
      refine (live08_any C D _).mono ?_
      rintro e w9 ⟨rfl, T9⟩
      go_wp2
      go_ret
      exact ⟨rfl, T9⟩
    | true =>
      have HN2 := Lib.hid (hr rfl)
      clear hr
      go_wp2_with (fail)
      refine (of_at C A n c l w HPP.out (Nat.le_trans HN1.out.1 (by decide)) HN1.out.2).mono ?_
      rintro e w1 ⟨A1, c1, rfl, hc1, T1⟩
      have HC1 := Lib.hid hc1
      have HQ1 := Lib.hid (HQQ.out.below T1)
      clear hc1
      go_wp2_with (fail)
      refine (of_at C B m d r w1 HQ1.out (Nat.le_trans HN2.out.1 (by decide)) HN2.out.2).mono ?_
      rintro e w2 ⟨A2, c2, rfl, hc2, T2⟩
      have HC2 := Lib.hid (HC1.out.below T2)
      have HM2 := Lib.hid hc2
      have T2 := nxt T1 T2
      clear hc2
      go_wp2_with (fail)
      refine (D.dot A1 n c1 l A2 m c2 r w2 HC2.out HM2.out HN1.out.2 HN2.out.2 HN1.out.1 HN2.out.1).mono ?_
      rintro e w3 ⟨za, zb, rfl, hza, hzb, T3⟩
      have T3 := nxt T2 T3
      have HP3 := Lib.hid (HPP.out.below T3)
      have HQ3 := Lib.hid (HQQ.out.below T3)
      have hdb := dot_near l r HN1.out.2 HN2.out.2 (by rw [HL.out.2]; exact HN2.out.1)
      have HRD := Lib.hid (rdot_any A n c l B m d r w3 HP3.out HQ3.out HN1.out.2 HN2.out.2 HN2.out.1)
      generalize dotP l r = q at *
      obtain ⟨qx, qy⟩ := q
      have hq5 : -50000000 ≤ ((qx, qy) : Pt).1 ∧ ((qx, qy) : Pt).1 ≤ 50000000 ∧ -50000000 ≤ ((qx, qy) : Pt).2 ∧ ((qx, qy) : Pt).2 ≤ 50000000 := by simp only at hdb ⊢; omega
      have hqm : Mid (qx, qy) := by unfold Mid; simp only at hdb ⊢; omega
      have HFL := Lib.hid (fl_int (sizeI (qx, qy)) (size_small hq5))
      have HRZ := Lib.hid (fun W => rsize_any (qx, qy) W hq5)
      have HSZ := Lib.hid (fun W => D.size za zb (qx, qy) W hza hzb hq5)
      have HPA := Lib.hid (fun W => C.parts za zb (qx, qy) W hza hzb hqm)
      clear hza hzb hdb hq5 hqm
      go_wp2_with (fail)
      refine HRD.out.mono ?_
      rintro e w4 ⟨rfl, T4⟩
      have T4 := nxt T3 T4
      clear HRD
      go_wp2_with (fail)
      obtain ⟨w5, hw5⟩ : ∃ w5, w5 = w4.alloc (.cells #[.int .i64 qx, .int .i64 qy] 30) := ⟨_, rfl⟩
      have G5 : Below w4.heap.size w4 w5 := by rw [hw5]; exact (Below.refl _ _).alloc (Nat.le_refl _) _
      have hY : w5.heap[w4.heap.size]? = some (.cells #[.int .i64 qx, .int .i64 qy] 30 (0, 0)) := by rw [hw5]; exact heap_alloc_new w4 _
      rw [← hw5]
      have T5 := nxt T4 G5
      have hYl := lt_of_block hY
      clear hw5 G5 T4
      generalize w4.heap.size = Y at *
      refine (HPA.out _).mono ?_
      rintro e w6 ⟨rfl, T6⟩
      have hY6 := (T6.block Y hYl).trans hY
      have hYl6 := lt_of_block hY6
      have T6 := nxt T5 T6
      have cY : Hid (∀ (W : World), Below w6.heap.size w6 W → W.cell? ⟨Y, 0, none⟩ = some (.int .i64 qx) ∧ W.cell? ⟨Y, 1, none⟩ = some (.int .i64 qy)) := fun W k => by
        have h := (k.block Y hYl6).trans hY6
        exact ⟨cell_of_row _ _ _ _ _ _ h, cell_of_row _ _ _ _ _ _ h⟩
      have e0 : (qx == qx) = true := by simp
      have e1 : (qy == qy) = true := by simp
      have HP6 := Lib.hid (HPP.out.below T6)
      have HOF := Lib.hid (fun W (k : Below w6.heap.size w6 W) => of_at C A n c l W (HP6.out.below k) (Nat.le_trans HN1.out.1 (by decide)) HN1.out.2)
      have HSL := Lib.hid (fun W A' c' (h : Cs W A' n c' l) => D.sliced A' n c' l W h HN1.out.1)
      have HRS := Lib.hid (fun W (k : Below w6.heap.size w6 W) => rsliced_any A n c l W (HP6.out.below k) (Nat.le_trans HN1.out.1 (by decide)))
      generalize sizeI (qx, qy) = sz at *
      have q6 := cY.out w6 (Below.refl _ _)
      go_wp2_with (fail)
      go_region_held3 (fun w' => w'.cell? ⟨Y, 0, none⟩ = some (.int .i64 qx) ∧ w'.cell? ⟨Y, 1, none⟩ = some (.int .i64 qy))
        (first | exact q6 | exact q7 | exact q8 | exact q9 | exact q10 | exact q11 | exact q12 | exact q13)
        (first
          | (go_at_call 13; (with_reducible refine (HSZ.out _).mono ?_); rintro e w7 ⟨zs, rfl, hzs, G7⟩; have K7 : Below w6.heap.size w6 w7 := undrew G7; have q7 := cY.out w7 K7; have e3 := (fl_eq hzs HFL.out).trans (decide_eq_true rfl); clear hzs)
          | (go_at_call 14; (with_reducible refine (HRZ.out _).mono ?_); rintro e w8 ⟨rfl, G8⟩; have K8 := nxt K7 G8; have q8 := cY.out w8 K8)
          | (go_at_call 10; (with_reducible refine (HOF.out _ K8).mono ?_); rintro e w9 ⟨A9, c9, rfl, hc9, G9⟩; have K9 := nxt K8 G9; have q9 := cY.out w9 K9; have HC9 := Lib.hid hc9; clear hc9)
          | (go_at_call 16; (with_reducible refine (HSL.out _ _ _ HC9.out).mono ?_); rintro e w10 ⟨v10, rfl, hO10, G10⟩; have K10 := nxt K9 G10; have q10 := cY.out w10 K10; obtain ⟨A10, c10, rfl, hc10⟩ := hO10.shape; have HC10 := Lib.hid hc10; clear hc10 hO10)
          | (go_at_call 17; (with_reducible refine (HRS.out _ K10).mono ?_); rintro e w11 ⟨v11, rfl, hO11, G11⟩; have K11 := nxt K10 G11; have q11 := cY.out w11 K11; obtain ⟨A11, c11, rfl, hc11⟩ := hO11.shape; have HTO := Lib.hid (told_true C A10 (slicedB l).length c10 A11 (slicedB l).length c11 (slicedB l) w11 (HC10.out.below G11) hc11 mid_sliced); clear hc11 hO11)
          | (go_at_call 15; (with_reducible refine HTO.out.mono ?_); rintro e w12 ⟨rfl, G12⟩; have K12 := nxt K11 G12; have q12 := cY.out w12 K12)
          | (go_at_call 8; (refine (live08_any C D _).mono ?_); rintro e w13 ⟨rfl, G13⟩; have K13 := nxt K12 G13; have q13 := cY.out w13 K13))
      go_wp2_with (fail)
      go_ret
      exact ⟨rfl, nxt T6 K13⟩
end Go.Proofs.Ytmpelpmgpklidaa
