/- What kedgeref25's enter does. -/
import Derived.Test.YtpidbgnlehikeaaRpl2
namespace Go.Proofs.Ytpidbgnlehikeaa
open Go.RowKit
set_option maxRecDepth 20000

theorem quPushE_64 {room : Nat} {ls : List (List UInt8)} {n : Nat} (h : n ≤ 64) : quPushE room ls n = if room ≤ ls.length then 3 else 0 := by unfold quPushE; rw [if_neg (by omega)]
set_option maxHeartbeats 16000000 in
theorem rlenter_any (g gq : Nat) (v : Value) (s : Pls) (Xq Xl : Nat → Prop) (w : World) (h : RLv g gq v s Xq Xl w) (hok : PlOk s) (hb : s.ent ≤ 200000) :
    Calls Try.prog 32 #[.pointer (some ⟨g, 0, none⟩)] w fun e w' => e = .returned (.int .i64 (((plEnter s).ent - s.ent : Nat) : Int)) ∧ ∃ v' Xq' Xl', RLv g gq v' (plEnter s) Xq' Xl' w' ∧ Turns (Tri3 g Xq Xl) (Tri3 g Xq' Xl') w w' := by
  have hN64 := hok.llen
  obtain ⟨N, hN⟩ : ∃ N, s.late.length = N := ⟨_, rfl⟩
  rw [hN] at hN64
  have HN := Lib.hid hN
  have HR := Lib.hid h
  have HOK := Lib.hid hok
  clear h hok hN
  go_enter Try.func32, Try.ntmps32
  go_wp2_with (fail)
  go_loopw [3] (fun i wr => ∃ (k : Nat) (s1 : Pls) (v1 : Value) (Xq1 Xl1 : Nat → Prop), i = .int .i64 (k : Int) ∧ Hid (s1.ent = s.ent + k ∧ k + s1.late.length = N) ∧ Hid (RLv g gq v1 s1 Xq1 Xl1 wr) ∧ Hid (PlOk s1) ∧ Hid (plEnter s1 = plEnter s) ∧ Hid (Turns (Tri3 g Xq Xl) (Tri3 g Xq1 Xl1) w wr)) (fun i _ => N - (intOf i).toNat)
  case atStart => exact ⟨0, s, v, Xq, Xl, rfl, ⟨rfl, by rw [HN.out]; omega⟩, HR, HOK, rfl, Turns.of_below (Below.refl _ _)⟩
  case round =>
    obtain ⟨k, s1, v1, Xq1, Xl1, rfl, HK, HR1, HO1, HE1, HT1⟩ := hrel
    obtain ⟨-, c7, c8, c9, -, hfz⟩ := HR1.out.cells
    obtain ⟨P, pc, rfl, hp1, hp2, hpn, hR⟩ := HR1.out.lst
    have hKN : k ≤ N := by have := HK.out.2; omega
    have hE3 : s1.ent ≤ 300000 := by have := HK.out.1; omega
    obtain ⟨la, hla⟩ : ∃ la, s1.late = la := ⟨_, rfl⟩
    have HLA := Lib.hid hla
    have HKK : Hid (s1.ent - s.ent = k) := by show _ = _; have := HK.out.1; omega
    rw [hla] at c8 hp1 hpn hR
    have P0 := Below.refl wr.heap.size wr
    cases la with
    | nil =>
      simp only [List.length_nil] at c8
      have HPE : Hid (plEnter s = s1) := by show _ = _; rw [← HE1.out]; exact plEnter_no (by unfold plCan; rw [hla])
      clear hR hpn hla hfz hp1
      go_wp2_with (fail)
      go_quiet (fail)
      go_wp2
      go_ret
      have B := below_drewN' P0 nq
      rw [HPE.out, HKK.out]
      exact ⟨rfl, _, Xq1, Xl1, HR1.out.below B, HT1.out.next B⟩
    | cons t l =>
      rcases hpn with ⟨_, _, h0⟩ | ⟨b, rfl⟩
      · cases h0
      obtain ⟨b', o, A, d, e, hbw, e0, e1, hB⟩ := lt_cells hR 0 (by simp)
      injection e with e
      injection e with ea eb
      subst ea eb
      simp only [List.getElem_cons_zero, Nat.zero_mul, Nat.add_zero, Nat.zero_add, List.length_cons] at e0 e1 hB c8 hp1
      have h64 := (HO1.out.2.2.2.1 t (by rw [hla]; simp)).2
      have hM0 : (0 : Int) < ((l.length + 1 : Nat) : Int) := by omega
      have hM1 : 0 < l.length + 1 := by omega
      obtain ⟨M, hM⟩ : ∃ M, l.length + 1 = M := ⟨_, rfl⟩
      have HM := Lib.hid hM
      rw [hM] at c8 hp1 hM0 hM1
      obtain ⟨E, hEe⟩ : ∃ E, s1.ent = E := ⟨_, rfl⟩
      have HEE := Lib.hid hEe
      rw [hEe] at c9 hE3
      by_cases hx : t.1 = E
      · rw [hx] at e0
        have hgw := lt_row HR1.out.1
        have hgq : ¬ Xq1 g := HR1.out.2.2.2.2.2.1
        have hbq : ¬ Xq1 b := HR1.out.2.2.2.2.2.2.2 b (HR1.out.2.2.2.2.1 b rfl)
        obtain ⟨L, hL⟩ : ∃ L, t.2.length = L := ⟨_, rfl⟩
        rw [hL] at h64 e1 hB
        have HC : Hid (∀ W, Off Xq1 wr W → W.cell? ⟨g, 7, none⟩ = some (.pointer (some ⟨gq, 0, none⟩)) ∧ W.cell? ⟨g, 8, none⟩ = some (Value.slice (some ⟨b, 0, none⟩) M pc) ∧ W.cell? ⟨g, 9, none⟩ = some (.int .i64 (E : Int)) ∧ W.cell? ⟨b, 0, none⟩ = some (.int .i64 (E : Int)) ∧ W.cell? ⟨b, 1, none⟩ = some (Value.slice A L d)) := fun W O =>
          ⟨(O.cell (p := ⟨g, 7, none⟩) hgw hgq).trans c7, (O.cell (p := ⟨g, 8, none⟩) hgw hgq).trans c8, (O.cell (p := ⟨g, 9, none⟩) hgw hgq).trans c9, (O.cell (p := ⟨b, 0, none⟩) hbw hbq).trans e0, (O.cell (p := ⟨b, 1, none⟩) hbw hbq).trans e1⟩
        have K0 := Lib.hid (HC.out wr (Off.refl _ _))
        by_cases hr : s1.c.room.toNat ≤ s1.ls.length
        · have HPE : Hid (plEnter s = s1) := by
            show _ = _; rw [← HE1.out]
            refine plEnter_no ?_
            unfold plCan
            rw [hla]
            simp only [hL, quPushE_64 h64, if_pos hr]
            simp
          have HPU : Hid (∀ W, Below wr.heap.size wr W → Calls Try.prog 46 #[.pointer (some ⟨gq, 0, none⟩), .slice A L d] W fun e w' => e = .returned (.int .i64 3) ∧ Below W.heap.size W w') := fun W U => by
            have q := rqpush_no gq s1.c.room.toNat s1.ls A L d W Xq1 (HR1.out.below U).2.1 (by rw [quPushE_64 h64, if_pos hr]; decide)
            rw [quPushE_64 h64, if_pos hr] at q
            exact q
          clear hR hla hfz hp1 hB hM hx hEe hr e0 e1 c7 c8 c9 hL
          go_wp2_with (fail)
          go_region_held3 (fun w' => w'.cell? ⟨g, 7, none⟩ = some (.pointer (some ⟨gq, 0, none⟩)) ∧ w'.cell? ⟨g, 8, none⟩ = some (Value.slice (some ⟨b, 0, none⟩) M pc) ∧ w'.cell? ⟨g, 9, none⟩ = some (.int .i64 (E : Int)) ∧ w'.cell? ⟨b, 0, none⟩ = some (.int .i64 (E : Int)) ∧ w'.cell? ⟨b, 1, none⟩ = some (Value.slice A L d)) (first | exact K0.out | exact K2.out)
            (first
              | (go_at_call 46; (with_reducible refine (HPU.out _ (by first | exact P0 | exact P0.drew)).mono ?_); rintro e w2 ⟨rfl, U2⟩; have T2 := nxt (by first | exact P0 | exact P0.drew) U2; have K2 := Lib.hid (HC.out w2 (Off.of_below T2))))
          all_goals
            go_wp2
            go_ret
            rw [HPE.out, HKK.out]
            exact ⟨rfl, _, Xq1, Xl1, HR1.out.below T2, HT1.out.next T2⟩
        · have HPC : Hid (plCan s1 = true) := by
            show _ = _
            unfold plCan
            rw [hla]
            simp only [hL, quPushE_64 h64, if_neg hr, hEe, hx]
            simp
          have HST : Hid (plStep s1 = { s1 with ls := s1.ls ++ [t.2], late := l, ent := s1.ent + 1 }) := by show _ = _; unfold plStep; rw [hla]
          have HPU : Hid (∀ W, Below wr.heap.size wr W → Calls Try.prog 46 #[.pointer (some ⟨gq, 0, none⟩), .slice A L d] W fun e w' => e = .returned (.int .i64 0) ∧ ∃ X', RQ gq s1.c.room.toNat (s1.ls ++ [t.2]) w' X' ∧ Turns Xq1 X' W w') := fun W U =>
            rqpush_yes gq s1.c.room.toNat s1.ls A L d t.2 W Xq1 (HR1.out.below U).2.1 (hB.below U) h64 (by omega)
          have HQ0 : Hid (∀ W w2 X', Below wr.heap.size wr W → RQ gq s1.c.room.toNat (s1.ls ++ [t.2]) w2 X' → Turns Xq1 X' W w2 → RLv g gq (.slice (some ⟨b, 0, none⟩) M pc) { s1 with ls := s1.ls ++ [t.2] } X' Xl1 w2 ∧ Turns (Tri3 g Xq1 Xl1) (Tri3 g X' Xl1) wr w2) := fun W w2 X' U q T => by
            have h := HR1.out
            rw [show s1.late.length = M by rw [hla, ← hM]; rfl] at h
            have := (h.below U).q q T
            exact ⟨this.1, (Turns.of_below U).trans this.2⟩
          have HMl : Hid (l.length = M - 1 ∧ (l.map ltV).length = M - 1 ∧ s1.late.length = M) := ⟨by omega, by simp; omega, by rw [hla, ← hM]; rfl⟩
          have hM64 : M ≤ 64 := by have := HK.out.2; have := HMl.out.2.2; omega
          clear hR hfz hp1 hB hM hx hr e0 e1 c7 c8 c9 hL
          go_wp2_with (fail)
          go_region_held3 (fun w' => w'.cell? ⟨g, 7, none⟩ = some (.pointer (some ⟨gq, 0, none⟩)) ∧ w'.cell? ⟨g, 8, none⟩ = some (Value.slice (some ⟨b, 0, none⟩) M pc) ∧ w'.cell? ⟨g, 9, none⟩ = some (.int .i64 (E : Int)) ∧ w'.cell? ⟨b, 0, none⟩ = some (.int .i64 (E : Int)) ∧ w'.cell? ⟨b, 1, none⟩ = some (Value.slice A L d)) (first | exact K0.out | exact K2.out)
            (first
              | (go_at_call 46; (with_reducible refine (HPU.out _ (by first | exact P0 | exact P0.drew)).mono ?_); rintro e w2 ⟨rfl, Xq2, q2, t2⟩; have HQ := Lib.hid (HQ0.out _ w2 Xq2 (by first | exact P0 | exact P0.drew) q2 t2); have t3 : Turns Xq1 Xq2 wr w2 := (by first | exact t2 | exact t2.undrew); have K2 := Lib.hid (HC.out w2 t3.off)))
          all_goals
            obtain ⟨-, -, x8, x9, -, xfz⟩ := HQ.out.1.cells
            have xf8 := xfz 8
            have xf9 := xfz 9
            have hg2 := lt_row HQ.out.1.1
            obtain ⟨P', pc', ev, -, -, -, rv0⟩ := HQ.out.1.lst
            injection ev with ev1 ev2 ev3
            subst ev1 ev3
            have rv0 : RV w2 (fun k => ¬ Xl1 k) 2 (some ⟨b, 0, none⟩) M pc ((t :: l).map ltV) := by rw [← hla]; rw [ev2]; exact rv0
            obtain ⟨A2, hd1, hd2, rv1⟩ := cut_lo_l rv0 1 hM1
            rw [show ((1 : Nat) : Int) = 1 from rfl] at hd1 hd2
            have rv1 : RV w2 (fun k => ¬ Xl1 k) 2 A2 (M - 1) (pc - 1) (l.map ltV) := rv1
            have TE := (Below.refl w2.heap.size w2).alloc (Nat.le_refl _) (.cells #[] 62)
            have x8e := (TE.cell (p := ⟨g, 8, none⟩) hg2).trans x8
            have HE0 := Lib.hid (empty_rowl w2 (LateZ Xl1 w2))
            have HTE := Lib.hid TE
            have HK1 := Lib.hid (rv1.below TE)
            have HXL := Lib.hid HQ.out.1.2.2.2.1
            have HEL : Hid (∀ w3 v3, Below w2.heap.size w2 w3 → OwnV 62 2 w3 w2.heap.size (LateZ Xl1 w2) v3 (l.map ltV) → ∃ Xl', RLv g gq v3 (plStep s1) Xq2 Xl' ((w3.setCell ⟨g, 8, none⟩ v3).setCell ⟨g, 9, none⟩ (.int .i64 ((E : Int) + 1))) ∧ Turns (Tri3 g Xq1 Xl1) (Tri3 g Xq2 Xl') wr ((w3.setCell ⟨g, 8, none⟩ v3).setCell ⟨g, 9, none⟩ (.int .i64 ((E : Int) + 1)))) := fun w3 v3 T ho => by
              obtain ⟨Xl', k1, k2⟩ := HQ.out.1.l T ho
              have k3 := k1.c (s' := { s1 with ls := s1.ls ++ [t.2], late := l, ent := s1.ent + 1 }) 9 (.int .i64 ((E : Int) + 1)) (by simp [lcells, hEe]) rfl rfl rfl
              rw [HST.out]
              exact ⟨Xl', k3.1, (HQ.out.2.trans k2).trans k3.2⟩
            have HLM := Lib.hid HMl.out.2.1
            clear TE rv0 rv1 ev2 xfz K0 q2 t2 t3
            go_wp2_with (at_builtin; first
              | (refine app_rv Try.underlying53 Try.infoLt rfl (by decide) (by decide) _ rfl (.tmp 40) (.tmp 45) rfl w2.heap.size (LateZ Xl1 w2) (.slice (some ⟨w2.heap.size, 0, none⟩) 0 0) [] rfl ?_ (fun j => ¬ Xl1 j) _ _ _ (l.map ltV) rfl ?_ ?_ ?_ ?_ ?_ ?_; exact HE0.out; exact HK1.out; simp; omega; exact HTE.out.size; exact fun j _ hz hx => hz (.inl hx); exact (fun j hj => (by cases hj; exact fun hx => absurd (HXL.out _ hx) (Nat.lt_irrefl _))); intro v3 w3 hown3 hgrow3 hwhere3; have T3 := HTE.out.grown hgrow3 HTE.out.size (fun j hj => by cases hj; exact Nat.le_refl _); simp only [List.nil_append] at hown3; have c83 := (T3.cell (p := ⟨g, 8, none⟩) hg2).trans x8; have f83 := (frozen_of_block (T3.block g hg2) 8).trans xf8; have c93 := (T3.cell (p := ⟨g, 9, none⟩) hg2).trans x9; have f93 := (frozen_of_block (T3.block g hg2) 9).trans xf9; have HF := Lib.hid (HEL.out w3 v3 T3 hown3); obtain ⟨P3, c3, hv3, _⟩ := hown3.shape; rw [HLM.out] at hv3; subst hv3; clear hown3 hgrow3 hwhere3 T3))
            go_wp2_with (fail)
            go_roundw
            case rel =>
              obtain ⟨Xl', k1, k2⟩ := HF.out
              exact ⟨k + 1, plStep s1, _, Xq2, Xl', by go_num, ⟨by rw [HST.out]; show s1.ent + 1 = _; have := HK.out.1; omega, by have := plStep_len HPC.out; have := HK.out.2; omega⟩, k1, HO1.out.step HPC.out, by show _ = _; rw [← plEnter_yes HPC.out]; exact HE1.out, HT1.out.trans k2⟩
            case measure => simp [intOf]; have := HMl.out.2.2; have := HK.out.2; omega
      · have HPE : Hid (plEnter s = s1) := by
          show _ = _; rw [← HE1.out]
          refine plEnter_no ?_
          unfold plCan
          rw [hla]
          simp only [hEe, Bool.and_eq_false_iff, beq_eq_false_iff_ne]
          exact .inl hx
        have d1 : ¬ ((t.1 : Int) = (E : Int)) := by omega
        have d2 : ¬ (t.1 = E) := hx
        generalize t.1 = x at *
        generalize t.2.length = L at *
        clear hR hla hfz hp1 hB hM hx hEe
        go_wp2_with (fail)
        go_quiet (fail)
        go_wp2
        go_ret
        have B := below_drewN' P0 nq
        rw [HPE.out, HKK.out]
        exact ⟨rfl, _, Xq1, Xl1, HR1.out.below B, HT1.out.next B⟩
end Go.Proofs.Ytpidbgnlehikeaa
