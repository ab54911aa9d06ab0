/- What kedgeref28's Take and Receive answer. -/
import Derived.Test.YtoajbocpebfjoaaRgi
import Derived.Deep.DeepCutAuto
namespace Go.Proofs.Ytoajbocpebfjoaa
open Go.RowKit
set_option maxRecDepth 20000

theorem gv_row5 {w : World} {g : Nat} {t : TypeId} {a b c d e : Value} (h : w.heap[g]? = some (.cells #[a, b, c, d, e] t (0, 0))) : w.cell? ⟨g, 0, none⟩ = some a ∧ w.cell? ⟨g, 1, none⟩ = some b ∧ w.cell? ⟨g, 2, none⟩ = some c ∧ w.cell? ⟨g, 3, none⟩ = some d ∧ w.cell? ⟨g, 4, none⟩ = some e :=
  ⟨cell_of_row _ _ _ _ _ _ h, cell_of_row _ _ _ _ _ _ h, cell_of_row _ _ _ _ _ _ h, cell_of_row _ _ _ _ _ _ h, cell_of_row _ _ _ _ _ _ h⟩
abbrev tokO (kd : Int) (T C R : Nat) (A : Option Addr) (n c : Nat) : Obj := .cells #[.int .i64 kd, .int .u64 (T : Int), .int .u64 (C : Int), .int .u64 (R : Int), .slice A n c] 41
set_option maxHeartbeats 16000000 in
theorem rgtake_any (g gq gs : Nat) (s : Gvs) (Xq Xs : Nat → Prop) (kd : Int) (T C R : Nat) (A : Option Addr) (n c : Nat) (d : List UInt8) (w : World) (h : RGv g gq gs s Xq Xs w) (hB : Bys w A n c d) (hk : s.k < 1000000) (hent : s.ent < 1000000) :
    Calls Try.prog 15 #[.pointer (some ⟨g, 0, none⟩), .agg #[.int .i64 kd, .int .u64 (T : Int), .int .u64 (C : Int), .int .u64 (R : Int), .slice A n c]] w (GivesTks (RG g (gvTake s kd T C d)) (Ob3 g Xq Xs) (gvTakeL s kd T C) w) := by
  have T0 := (Below.refl _ w).alloc (Nat.le_refl _) (tokO kd T C R A n c)
  have hlt := h.lt
  have hgw : g < w.heap.size := hlt g (.inl rfl)
  have h1 := h.below T0
  have hB1 := hB.below T0
  have hn := heap_alloc_new w (tokO kd T C R A n c)
  have hlen := hB.len
  have HT0 := Lib.hid T0
  have HTU := Lib.hid (Turns.of_below (X := Ob3 g Xq Xs) T0)
  obtain ⟨W0, hW⟩ : ∃ W0, w.alloc (tokO kd T C R A n c) = W0 := ⟨_, rfl⟩
  rw [hW] at h1 hB1 hn HT0 HTU
  have HRW := Lib.hid (fun W (U : Below W0.heap.size W0 W) => And.intro (h1.below U) (And.intro (hB1.below U) ((U.block w.heap.size (lt_row hn)).trans hn)))
  obtain ⟨c0, c1, c2, c3, c4, c5, c6, c7, c8, c9, -⟩ := h1.cells
  obtain ⟨p0, p1, p2, p3, p4⟩ := gv_row5 hn
  have hGiv : ∀ (w4 : World) (s' : Gvs) (Xq' Xs' : Nat → Prop), RGv g gq gs s' Xq' Xs' w4 → Turns (Ob3 g Xq Xs) (Ob3 g Xq' Xs') W0 w4 → GivesTks (RG g s') (Ob3 g Xq Xs) [] w (.returned (.slice none 0 0)) w4 := fun _ _ _ _ R t =>
    ⟨_, _, _, _, rfl, Tks.nil _ _, ⟨_, _, _, _, R, rfl⟩, ⟨(Off.of_below HT0.out).trans t.off, fun k hk => (t.grow k hk).imp id (fun h => by have := HT0.out.size; omega)⟩⟩
  have HG := Lib.hid hGiv
  have HU0 := Lib.hid (fun k => below_drewN' (Below.refl W0.heap.size W0) k)
  obtain ⟨bi, hbi⟩ : ∃ bi, decide (gvIn s kd T C) = bi := ⟨_, rfl⟩
  have HBI := Lib.hid hbi
  clear h hB h1 hB1 hn hGiv hlen
  go_enter Try.func15, Try.ntmps15
  clear hbi
  go_wp2_with (fail)
  try rw [hW]
  clear hW
  go_cut [31] from 5 to 31 (fun v31 wx => v31 = .bool bi ∧ ∃ m, wx = W0.drewN m)
  case first =>
    by_cases e1 : kd = 2
    · have d1 : (kd == 2) = true := by simpa using e1
      cases ho : s.opn with
      | false =>
        have eb : bi = false := by rw [← HBI.out]; exact decide_eq_false (fun x => by have x2 := x.2.1; rw [ho] at x2; cases x2)
        rw [ho] at c3
        clear e1
        go_quiet (fail)
        go_wp2_with (fail)
        go_meet
        exact ⟨by rw [eb], nq, rfl⟩
      | true =>
        rw [ho] at c3
        by_cases e2 : T = s.t
        · have d2 : ((T : Int) == (s.t : Int)) = true := by simp; omega
          by_cases e3 : C = s.c
          · have d3 : ((C : Int) == (s.c : Int)) = true := by simp; omega
            have eb : bi = true := by rw [← HBI.out]; exact decide_eq_true ⟨e1, ho, e2, e3⟩
            clear e1 e2 e3
            go_quiet (fail)
            go_wp2_with (fail)
            go_meet
            exact ⟨by rw [eb], nq, rfl⟩
          · have d3 : ((C : Int) == (s.c : Int)) = false := by simp; omega
            have eb : bi = false := by rw [← HBI.out]; exact decide_eq_false (fun x => e3 x.2.2.2)
            clear e1 e2 e3
            go_quiet (fail)
            go_wp2_with (fail)
            go_meet
            exact ⟨by rw [eb], nq, rfl⟩
        · have d2 : ((T : Int) == (s.t : Int)) = false := by simp; omega
          have eb : bi = false := by rw [← HBI.out]; exact decide_eq_false (fun x => e2 x.2.2.1)
          clear e1 e2
          go_quiet (fail)
          go_wp2_with (fail)
          go_meet
          exact ⟨by rw [eb], nq, rfl⟩
    · have d1 : (kd == 2) = false := by simpa using e1
      have eb : bi = false := by rw [← HBI.out]; exact decide_eq_false (fun x => e1 x.1)
      clear e1
      go_quiet (fail)
      go_wp2_with (fail)
      go_meet
      exact ⟨by rw [eb], nq, rfl⟩
  case rest =>
    obtain ⟨rfl, m1, rfl⟩ := hcut
    have U1 := HU0.out m1
    obtain ⟨R1, B1, r1⟩ := HRW.out _ U1
    have HR1 := Lib.hid R1
    have HBY := Lib.hid B1
    have HP1 := Lib.hid r1
    have HU1 := Lib.hid U1
    obtain ⟨c0, c1, c2, c3, c4, c5, c6, c7, c8, c9, -⟩ := R1.cells
    obtain ⟨p0, p1, p2, p3, p4⟩ := gv_row5 r1
    have hpk : ¬ Ob3 g Xq Xs w.heap.size := fun e => by have := hlt _ e; omega
    have hp1 : w.heap.size < (W0.drewN m1).heap.size := lt_row r1
    clear HRW R1 B1 r1 HU0 U1
    generalize W0.drewN m1 = W1 at *
    clear T0
    generalize hpb : w.heap.size = pb at *
    have HPB := Lib.hid hpb
    clear hpb
    have P1 := Below.refl W1.heap.size W1
    cases bi with
    | true =>
      have hin : gvIn s kd T C := of_decide_eq_true HBI.out
      have HS : Hid (gvTake s kd T C d = gvPush s T d ∧ gvTakeL s kd T C = []) := ⟨by unfold gvTake; rw [if_pos hin], by unfold gvTakeL; rw [if_pos hin]⟩
      have HPU := Lib.hid (fun W (U : Below W1.heap.size W1 W) => rqpush_any gq s.room s.ls A n c d W Xq (HR1.out.below U).2.1 (HBY.out.below U))
      have HQ2 := Lib.hid (fun W (U : Below W1.heap.size W1 W) w2 Xq' (q2 : RQ gq s.room (quPush s.room s.ls d) w2 Xq') (t2 : Turns Xq Xq' W w2) =>
        have r := (HR1.out.below U).q q2 t2
        have t : Turns (Ob3 g Xq Xs) (Ob3 g Xq' Xs) W1 w2 := (Turns.of_below U).trans r.2
        And.intro r.1 (And.intro t ((t.off.block pb hp1 hpk).trans HP1.out)))
      have KO : Hid (∀ w2 s2 Xq', RGv g gq gs s2 Xq' Xs w2 → w2.heap[pb]? = some (tokO kd T C R A n c) → w2.cell? ⟨g, 0, none⟩ = some (.pointer (some ⟨gq, 0, none⟩)) ∧ w2.cell? ⟨pb, 4, none⟩ = some (.slice A n c)) := fun w2 s2 Xq' r hp => ⟨r.cells.1, (gv_row5 hp).2.2.2.2⟩
      have K1 : Hid (W1.cell? ⟨g, 0, none⟩ = some (.pointer (some ⟨gq, 0, none⟩)) ∧ W1.cell? ⟨pb, 4, none⟩ = some (.slice A n c)) := ⟨c0, p4⟩
      have hln : d.length = n := HBY.out.len
      have HT : Hid (kd = 2 ∧ s.opn = true ∧ T = s.t ∧ C = s.c) := hin
      clear hin
      by_cases hq : quPushE s.room s.ls n = 0
      · have hpl : quPush s.room s.ls d = s.ls ++ [d] := by unfold quPush; rw [hln]; exact if_pos hq
        have HS2 : Hid (gvPush s T d = { s with ls := s.ls ++ [d], opn := false, has := true, last := T, ent := s.ent + 1 }) := by show _ = _; unfold gvPush; rw [hln, if_pos hq]
        rw [hq] at HPU
        rw [hpl] at HPU HQ2
        obtain ⟨a, ha⟩ : ∃ a, s.ent + 1 = a := ⟨_, rfl⟩
        have ea : (s.ent : Int) + 1 = (a : Int) := by omega
        have ha6 : a ≤ 1000000 := by omega
        rw [ha] at HS2
        clear hq hpl hln ha c1 c2 c3 c4 c5 c6 c7 c8 c9 p0 p2 p3
        go_wp2_with (fail)
        go_region_held3 (fun w' => w'.cell? ⟨g, 0, none⟩ = some (.pointer (some ⟨gq, 0, none⟩)) ∧ w'.cell? ⟨pb, 4, none⟩ = some (.slice A n c)) (first | exact K1.out | exact K2.out)
          (first
            | (go_at_call 32; (with_reducible refine (HPU.out _ (by first | exact P1 | exact P1.drew)).mono ?_); rintro e w2 ⟨rfl, Xq', q2, t2⟩; have HL2 := Lib.hid (HQ2.out _ (by first | exact P1 | exact P1.drew) _ _ q2 t2); have K2 := Lib.hid (KO.out _ _ _ HL2.out.1 HL2.out.2.2)))
        all_goals
          have R2 := HL2.out.1
          obtain ⟨d0, d1, d2, d3, d4, d5, d6, d7, d8, d9, df⟩ := R2.cells
          obtain ⟨q0, q1, q2', q3, q4⟩ := gv_row5 HL2.out.2.2
          have df3 := df 3
          have df4 := df 4
          have df7 := df 7
          have df8 := df 8
          clear df q2 t2 K1 K2 KO HPU HQ2 R2 c0 p1 p4
          go_wp2_with (fail)
          go_region
          have R2 := HL2.out.1
          obtain ⟨R3, k3⟩ := R2.c (s' := { s with ls := s.ls ++ [d], opn := false }) 3 (.bool false) rfl rfl rfl rfl rfl
          obtain ⟨R4, k4⟩ := R3.c (s' := { s with ls := s.ls ++ [d], opn := false, has := true }) 4 (.bool true) rfl rfl rfl rfl rfl
          obtain ⟨R5, k5⟩ := R4.c (s' := { s with ls := s.ls ++ [d], opn := false, has := true, last := T }) 7 (.int .u64 (T : Int)) rfl rfl rfl rfl rfl
          have R6 := R5.below (Below.refl _ _).drew
          have HK6 := Lib.hid ((HL2.out.2.1.trans (k3.trans (k4.trans k5))).next (Below.refl _ _).drew)
          have HR6 := Lib.hid R6
          clear R2 R3 k3 R4 k4 R5 k5 R6 d0 d1 d2 d3 d4 d5 d6 d7 d8 d9 q0 q1 q2' q3 q4 df3 df4 df7 df8
          generalize (((w2.setCell ⟨g, 3, none⟩ (.bool false)).setCell ⟨g, 4, none⟩ (.bool true)).setCell ⟨g, 7, none⟩ (.int .u64 (T : Int))).drew = W3 at *
          have f8 := HR6.out.froz 8
          have d8 : W3.cell? ⟨g, 8, none⟩ = some (.int .i64 (s.ent : Int)) := HR6.out.cells.2.2.2.2.2.2.2.2.1
          have HR7 := Lib.hid (HR6.out.c (s' := { s with ls := s.ls ++ [d], opn := false, has := true, last := T, ent := a }) 8 (.int .i64 (a : Int)) rfl rfl rfl rfl rfl)
          go_wp2
          go_ret
          rw [HS.out.1, HS.out.2, HS2.out]
          exact HG.out _ _ _ _ HR7.out.1 ((Turns.of_below HU1.out).trans (HK6.out.trans HR7.out.2))
      · have hpl : quPush s.room s.ls d = s.ls := by unfold quPush; rw [hln]; exact if_neg hq
        have HS2 : Hid (gvPush s T d = s) := by show _ = _; unfold gvPush; rw [hln, if_neg hq]
        rw [hpl] at HPU HQ2
        have hne : ((quPushE s.room s.ls n : Int) == 0) = false := by simp; omega
        generalize quPushE s.room s.ls n = E at *
        clear hq hpl hln c1 c2 c3 c4 c5 c6 c7 c8 c9 p0 p2 p3
        go_wp2_with (fail)
        go_region_held3 (fun w' => w'.cell? ⟨g, 0, none⟩ = some (.pointer (some ⟨gq, 0, none⟩)) ∧ w'.cell? ⟨pb, 4, none⟩ = some (.slice A n c)) (first | exact K1.out | exact K2.out)
          (first
            | (go_at_call 32; (with_reducible refine (HPU.out _ (by first | exact P1 | exact P1.drew)).mono ?_); rintro e w2 ⟨rfl, Xq', q2, t2⟩; have HL2 := Lib.hid (HQ2.out _ (by first | exact P1 | exact P1.drew) _ _ q2 t2); have K2 := Lib.hid (KO.out _ _ _ HL2.out.1 HL2.out.2.2)))
        all_goals
          clear q2 t2 K1 K2 KO HPU HQ2 c0 p1 p4
          go_wp2
          go_ret
          rw [HS.out.1, HS.out.2, HS2.out]
          exact HG.out _ _ _ _ HL2.out.1 ((Turns.of_below HU1.out).trans HL2.out.2.1)
    | false =>
      have hnin : ¬ gvIn s kd T C := of_decide_eq_false HBI.out
      have HS : Hid (gvTake s kd T C d = (if gvOld s kd T then s else if kd = 0 then gvOpen s T else s) ∧ gvTakeL s kd T C = (if gvOld s kd T then gvAck s else if kd = 0 then [(1, T, (gvOpen s T).c, s.r, [])] else [])) := ⟨by unfold gvTake; rw [if_neg hnin], by unfold gvTakeL; rw [if_neg hnin]⟩
      obtain ⟨bo, hbo⟩ : ∃ bo, decide (gvOld s kd T) = bo := ⟨_, rfl⟩
      have HBO := Lib.hid hbo
      have HU2 := Lib.hid (fun k => below_drewN' (Below.refl W1.heap.size W1) k)
      clear hnin hbo HBI
      go_wp2_with (fail)
      go_cut [80] from 58 to 80 (fun v80 wx => v80 = .bool bo ∧ ∃ m, wx = W1.drewN m)
      case first =>
        have fin : ∀ b', (gvOld s kd T ↔ b' = true) → bo = b' := fun b' hb => by
          rw [← HBO.out]
          cases b' with
          | true => exact decide_eq_true (hb.2 rfl)
          | false => exact decide_eq_false (fun x => by have := hb.1 x; cases this)
        by_cases e0 : kd = 0 ∨ kd = 2
        · have dd : (kd == 0) = true ∨ ((kd == 0) = false ∧ (kd == 2) = true) := by
            rcases e0 with rfl | rfl
            · exact .inl rfl
            · exact .inr ⟨rfl, rfl⟩
          cases ho : s.has with
          | false =>
            have eb := fin false ⟨(fun x => by have x2 := x.2.1; rw [ho] at x2; cases x2), (fun x => by cases x)⟩
            rw [ho] at c4
            clear e0 fin
            rcases dd with d1 | ⟨d1, d2⟩
            · go_quiet (fail)
              go_wp2_with (fail)
              go_meet
              exact ⟨by rw [eb], nq, rfl⟩
            · go_quiet (fail)
              go_wp2_with (fail)
              go_meet
              exact ⟨by rw [eb], nq, rfl⟩
          | true =>
            rw [ho] at c4
            by_cases e2 : T = s.last
            · have d2 : ((T : Int) == (s.last : Int)) = true := by simp; omega
              have eb := fin true ⟨fun _ => rfl, fun _ => ⟨e0, ho, e2⟩⟩
              clear e0 fin e2
              rcases dd with d1 | ⟨d1, d3⟩
              · go_quiet (fail)
                go_wp2_with (fail)
                go_meet
                exact ⟨by rw [eb], nq, rfl⟩
              · go_quiet (fail)
                go_wp2_with (fail)
                go_meet
                exact ⟨by rw [eb], nq, rfl⟩
            · have d2 : ((T : Int) == (s.last : Int)) = false := by simp; omega
              have eb := fin false ⟨(fun x => absurd x.2.2 e2), (fun x => by cases x)⟩
              clear e0 fin e2
              rcases dd with d1 | ⟨d1, d3⟩
              · go_quiet (fail)
                go_wp2_with (fail)
                go_meet
                exact ⟨by rw [eb], nq, rfl⟩
              · go_quiet (fail)
                go_wp2_with (fail)
                go_meet
                exact ⟨by rw [eb], nq, rfl⟩
        · have d1 : (kd == 0) = false := by simp; omega
          have d2 : (kd == 2) = false := by simp; omega
          have eb := fin false ⟨(fun x => absurd x.1 e0), (fun x => by cases x)⟩
          clear e0 fin
          go_quiet (fail)
          go_wp2_with (fail)
          go_meet
          exact ⟨by rw [eb], nq, rfl⟩
      case rest =>
        obtain ⟨rfl, m2, rfl⟩ := hcut
        have U2 := HU2.out m2
        have HR2 := Lib.hid (HR1.out.below U2)
        have HP2 := Lib.hid ((U2.block pb hp1).trans HP1.out)
        have hp2 : pb < (W1.drewN m2).heap.size := lt_row HP2.out
        have HK2 := Lib.hid (nxt HU1.out U2)
        obtain ⟨c0, c1, c2, c3, c4, c5, c6, c7, c8, c9, -⟩ := HR2.out.cells
        obtain ⟨p0, p1, p2, p3, p4⟩ := gv_row5 HP2.out
        clear U2 HU2 HR1 HP1 hp1 HBY
        generalize W1.drewN m2 = W2 at *
        cases bo with
        | true =>
          have hold : gvOld s kd T := of_decide_eq_true HBO.out
          have HS2 : Hid (gvTake s kd T C d = s ∧ gvTakeL s kd T C = gvAck s) := ⟨by rw [HS.out.1, if_pos hold], by rw [HS.out.2, if_pos hold]⟩
          have HKN := Lib.hid (rgknown_any g gq gs s Xq Xs W2 HR2.out)
          clear hold HS
          go_wp2_with (fail)
          refine HKN.out.mono ?_
          rintro e w3 ⟨A3, n3, c3', rfl, k3, T3⟩
          have HE := Lib.hid (And.intro k3 T3)
          clear k3 T3
          go_wp2
          go_ret
          rw [HS2.out.1, HS2.out.2]
          have hs2 := HK2.out.size
          refine ⟨_, _, _, Ob3 g Xq Xs, rfl, HE.out.1.imp (fun k _ hk => ?_), ⟨_, _, _, _, HR2.out.below HE.out.2, rfl⟩, HTU.out.trans (Turns.of_below (nxt HK2.out HE.out.2))⟩
          rcases hk with hk | hk
          · exact HR2.out.lt k hk
          · have := HT0.out.size; omega
        | false =>
          have hnold : ¬ gvOld s kd T := of_decide_eq_false HBO.out
          by_cases hk0 : kd = 0
          · have d1 : (kd != 0) = false := by simp [hk0]
            have HS2 : Hid (gvTake s kd T C d = gvOpen s T ∧ gvTakeL s kd T C = [(1, T, (gvOpen s T).c, s.r, [])]) := ⟨by rw [HS.out.1, if_neg hnold, if_pos hk0], by rw [HS.out.2, if_neg hnold, if_pos hk0]⟩
            obtain ⟨bq, hbq⟩ : ∃ bq, decide (s.opn = true ∧ s.t = T) = bq := ⟨_, rfl⟩
            have HBQ := Lib.hid hbq
            have HU3 := Lib.hid (fun k => below_drewN' (Below.refl W2.heap.size W2) k)
            clear hnold HS hk0 hbq HBO
            go_wp2_with (fail)
            go_cut [99] from 86 to 99 (fun v99 wx => v99 = .bool (!bq) ∧ ∃ m, wx = W2.drewN m)
            case first =>
              cases ho : s.opn with
              | false =>
                have eb : bq = false := by rw [← HBQ.out]; exact decide_eq_false (fun x => by have x2 := x.1; rw [ho] at x2; cases x2)
                rw [ho] at c3
                go_quiet (fail)
                go_wp2_with (fail)
                go_meet
                exact ⟨by rw [eb]; rfl, nq, rfl⟩
              | true =>
                rw [ho] at c3
                by_cases e2 : s.t = T
                · have d2 : ((s.t : Int) != (T : Int)) = false := by simp; omega
                  have eb : bq = true := by rw [← HBQ.out]; exact decide_eq_true ⟨ho, e2⟩
                  clear e2
                  go_quiet (fail)
                  go_wp2_with (fail)
                  go_meet
                  exact ⟨by rw [eb]; rfl, nq, rfl⟩
                · have d2 : ((s.t : Int) != (T : Int)) = true := by simp; omega
                  have eb : bq = false := by rw [← HBQ.out]; exact decide_eq_false (fun x => e2 x.2)
                  clear e2
                  go_quiet (fail)
                  go_wp2_with (fail)
                  go_meet
                  exact ⟨by rw [eb]; rfl, nq, rfl⟩
            case rest =>
              obtain ⟨rfl, m3, rfl⟩ := hcut
              have U3 := HU3.out m3
              have HR3 := Lib.hid (HR2.out.below U3)
              have HP3 := Lib.hid ((U3.block pb hp2).trans HP2.out)
              have hp3 : pb < (W2.drewN m3).heap.size := lt_row HP3.out
              have HK3 := Lib.hid (nxt HK2.out U3)
              clear c0 c1 c2 c3 c4 c5 c6 c7 c8 c9 p0 p1 p2 p3 p4
              obtain ⟨c0, c1, c2, c3, c4, c5, c6, c7, c8, c9, -⟩ := HR3.out.cells
              obtain ⟨p0, p1, p2, p3, p4⟩ := gv_row5 HP3.out
              clear U3 HU3 HR2 HP2 hp2 HK2
              generalize W2.drewN m3 = W3 at *
              cases bq with
              | true =>
                have hop : s.opn = true ∧ s.t = T := of_decide_eq_true HBQ.out
                have HS3 : Hid (gvOpen s T = s) := by show _ = _; unfold gvOpen; rw [if_pos hop]
                obtain ⟨-, rfl⟩ := hop
                go_wp2_with (fail)
                go_region
                go_wp2
                go_ret
                rw [HS2.out.1, HS2.out.2, HS3.out]
                have T4 := ((Below.refl _ W3).drew).alloc (Nat.le_refl _) (tokO 1 s.t s.c s.r none 0 0)
                refine ⟨_, _, _, Ob3 g Xq Xs, rfl, Tks.one (w := W3.drew) (Bys.nil _) (Av.none _ _) (fun hk => ?_), ⟨_, _, _, _, HR3.out.below T4, rfl⟩, HTU.out.trans (Turns.of_below (nxt HK3.out T4))⟩
                have hs3 := HK3.out.size
                have hs0 := HT0.out.size
                have hk : Ob3 g Xq Xs W3.heap.size ∨ W3.heap.size < w.heap.size := hk
                rcases hk with hk | hk
                · have := HR3.out.lt _ hk; omega
                · have := HPB.out; omega
              | false =>
                have hop : ¬ (s.opn = true ∧ s.t = T) := of_decide_eq_false HBQ.out
                have HS3 : Hid (gvOpen s T = { s with opn := true, t := T, c := nx s.l s.k, k := s.k + 1 }) := by show _ = _; unfold gvOpen; rw [if_neg hop]
                have P3 := Below.refl W3.heap.size W3
                have HNX := Lib.hid (fun W (U : Below W3.heap.size W3 W) => rnnext_any gs s.l s.k W Xs (HR3.out.below U).2.2.1 hk)
                have HN2 := Lib.hid (fun W (U : Below W3.heap.size W3 W) w4 Xs' (n4 : RN gs s.l (s.k + 1) w4 Xs') (t4 : Turns Xs Xs' W w4) =>
                  have r := (HR3.out.below U).n n4 t4
                  have t : Turns (Ob3 g Xq Xs) (Ob3 g Xq Xs') W3 w4 := (Turns.of_below U).trans r.2
                  And.intro r.1 (And.intro t ((t.off.block pb hp3 hpk).trans HP3.out)))
                have KO : Hid (∀ w4 s4 Xs', RGv g gq gs s4 Xq Xs' w4 → w4.heap[pb]? = some (tokO kd T C R A n c) → w4.cell? ⟨g, 1, none⟩ = some (.pointer (some ⟨gs, 0, none⟩)) ∧ w4.cell? ⟨pb, 1, none⟩ = some (.int .u64 (T : Int))) := fun w4 s4 Xs' r hp => ⟨r.cells.2.1, (gv_row5 hp).2.1⟩
                have K1 : Hid (W3.cell? ⟨g, 1, none⟩ = some (.pointer (some ⟨gs, 0, none⟩)) ∧ W3.cell? ⟨pb, 1, none⟩ = some (.int .u64 (T : Int))) := ⟨c1, p1⟩
                generalize nx s.l s.k = x at *
                obtain ⟨kk, hkk⟩ : ∃ kk, s.k + 1 = kk := ⟨_, rfl⟩
                rw [hkk] at HS3 HNX HN2
                have hgp : g ≠ pb := fun e => hpk (.inl e.symm)
                have HS4 : Hid (∀ (w4 : World) (s4 : Gvs) Xs', RGv g gq gs s4 Xq Xs' w4 → ∀ s5, s5.room = s4.room → s5.ls = s4.ls → s5.l = s4.l → s5.k = s4.k → w4.heap[pb]? = some (tokO kd T C R A n c) → ∀ j v, (gvcells gq gs s4).setIfInBounds j v = gvcells gq gs s5 → RGv g gq gs s5 Xq Xs' (w4.setCell ⟨g, j, none⟩ v) ∧ Turns (Ob3 g Xq Xs') (Ob3 g Xq Xs') w4 (w4.setCell ⟨g, j, none⟩ v) ∧ (w4.setCell ⟨g, j, none⟩ v).heap[pb]? = some (tokO kd T C R A n c)) := fun w4 s4 Xs' r s5 e1 e2 e3 e4 hp j v hc => by
                  have q := r.c (s' := s5) j v hc e1 e2 e3 e4
                  exact ⟨q.1, q.2, (heap_setCell_other w4 ⟨g, j, none⟩ pb v (fun e => hgp e.symm)).trans hp⟩
                clear hop hkk
                clear c0 c2 c3 c4 c5 c6 c7 c8 c9 p0 p2 p3 p4
                go_wp2_with (fail)
                go_region_held3 (fun w' => w'.cell? ⟨g, 1, none⟩ = some (.pointer (some ⟨gs, 0, none⟩)) ∧ w'.cell? ⟨pb, 1, none⟩ = some (.int .u64 (T : Int))) (first | (with_reducible exact K1.out) | (with_reducible exact K2.out) | (with_reducible exact K3.out) | (with_reducible exact K4.out) | (with_reducible exact K5.out) | exact K1.out)
                  (first
                    | (go_at_call 28; (with_reducible refine (HNX.out _ (by first | exact P3 | exact P3.drew)).mono ?_); rintro e w4 ⟨rfl, Xs', n4, t4⟩; have HL4 := Lib.hid (HN2.out _ (by first | exact P3 | exact P3.drew) _ _ n4 t4); have HA := Lib.hid (HS4.out w4 _ _ HL4.out.1 { s with opn := true, k := kk } rfl rfl rfl rfl HL4.out.2.2 3 (.bool true) rfl); have HB := Lib.hid (HS4.out _ _ _ HA.out.1 { s with opn := true, t := T, k := kk } rfl rfl rfl rfl HA.out.2.2 5 (.int .u64 (T : Int)) rfl); have HC := Lib.hid (HS4.out _ _ _ HB.out.1 { s with opn := true, t := T, c := x, k := kk } rfl rfl rfl rfl HB.out.2.2 6 (.int .u64 (x : Int)) rfl); have K2 := Lib.hid (KO.out _ _ _ HL4.out.1 HL4.out.2.2); have K3 := Lib.hid (KO.out _ _ _ HA.out.1 HA.out.2.2); have K4 := Lib.hid (KO.out _ _ _ HB.out.1 HB.out.2.2); have K5 := Lib.hid (KO.out _ _ _ HC.out.1 HC.out.2.2); have f3 := HL4.out.1.froz 3; have f5 := HL4.out.1.froz 5; have f6 := HL4.out.1.froz 6; obtain ⟨-, -, -, d3, -, d5, d6, -, -, -, -⟩ := HL4.out.1.cells))
                all_goals
                  have HR5 := Lib.hid HC.out.1
                  have HK5 := Lib.hid (HL4.out.2.1.trans (HA.out.2.1.trans (HB.out.2.1.trans HC.out.2.1)))
                  clear HA HB HC K2 K3 K4 K5 HL4 n4 t4 d3 d5 d6 f3 f5 f6 HS4 HN2 HNX KO K1 c1 p1
                  generalize (((w4.setCell ⟨g, 3, none⟩ (.bool true)).setCell ⟨g, 5, none⟩ (.int .u64 (T : Int))).setCell ⟨g, 6, none⟩ (.int .u64 (x : Int))) = W5 at *
                  obtain ⟨-, -, c2, -, -, c5, c6, -, -, -, -⟩ := HR5.out.cells
                  go_wp2_with (fail)
                  go_region
                  go_wp2
                  go_ret
                  rw [HS2.out.1, HS2.out.2, HS3.out]
                  have T6 := ((Below.refl _ W5).drew).alloc (Nat.le_refl _) (tokO 1 T x s.r none 0 0)
                  refine ⟨_, _, _, Ob3 g Xq Xs', rfl, Tks.one (w := W5.drew) (Bys.nil _) (Av.none _ _) (fun hk => ?_), ⟨_, _, _, _, HR5.out.below T6, rfl⟩, HTU.out.trans ((Turns.of_below HK3.out).trans (HK5.out.next T6))⟩
                  have hs3 := HK3.out.size
                  have hs5 := HK5.out.off.size
                  have hs0 := HT0.out.size
                  have hk : Ob3 g Xq Xs' W5.heap.size ∨ W5.heap.size < w.heap.size := hk
                  rcases hk with hk | hk
                  · have := HR5.out.lt _ hk; omega
                  · have := HPB.out; omega
          · have d1 : (kd != 0) = true := by simp [hk0]
            have HS2 : Hid (gvTake s kd T C d = s ∧ gvTakeL s kd T C = []) := ⟨by rw [HS.out.1, if_neg hnold, if_neg hk0], by rw [HS.out.2, if_neg hnold, if_neg hk0]⟩
            clear hnold HS hk0
            go_wp2
            go_ret
            rw [HS2.out.1, HS2.out.2]
            exact HG.out _ _ _ _ HR2.out (Turns.of_below HK2.out)
/-- a message and packets told of an object: they avoid it -/
def GivesRvT (F : World → (Nat → Prop) → Prop) (X : Nat → Prop) (l : List UInt8) (b : Bool) (tl : List Tok) (w : World) (e : Ending) (w' : World) : Prop := ∃ A n c B m d X', e = .returned (.tuple #[.slice A n c, .slice B m d, .bool b]) ∧ Bys w' A n c l ∧ Av X' n A ∧ Tks w' (fun k => X' k ∨ k < w.heap.size) B m d tl ∧ F w' X' ∧ Turns X X' w w'
set_option maxHeartbeats 4000000 in
theorem rgrecv_any (g gq gs : Nat) (s : Gvs) (Xq Xs : Nat → Prop) (w : World) (h : RGv g gq gs s Xq Xs w) (hret : s.ret < 1000000) :
    Calls Try.prog 17 #[.pointer (some ⟨g, 0, none⟩)] w (GivesRvT (RG g (gvRecv s)) (Ob3 g Xq Xs) (s.ls.headD []) (!s.ls.isEmpty) (gvRecvL s) w) := by
  obtain ⟨c0, -, -, -, -, -, -, -, -, c9, -⟩ := h.cells
  have HR := Lib.hid h
  by_cases h0 : s.ls = []
  · have HS : Hid (gvRecv s = s ∧ gvRecvL s = [] ∧ s.ls.headD [] = [] ∧ (!s.ls.isEmpty) = false) := ⟨by unfold gvRecv; rw [if_pos h0], by unfold gvRecvL; rw [if_pos h0], by rw [h0]; rfl, by rw [h0]; rfl⟩
    have HQ := Lib.hid (rqpop_no gq s.room w Xq (h0 ▸ h.2.1))
    rw [HS.out.1, HS.out.2.1, HS.out.2.2.1, HS.out.2.2.2]
    clear h h0 HS
    go_enter Try.func17, Try.ntmps17
    go_wp2_with (fail)
    refine HQ.out.mono ?_
    rintro e w1 ⟨rfl, rfl⟩
    go_wp2
    go_ret3
    exact ⟨_, _, _, _, _, _, _, rfl, Bys.nil _, Av.none _ _, Tks.nil _ _, ⟨_, _, _, _, HR.out, rfl⟩, Turns.of_below (Below.refl _ _)⟩
  · have HS : Hid (gvRecv s = gvPop s ∧ gvRecvL s = gvAck (gvPop s) ∧ (!s.ls.isEmpty) = true) := ⟨by unfold gvRecv; rw [if_neg h0], by unfold gvRecvL; rw [if_neg h0], by cases hl : s.ls with | nil => exact absurd hl h0 | cons a r => rfl⟩
    have hq := rqpop_any2 gq s.room s.ls w Xq h.2.1
    rw [HS.out.2.2] at hq
    have HQ := Lib.hid hq
    rw [HS.out.1, HS.out.2.1, HS.out.2.2]
    obtain ⟨rr, hrr⟩ : ∃ rr, s.ret + 1 = rr := ⟨_, rfl⟩
    have er : (s.ret : Int) + 1 = (rr : Int) := by omega
    have hr6 : rr ≤ 1000000 := by omega
    have HP : Hid (gvPop s = { s with ls := s.ls.tail, ret := rr }) := by show _ = _; unfold gvPop; rw [hrr]
    rw [HP.out]
    clear h h0 HS hq hrr
    generalize s.ls.headD [] = mm at *
    go_enter Try.func17, Try.ntmps17
    go_wp2_with (fail)
    refine HQ.out.mono ?_
    rintro e w1 ⟨A, n, c, Xq', rfl, B1, q1, t1, v1⟩
    obtain ⟨R1, k1⟩ := HR.out.q q1 t1
    have bf9 := R1.froz 9
    have b9 : w1.cell? ⟨g, 9, none⟩ = some (.int .i64 (s.ret : Int)) := R1.cells.2.2.2.2.2.2.2.2.2.1
    have R2 := R1.c (s' := { s with ls := s.ls.tail, ret := rr }) 9 (.int .i64 (rr : Int)) rfl rfl rfl rfl rfl
    have HKN := Lib.hid (rgknown_any g gq gs _ Xq' Xs _ R2.1)
    have hdis := HR.out.2.2.2
    have hAv : Av (Ob3 g Xq' Xs) n A := v1.imp (fun k hk => by
      rcases hk with rfl | hk | hk
      · exact .inr hdis.1
      · exact .inl hk
      · exact .inr (fun hx => hdis.2.2 k hx hk))
    have hB2 := B1.off hAv R2.2.off
    have HB := Lib.hid (And.intro hB2 hAv)
    have HK2 := Lib.hid (k1.trans R2.2)
    have HR2 := Lib.hid R2.1
    clear hB2 hAv hdis R1 R2 k1 q1 t1 B1 v1 c0 c9
    go_wp2_with (fail)
    refine HKN.out.mono ?_
    rintro e w2 ⟨A2, n2, c2, rfl, k2, T2⟩
    have HE := Lib.hid (And.intro k2 T2)
    clear k2 T2
    go_wp2
    go_ret3
    have hs := HK2.out.off.size
    refine ⟨A, n, c, A2, n2, c2, Ob3 g Xq' Xs, rfl, HB.out.1.below HE.out.2, HB.out.2, HE.out.1.imp (fun k _ hk => ?_), ⟨_, _, _, _, HR2.out.below HE.out.2, rfl⟩, HK2.out.next HE.out.2⟩
    rcases hk with hk | hk
    · exact HR2.out.lt k hk
    · omega
end Go.Proofs.Ytoajbocpebfjoaa
