/- What kedgeref25's Take and Receive answer. -/
import Derived.Test.YtpidbgnlehikeaaRpl4
import Derived.Deep.RegionLaw
namespace Go.Proofs.Ytpidbgnlehikeaa
open Go.RowKit
set_option maxRecDepth 20000

def GivesRl (g gq : Nat) (s' : Pls) (l : List Sld) (Xq Xl : Nat → Prop) (w : World) (e : Ending) (w' : World) : Prop := ∃ vo v' Xq' Xl', e = .returned vo ∧ Out w (Tri3 g Xq' Xl') vo l w' ∧ RLv g gq v' s' Xq' Xl' w' ∧ Turns (Tri3 g Xq Xl) (Tri3 g Xq' Xl') w w'
set_option maxHeartbeats 16000000 in
theorem rltake_any (g gq : Nat) (v : Value) (s : Pls) (Xq Xl : Nat → Prop) (ack : Bool) (seq : Int) (bits : Nat) (A : Option Addr) (n c : Nat) (m : List UInt8) (w : World) (h : RLv g gq v s Xq Xl w) (hok : PlOk s) (hb : s.ent ≤ 200000) (hB : Bys w A n c m) :
    Calls Try.prog 13 #[.pointer (some ⟨g, 0, none⟩), .agg #[.bool ack, .int .i64 seq, .int .u64 (bits : Int), .slice A n c]] w (GivesRl g gq (plTake s ack seq m) (plTakeL s ack seq m) Xq Xl w) := by
  have T0 := (Below.refl _ w).alloc (Nat.le_refl _) (.cells #[.bool ack, .int .i64 seq, .int .u64 (bits : Int), .slice A n c] 38)
  have n0 := heap_alloc_new w (.cells #[.bool ack, .int .i64 seq, .int .u64 (bits : Int), .slice A n c] 38)
  have R0 := h.below T0
  obtain ⟨⟨c1, c2⟩, -, -, c9, -, -⟩ := R0.cells
  obtain ⟨⟨p0, p1, p2, p3⟩, _⟩ := row4 n0
  have HR := Lib.hid R0
  have HT0 := Lib.hid T0
  have HB := Lib.hid (hB.below T0)
  have hml := hB.len
  have HNR := Lib.hid (fun W => (rrnear_any (s.ent : Int) s.c.w seq s.c.m W).mono (fun _ _ h => And.intro h.1 h.2.symm))
  obtain ⟨k1, k2, -, -, -⟩ := hok.kept seq m
  have hl64 := hok.llen
  obtain ⟨-, k6, k7, -⟩ := hok.take false seq m
  have k8 := k1.enter.1
  cases ack with
  | true =>
    have H1 : Hid (plTakeL s true seq m = [] ∧ plTake s true seq m = s) := ⟨if_pos rfl, if_pos rfl⟩
    clear h hok hB T0 n0 R0 k1 k2 k6 k7 k8
    go_enter Try.func13, Try.ntmps13
    go_wp2
    go_ret
    rw [H1.out.1, H1.out.2]
    exact ⟨_, _, Xq, Xl, rfl, Out.nil _ _ _, HR.out, Turns.of_below HT0.out⟩
  | false =>
    have e1 : plTake s false seq m = plEnter (plKept s seq m) := if_neg (by simp)
    have e2 : plTakeL s false seq m = plTells (plEnter (plKept s seq m)) := by unfold plTakeL; rw [if_neg (by simp), e1]
    have HE := Lib.hid e1
    have HEL := Lib.hid e2
    rw [e1] at k6 k7
    have HEN : Hid (∀ v2 Xl2 W, RLv g gq v2 (plKept s seq m) Xq Xl2 W → Calls Try.prog 32 #[.pointer (some ⟨g, 0, none⟩)] W fun e w' => ∃ z : Int, e = .returned (.int .i64 z) ∧ ∃ v' Xq' Xl', RLv g gq v' (plEnter (plKept s seq m)) Xq' Xl' w' ∧ Turns (Tri3 g Xq Xl2) (Tri3 g Xq' Xl') W w') := fun v2 Xl2 W r => (rlenter_any g gq v2 _ Xq Xl2 W r k1 (by omega)).mono (fun _ _ h => ⟨_, h⟩)
    have HTE : Hid (∀ v2 Xq2 Xl2 W, RLv g gq v2 (plEnter (plKept s seq m)) Xq2 Xl2 W → Calls Try.prog 33 #[.pointer (some ⟨g, 0, none⟩)] W fun e w' => ∃ vo, e = .returned vo ∧ Out W (Tri3 g Xq2 Xl2) vo (plTells (plEnter (plKept s seq m))) w' ∧ Below W.heap.size W w') := fun v2 Xq2 Xl2 W r => rltells_any g gq v2 _ Xq2 Xl2 W r k8 (by omega)
    rw [e1, e2]
    clear e1 e2 k1 k2 k6 k7 k8 HE HEL
    generalize hW1 : w.alloc (.cells #[.bool false, .int .i64 seq, .int .u64 (bits : Int), .slice A n c] 38) = W1 at *
    have HW1 := Lib.hid hW1
    have P0 := Below.refl W1.heap.size W1
    cases hq : plNear s seq with
    | none =>
      have HKP : Hid (plKept s seq m = s) := by show _ = _; unfold plKept; rw [hq]
      have HNR : Hid (∀ W, Calls Try.prog 30 #[.int .i64 (s.ent : Int), .int .i64 s.c.w, .int .i64 seq, .int .i64 s.c.m] W fun e w' => e = .returned (.tuple #[.int .i64 0, .bool false]) ∧ w' = W) := by
        have hh := HNR.out
        rw [show rgNear (s.ent : Int) s.c.w seq s.c.m = none from hq] at hh
        exact hh
      clear h hok hB T0 n0 R0 hq hml
      go_enter Try.func13, Try.ntmps13
      go_wp2_with (fail)
      clear hW1
      go_quiet ((go_at_call 30; refine Calls.quiet_of_same (HNR.out _)))
      go_wp2_with (fail)
      have B := below_drewN' P0 nq
      have HR2 : Hid (RLv g gq v (plKept s seq m) Xq Xl (W1.drewN nq)) := by show RLv _ _ _ _ _ _ _; rw [HKP.out]; exact HR.out.below B
      have HT2 : Hid (Turns (Tri3 g Xq Xl) (Tri3 g Xq Xl) w (W1.drewN nq)) := (Turns.of_below HT0.out).next B
      refine (HEN.out _ _ _ HR2.out).mono ?_
      rintro e w4 ⟨z, rfl, v4, Xq4, Xl4, r4, t4⟩
      have HR4 := Lib.hid r4
      have HT4 := Lib.hid (HT2.out.trans t4)
      clear r4 t4
      go_wp2_with (fail)
      refine (HTE.out _ _ _ _ HR4.out).mono ?_
      rintro e w5 ⟨vo, rfl, o5, T5⟩
      have HO5 := Lib.hid o5
      have HT5 := Lib.hid T5
      clear o5 T5
      go_wp2
      go_ret
      exact ⟨_, _, Xq4, Xl4, rfl, HO5.out.base HT4.out.off.size, HR4.out.below HT5.out, HT4.out.next HT5.out⟩
    | some q =>
      obtain ⟨q1, q2, -⟩ := plNear_some hq
      obtain ⟨q, rfl⟩ := Int.eq_ofNat_of_zero_le (show 0 ≤ q by omega)
      have HNR : Hid (∀ W, Calls Try.prog 30 #[.int .i64 (s.ent : Int), .int .i64 s.c.w, .int .i64 seq, .int .i64 s.c.m] W fun e w' => e = .returned (.tuple #[.int .i64 (q : Int), .bool true]) ∧ w' = W) := by
        have hh := HNR.out
        rw [show rgNear (s.ent : Int) s.c.w seq s.c.m = some (q : Int) from hq] at hh
        exact hh
      by_cases hn : n ≤ 64
      · have d1 : decide ((n : Int) ≤ 64) = true := by simp; omega
        have HKP : Hid (plKept s seq m = { s with late := ltKeep s.late q m }) := by show _ = _; unfold plKept; rw [hq]; simp only [Int.toNat_natCast]; rw [if_pos (by omega)]
        have HKE : Hid (∀ W, Below W1.heap.size W1 W → Calls Try.prog 31 #[.pointer (some ⟨g, 0, none⟩), .int .i64 (q : Int), .slice A n c] W fun e w' => e = .returned (.tuple #[]) ∧ ∃ v' Xl', RLv g gq v' { s with late := ltKeep s.late q m } Xq Xl' w' ∧ Turns (Tri3 g Xq Xl) (Tri3 g Xq Xl') W w') := fun W U => rlkeep_any g gq v s Xq Xl q A n c m W (HR.out.below U) hl64 (HB.out.below U) hn
        clear h hok hB T0 n0 R0 hq hml q1 q2
        go_enter Try.func13, Try.ntmps13
        go_wp2_with (fail)
        clear hW1
        go_quiet ((go_at_call 30; refine Calls.quiet_of_same (HNR.out _)))
        go_wp2_with (fail)
        have B := below_drewN' P0 nq
        refine (HKE.out _ B).mono ?_
        rintro e w3 ⟨rfl, v2, Xl2, r2, t2⟩
        have HR2 : Hid (RLv g gq v2 (plKept s seq m) Xq Xl2 w3) := by show RLv _ _ _ _ _ _ _; rw [HKP.out]; exact r2
        have HT2 : Hid (Turns (Tri3 g Xq Xl) (Tri3 g Xq Xl2) w w3) := ((Turns.of_below HT0.out).next B).trans t2
        clear r2 t2 B
        go_wp2_with (fail)
        refine (HEN.out _ _ _ HR2.out).mono ?_
        rintro e w4 ⟨z, rfl, v4, Xq4, Xl4, r4, t4⟩
        have HR4 := Lib.hid r4
        have HT4 := Lib.hid (HT2.out.trans t4)
        clear r4 t4
        go_wp2_with (fail)
        refine (HTE.out _ _ _ _ HR4.out).mono ?_
        rintro e w5 ⟨vo, rfl, o5, T5⟩
        have HO5 := Lib.hid o5
        have HT5 := Lib.hid T5
        clear o5 T5
        go_wp2
        go_ret
        exact ⟨_, _, Xq4, Xl4, rfl, HO5.out.base HT4.out.off.size, HR4.out.below HT5.out, HT4.out.next HT5.out⟩
      · have d1 : decide ((n : Int) ≤ 64) = false := by simp; omega
        have HKP : Hid (plKept s seq m = s) := by show _ = _; unfold plKept; rw [hq]; simp only; rw [if_neg (by omega)]
        clear h hok hB T0 n0 R0 hq hml q1 q2
        go_enter Try.func13, Try.ntmps13
        go_wp2_with (fail)
        clear hW1
        go_quiet ((go_at_call 30; refine Calls.quiet_of_same (HNR.out _)))
        go_wp2_with (fail)
        have B := below_drewN' P0 nq
        have HR2 : Hid (RLv g gq v (plKept s seq m) Xq Xl (W1.drewN nq)) := by show RLv _ _ _ _ _ _ _; rw [HKP.out]; exact HR.out.below B
        have HT2 : Hid (Turns (Tri3 g Xq Xl) (Tri3 g Xq Xl) w (W1.drewN nq)) := (Turns.of_below HT0.out).next B
        refine (HEN.out _ _ _ HR2.out).mono ?_
        rintro e w4 ⟨z, rfl, v4, Xq4, Xl4, r4, t4⟩
        have HR4 := Lib.hid r4
        have HT4 := Lib.hid (HT2.out.trans t4)
        clear r4 t4
        go_wp2_with (fail)
        refine (HTE.out _ _ _ _ HR4.out).mono ?_
        rintro e w5 ⟨vo, rfl, o5, T5⟩
        have HO5 := Lib.hid o5
        have HT5 := Lib.hid T5
        clear o5 T5
        go_wp2
        go_ret
        exact ⟨_, _, Xq4, Xl4, rfl, HO5.out.base HT4.out.off.size, HR4.out.below HT5.out, HT4.out.next HT5.out⟩
end Go.Proofs.Ytpidbgnlehikeaa
