/- The walk of layer 21's HearerSpent, over the contracts of hearer. -/
import Derived.Test.YtpdnpfohcnpenaaHeD
import Derived.Deep.RegionHeld3
import Derived.IntWalk
namespace Go.Proofs.Ytpdnpfohcnpenaa
open Go.RowKit
set_option maxRecDepth 20000

def hsp0 : Hs := ⟨3, [], 18446744073709551615, 18446744073709551615, [], 0, 0⟩
theorem hsp_few : HeFew 0 hsp0 := HeFew.new 3 18446744073709551615 (by omega) (by omega) (by omega)
theorem hsp_no : ldHear 18446744073709551615 = 18446744073709551615 ∧ ldCan 18446744073709551615 = false ∧ ldS 18446744073709551615 = true := by decide +kernel
theorem hsp_tick : heTick hsp0 = hsp0 ∧ heTickL hsp0 = [] := by
  refine ⟨?_, by unfold heTickL; rw [if_pos (show ldS hsp0.o = true from hsp_no.2.2)]⟩
  show { hsp0 with o := ldAsk 18446744073709551615 } = hsp0
  rw [show ldAsk 18446744073709551615 = 18446744073709551615 by decide +kernel]
  rfl
theorem hsp_take (kd lb : Int) (d : List UInt8) : heTake hsp0 kd lb d = hsp0 := by
  have e1 : { hsp0 with o := ldHear hsp0.o } = hsp0 := by
    show { hsp0 with o := ldHear 18446744073709551615 } = hsp0
    rw [hsp_no.1]
    rfl
  have e2 : heData hsp0 lb d = hsp0 := by
    unfold heData
    rw [if_neg (fun e => by rw [show ldCan hsp0.o = false from hsp_no.2.1] at e; cases e.1)]
    exact e1
  unfold heTake
  split
  · exact e1
  · split
    · exact e2
    · rfl
theorem hsp_takeL (kd : Int) : heTakeL hsp0 kd = if kd = 1 then [(4, 1, [])] else [] := by
  unfold heTakeL
  rfl
set_option maxHeartbeats 16000000 in
theorem walk_HearerSpent {F : Nat → Hs → World → (Nat → Prop) → Prop} (C : HeC F) (A : Option Addr) (n c : Nat) (l : List Pkt) (w : World) (hR : Recs rdPkt 3 w A n c l) :
    Calls Try.prog 6 #[.slice A n c] w fun e w' => e = .returned (.bool true) ∧ Below w.heap.size w w' := by
  have HL := Lib.hid (fun W => live21_any C W)
  have HN := Lib.hid num21_any
  have hlen := hR.1
  have hnc := hR.2.1
  have hcm := hR.2.2.1
  unfold maxLen at hcm
  have HC := Lib.hid hR.2.2.2
  have HLN := Lib.hid hlen
  clear hR hlen
  by_cases h60 : 60 < n
  · have d60 : decide ((60 : Int) < (n : Int)) = true := by simp; omega
    clear h60
    go_enter Try.func6, Try.ntmps6
    go_wp2_with (fail)
    refine (HL.out _).mono ?_
    rintro e w2 ⟨rfl, T2⟩
    go_wp2
    go_ret
    exact ⟨rfl, T2⟩
  · have d60 : decide ((60 : Int) < (n : Int)) = false := by simp; omega
    have G1 := Lib.hid (fun W => C.new_yes 3 18446744073709551615 W (by omega) (by omega) (by omega))
    have ht := fun g W X h => C.tick g hsp0 W X h hsp_few.1
    rw [hsp_tick.1, hsp_tick.2] at ht
    have HT := Lib.hid ht
    have HK := Lib.hid (fun g kd lb A n c d W X h hk hl hB hA => C.take g hsp0 kd lb A n c d W X h hsp_few.1 (by decide) (by have := alCount_le (l := hsp0.al) hsp_few.2.2.1 lb d; omega) (by decide) hk hl hB hA (fun e => by rw [show ldCan hsp0.o = false from hsp_no.2.1] at e; cases e))
    have hs := fun g W X h => C.state g hsp0 W X h
    rw [show ldS hsp0.o = true from hsp_no.2.2] at hs
    have HST : Hid (∀ g W X, F g hsp0 W X → Calls Try.prog 21 #[.pointer (some ⟨g, 0, none⟩)] W fun e w' => e = .returned (.agg #[.int .i64 0, .int .i64 0, .int .u64 18446744073709551615, .int .u64 18446744073709551615, .bool true]) ∧ Below W.heap.size W w') := hs
    have hf0 : ∀ (W : World) (x y : Int) (u v : Int) (q : Bool), (Instr.field 50 (.agg #[.int .i64 x, .int .i64 y, .int .u64 u, .int .u64 v, .bool q]) 0).run Try.prog W = .ok (.int .i64 x) W := fun _ _ _ _ _ _ => by kernel_rfl
    have hf4 : ∀ (W : World) (x y : Int) (u v : Int) (q : Bool), (Instr.field 50 (.agg #[.int .i64 x, .int .i64 y, .int .u64 u, .int .u64 v, .bool q]) 4).run Try.prog W = .ok (.bool q) W := fun _ _ _ _ _ _ => by kernel_rfl
    have Z1 := Lib.hid C.nrecv
    have Z2 := Lib.hid C.ntick
    have Z3 := Lib.hid (fun W => C.ntake 1 0 none 0 0 [] W ⟨by omega, by omega⟩ ⟨by omega, by omega⟩ (Bys.nil _))
    have Z4 := Lib.hid C.nstate
    have Z5 := Lib.hid C.nkept
    clear ht hs h60
    go_enter Try.func6, Try.ntmps6
    go_wp2_with (fail)
    refine (G1.out _).mono ?_
    rintro e w1 ⟨ga, X0, rfl, q1, x1, T1⟩
    have O1 : Hid (OneAt w.heap.size (F ga hsp0) X0 w1) := ⟨q1, x1, T1.size⟩
    clear q1 x1
    go_wp2_with (fail)
    refine (HN.out _ _).mono ?_
    rintro e w2 ⟨rfl, rfl⟩
    go_wp2_with (fail)
    go_loopw [5] (fun i wr => ∃ (j : Nat) (X : Nat → Prop), j ≤ n ∧ i = .int .i64 (j : Int) ∧ Hid (OneAt w.heap.size (F ga hsp0) X wr) ∧ Below w.heap.size w wr) (fun i _ => n - (intOf i).toNat)
    case atStart => exact ⟨0, X0, Nat.zero_le _, rfl, O1, T1⟩
    case round =>
      clear O1 T1 G1
      obtain ⟨j, X, hj, rfl, O, hbel⟩ := hrel
      by_cases hlt : j < n
      · have d0 : decide ((j : Int) < (n : Int)) = true := by simp; omega
        have hjl : j < l.length := by rw [HLN.out]; exact hlt
        obtain ⟨b, o, rfl, hb, hc⟩ := HC.out (by omega)
        obtain ⟨⟨hpk, hpl⟩, D', d', q0, q1, q2, qD⟩ := hc j hjl
        have c0 := (hbel.cell (p := ⟨b, o + j * 3, none⟩) hb).trans q0
        have c1 := (hbel.cell (p := ⟨b, o + j * 3 + 1, none⟩) hb).trans q1
        have c2 := (hbel.cell (p := ⟨b, o + j * 3 + 2, none⟩) hb).trans q2
        have hjn : (j : Int) < (n : Int) := by omega
        have HC0 := Lib.hid (fun W (U : Below w.heap.size w W) => (U.cell (p := ⟨b, o + j * 3, none⟩) hb).trans q0)
        have hav : Av X l[j].2.2.length D' := fun hn p e hx => by
          obtain ⟨b9, o9, e', hb9, _⟩ := qD.at_ hn
          rw [e] at e'
          injection e' with e'
          subst e'
          have : w.heap.size ≤ b9 := O.out.2.1 _ hx
          omega
        have F1 := Lib.hid (HK.out ga l[j].1 l[j].2.1 D' _ d' l[j].2.2 wr X O.out.p hpk hpl (qD.below hbel) hav)
        have e1 := hsp_take l[j].1 l[j].2.1 l[j].2.2
        have e2 := hsp_takeL l[j].1
        rw [e1, e2] at F1
        clear hc q0 q1 q2 qD hav e1 e2
        generalize l[j].2.2.length = M at *
        generalize l[j].2.1 = pl at *
        generalize l[j].1 = pk at *
        by_cases hk1 : pk = 1
        · subst hk1
          rw [if_pos rfl] at F1
          go_wp2_with (fail)
          refine F1.out.mono ?_
          rintro e w2 ⟨Ap, np, cp, X2, rfl, pA, q2, t2⟩
          obtain ⟨o2, b2⟩ := O.out.turn (P' := F ga hsp0) q2 t2
          have O2 := Lib.hid o2
          have PA := Lib.hid pA
          have U2 := hbel.trans b2
          clear q2 t2 o2 b2 pA F1 c0 c1 c2
          go_wp2_with (fail)
          refine (HT.out ga _ X2 O2.out.p).mono ?_
          rintro e w3 ⟨At, nt, ct, X3, rfl, pt, q3, t3⟩
          obtain rfl : 0 = nt := pt.len
          obtain ⟨o3, b3⟩ := O2.out.turn (P' := F ga hsp0) q3 t3
          have O3 := Lib.hid o3
          have PA3 := Lib.hid (PA.out.turn t3 (fun k _ hk => .inl hk))
          have U3 := U2.trans b3
          clear q3 t3 o3 b3 pt U2 O2 PA
          go_wp2_with (fail)
          refine (HST.out ga _ X3 O3.out.p).mono ?_
          rintro e w4 ⟨rfl, T4⟩
          have O4 := Lib.hid (O3.out.below (C.holds _ _) T4)
          have PA4 := Lib.hid (PA3.out.below T4)
          have U4 := nxt U3 T4
          clear T4 O3 PA3 U3
          go_wp2_with (fail)
          refine (HST.out ga _ X3 O4.out.p).mono ?_
          rintro e w5 ⟨rfl, T5⟩
          have O5 := Lib.hid (O4.out.below (C.holds _ _) T5)
          have PA5 := PA4.out.below T5
          have U5 := nxt U4 T5
          have c0 := HC0.out _ U5
          have V6 := (Below.refl _ w5).alloc (Nat.le_refl _) (.cells #[.int .i64 4, .int .i64 1, .slice none 0 0] 36)
          have HSA := Lib.hid (rsameall13 _ _ _ _ _ _ _ _ _ _ (PA5.below V6) (lit_pk w5 4 1))
          have O6 := Lib.hid (O5.out.below (C.holds _ _) V6)
          have U6 := nxt U5 V6
          have HC1 := Lib.hid (fun W (V : Below w.heap.size w W) => HC0.out W V)
          clear T5 O4 PA4 PA5 U4 V6 O5
          go_wp2_with (fail)
          refine HSA.out.mono ?_
          rintro e w7 ⟨rfl, T7⟩
          have O7 := Lib.hid (O6.out.below (C.holds _ _) T7)
          have U7 := nxt U6 T7
          have c7 := HC0.out _ U7
          clear c0 T7 O6 U6 U5
          go_wp2
          go_roundw
          case rel => exact ⟨j + 1, _, by omega, by go_num, O7.out, U7⟩
          case measure => simp [intOf]; omega
        · have dk : (pk == 1) = false := by simpa using hk1
          have dk2 : (pk != 1) = true := by simpa using hk1
          rw [if_neg hk1] at F1
          clear hk1
          go_wp2_with (fail)
          refine F1.out.mono ?_
          rintro e w2 ⟨Ap, np, cp, X2, rfl, pA, q2, t2⟩
          obtain rfl : 0 = np := pA.len
          obtain ⟨o2, b2⟩ := O.out.turn (P' := F ga hsp0) q2 t2
          have O2 := Lib.hid o2
          have U2 := hbel.trans b2
          clear q2 t2 o2 b2 pA F1 c0 c1 c2
          go_wp2_with (fail)
          refine (HT.out ga _ X2 O2.out.p).mono ?_
          rintro e w3 ⟨At, nt, ct, X3, rfl, pt, q3, t3⟩
          obtain rfl : 0 = nt := pt.len
          obtain ⟨o3, b3⟩ := O2.out.turn (P' := F ga hsp0) q3 t3
          have O3 := Lib.hid o3
          have U3 := U2.trans b3
          clear q3 t3 o3 b3 pt U2 O2
          go_wp2_with (fail)
          refine (HST.out ga _ X3 O3.out.p).mono ?_
          rintro e w4 ⟨rfl, T4⟩
          have O4 := Lib.hid (O3.out.below (C.holds _ _) T4)
          have U4 := nxt U3 T4
          clear T4 O3 U3
          go_wp2_with (fail)
          refine (HST.out ga _ X3 O4.out.p).mono ?_
          rintro e w5 ⟨rfl, T5⟩
          have O5 := Lib.hid (O4.out.below (C.holds _ _) T5)
          have U5 := nxt U4 T5
          have c0 := HC0.out _ U5
          clear T5 O4 U4
          go_wp2
          go_roundw
          case rel => exact ⟨j + 1, _, by omega, by go_num, O5.out, U5⟩
          case measure => simp [intOf]; omega
      · have d0 : decide ((j : Int) < (n : Int)) = false := by simp; omega
        go_wp2_with (fail)
        refine (Z1.out _).mono ?_
        rintro e w2 ⟨rfl, T2⟩
        have U2 := nxt hbel T2
        go_wp2_with (fail)
        refine (Z2.out _).mono ?_
        rintro e w3 ⟨P3, c3, rfl, T3⟩
        have U3 := nxt U2 T3
        go_wp2_with (fail)
        refine (Z3.out _).mono ?_
        rintro e w4 ⟨P4, c4, rfl, T4⟩
        have U4 := nxt U3 T4
        go_wp2_with (fail)
        refine (Z4.out _).mono ?_
        rintro e w5 ⟨rfl, T5⟩
        have U5 := nxt U4 T5
        go_wp2_with (fail)
        refine (Z5.out _).mono ?_
        rintro e w6 ⟨P6, c6, rfl, T6⟩
        have U6 := nxt U5 T6
        go_wp2_with (fail)
        refine (HL.out _).mono ?_
        rintro e w7 ⟨rfl, T7⟩
        have U7 := nxt U6 T7
        go_wp2
        go_ret
        exact ⟨rfl, U7⟩
end Go.Proofs.Ytpdnpfohcnpenaa
