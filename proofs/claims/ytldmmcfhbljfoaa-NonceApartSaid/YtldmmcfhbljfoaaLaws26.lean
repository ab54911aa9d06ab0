/- The walks of layer 26's NonceDraws and NonceApart, over the contracts of nonce. -/
import Derived.Test.YtldmmcfhbljfoaaNoC
namespace Go.Proofs.Ytldmmcfhbljfoaa
open Go.RowKit
set_option maxRecDepth 20000
theorem drew_holds {P : World → (Nat → Prop) → Prop} (H : Holds P) {w : World} {X : Nat → Prop} (h : P w X) : P w.drew X := H.below h (Below.refl _ _).drew
theorem UFre.first {w : World} {Y : Nat → Prop} {A : Option Addr} {n c : Nat} {l : List Nat} (h : UFre w Y A n c l) (hn : 0 < n) : ∃ (b o x : Nat), A = some ⟨b, o, none⟩ ∧ ¬ Y b ∧ b < w.heap.size ∧ w.cell? ⟨b, o, none⟩ = some (.int .u64 (x : Int)) ∧ w.frozen? ⟨b, o, none⟩ = false := by
  obtain ⟨b, o, rfl, hf⟩ := h.2.2 hn
  obtain ⟨b', o', e, hb, hc⟩ := h.1.cell hn
  injection e with e
  injection e with e1 e2
  subst e1 e2
  have hl := h.1.len
  exact ⟨b, o, l[0]'(by omega), rfl, h.2.1 hn _ rfl, hb, by simpa using hc 0 (by omega), hf 0 hn⟩
set_option maxHeartbeats 2000000 in
theorem walk_NonceDraws {S : Nat → List Nat → Nat → World → (Nat → Prop) → Prop} (C : NoC S) (A : Option Addr) (n c : Nat) (l : List Nat) (r : Int) (w : World) (hU : Us w A n c l) (hu : ∀ x ∈ l, x < 18446744073709551616) (hr : I64 r) :
    Calls Try.prog 3 #[.slice A n c, .int .i64 r] w fun e w' => e = .returned (.bool true) ∧ Below w.heap.size w w' := by
  have HL := Lib.hid (fun W => live26_any C W)
  have hlen := hU.len
  have hnc := hU.le
  have hcm := hU.cap
  by_cases h200 : 200 < n
  · have d1 : decide ((200 : Int) < (n : Int)) = true := by simp; omega
    clear hU h200
    go_enter Try.func3, Try.ntmps3
    go_wp2_with (fail)
    refine (HL.out _).mono ?_
    rintro e w1 ⟨rfl, T1⟩
    go_wp2
    go_ret
    exact ⟨rfl, T1⟩
  · have d1 : decide ((200 : Int) < (n : Int)) = false := by simp; omega
    have d1' : ¬ ((200 : Int) < (n : Int)) := by omega
    by_cases h0 : r < 0
    · have d2 : decide (r < 0) = true := by simpa using h0
      clear hU h200
      go_enter Try.func3, Try.ntmps3
      go_wp2_with (fail)
      refine (HL.out _).mono ?_
      rintro e w1 ⟨rfl, T1⟩
      go_wp2
      go_ret
      exact ⟨rfl, T1⟩
    · have d2 : decide (r < 0) = false := by simpa using h0
      by_cases h300 : 300 < r
      · have d3 : decide (300 < r) = true := by simpa using h300
        clear hU h200
        go_enter Try.func3, Try.ntmps3
        go_wp2_with (fail)
        refine (HL.out _).mono ?_
        rintro e w1 ⟨rfl, T1⟩
        go_wp2
        go_ret
        exact ⟨rfl, T1⟩
      · have d3 : decide (300 < r) = false := by simpa using h300
        obtain ⟨m, rfl⟩ := Int.eq_ofNat_of_zero_le (show 0 ≤ r by omega)
        have hm : m ≤ 300 := by omega
        have G1 := Lib.hid (C.new A n c l w hU hu (by omega))
        have G2 := Lib.hid (fun W (T : Below w.heap.size w W) => rnnew_any A n c l W (Vals.below hU T) (by omega))
        have HA := Lib.hid (fun hn => hU.cell hn)
        have HLN := Lib.hid hlen
        clear hU h200 h0 h300 hu
        go_enter Try.func3, Try.ntmps3
        go_wp2_with (fail)
        refine G1.out.mono ?_
        rintro e w1 ⟨ga, X0, rfl, q1, x1, T1⟩
        have Q1 := Lib.hid q1
        clear q1
        go_wp2_with (fail)
        refine (G2.out _ T1).mono ?_
        rintro e w2 ⟨gr, Y0, rfl, r2, y2, T2⟩
        have HT0 := Lib.hid (TwoAt.mk (C.holds _ _ _) (RN.holds _ _ _) Q1.out x1 T1.size T2 r2 y2)
        have T2 := nxt T1 T2
        clear r2 y2 Q1 x1 T1
        go_wp2_with (fail)
        go_loopw [7] (fun i wr => ∃ (k : Nat) (X Y : Nat → Prop), k ≤ m ∧ i = .int .i64 (k : Int) ∧ Hid (TwoAt w.heap.size (S ga l k) (RN gr l k) X Y wr) ∧ Below w.heap.size w wr) (fun i _ => m - (intOf i).toNat)
        case atStart => exact ⟨0, X0, Y0, Nat.zero_le _, rfl, HT0, T2⟩
        case round =>
          obtain ⟨k, X, Y, hk, rfl, HT, hbel⟩ := hrel
          by_cases hlt : k < m
          · have d4 : (k : Int) < (m : Int) := by omega
            have F1 := Lib.hid (C.next ga l k wr X HT.out.p1 (by omega))
            go_wp2_with (fail)
            refine F1.out.mono ?_
            rintro e w3 ⟨rfl, X2, q3, t3⟩
            obtain ⟨k1, k2⟩ := HT.out.left (C.holds _ _ _) (RN.holds _ _ _) q3 t3
            have HT3 := Lib.hid k1
            have hb3 := hbel.trans k2
            clear k1 k2 q3 t3 F1 HT
            have F2 := Lib.hid (rnnext_any gr l k w3 Y HT3.out.p2 (by omega))
            go_wp2_with (fail)
            refine F2.out.mono ?_
            rintro e w4 ⟨rfl, Y2, q4, t4⟩
            obtain ⟨k1, k2⟩ := HT3.out.right (C.holds _ _ _) (RN.holds _ _ _) q4 t4
            have HT4 := Lib.hid k1
            have hb4 := hb3.trans k2
            clear k1 k2 q4 t4 F2 HT3
            obtain ⟨x, hx⟩ : ∃ x, nx l k = x := ⟨_, rfl⟩
            rw [hx]
            have n1 : ((x : Int) != (x : Int)) = false := by simp
            by_cases hkn : k < n
            · have d5 : decide ((k : Int) < (n : Int)) = true := by simp; omega
              have d6 : (k : Int) < (n : Int) := by omega
              have hkl : k < l.length := by rw [HLN.out]; exact hkn
              obtain ⟨b, o, rfl, hb, hcl⟩ := HA.out (by omega)
              have hc1 := (hb4.cell (p := ⟨b, o + k, none⟩) hb).trans (hcl k hkl)
              have hxl : l[k] = x := by rw [← hx]; unfold nx; rw [if_pos hkl]; simp [hkl]
              rw [hxl] at hc1
              clear hcl hxl hx
              go_wp2_with (fail)
              go_roundw
              case rel => exact ⟨k + 1, X2, Y2, by omega, by go_num, HT4, hb4⟩
              case measure => simp [intOf]; omega
            · have d5 : decide ((k : Int) < (n : Int)) = false := by simp; omega
              have d6 : ¬ ((k : Int) < (n : Int)) := by omega
              clear hx
              go_wp2_with (fail)
              go_roundw
              case rel => exact ⟨k + 1, X2, Y2, by omega, by go_num, HT4, hb4⟩
              case measure => simp [intOf]; omega
          · have d4 : ¬ ((k : Int) < (m : Int)) := by omega
            obtain rfl : k = m := by omega
            have F1 := Lib.hid (C.used ga l k wr X HT.out.p1)
            go_wp2_with (fail)
            refine F1.out.mono ?_
            rintro e w3 ⟨A3, n3, c3, rfl, U3, T3⟩
            obtain rfl : n3 = k := by have := U3.1.len; rw [drawn_len] at this; omega
            have HT3 := Lib.hid (HT.out.below (C.holds _ _ _) (RN.holds _ _ _) T3)
            have hb3 := hbel.trans (T3.mono hbel.size)
            have HLT := Lib.hid (And.intro HT.out.2.2.2.2.2.1 HT.out.2.2.2.2.2.2.1)
            have HF := Lib.hid U3
            have hc3 := U3.1.le
            have hcap := U3.1.cap
            clear U3 F1 HT
            obtain ⟨P, c1, Q, d1, cr0, cr1, kL, kU⟩ := HT3.out.p2.cells
            go_wp2_with (fail)
            refine (usame_true A3 Q n3 c3 n3 d1 _ w3 HF.out.1 kU).mono ?_
            rintro e w4 ⟨rfl, T4⟩
            have HT4 := Lib.hid (HT3.out.below (C.holds _ _ _) (RN.holds _ _ _) T4)
            have hb4 := hb3.trans (T4.mono hb3.size)
            clear kL kU cr0 cr1
            by_cases hz : n3 = 0
            · subst hz
              have HT := HT4
              have hb5 := hb4
              clear HT4 hb4 HF HT3
              generalize w4 = w5 at *
              obtain ⟨P, c1, Q, d1, cr0, cr1, kL, kU⟩ := HT.out.p2.cells
              have F1 := Lib.hid (C.used ga l 0 w5.drew X (drew_holds (C.holds _ _ _) HT.out.p1))
              have hgr := HT.out.2.2.2.2.2.2.1 gr HT.out.p2.1
              have K := Lib.hid (fun W (T : Below w5.heap.size w5 W) => (T.cell (p := ⟨gr, 1, none⟩) hgr).trans cr1)
              have KU := Lib.hid (fun W (T : Below w5.heap.size w5 W) => Vals.below kU T)
              have c2 := K.out _ (Below.refl _ _)
              clear kL kU cr0 cr1
              go_wp2_with (fail)
              go_region_held3 (fun w' => w'.cell? ⟨gr, 1, none⟩ = some (.slice Q 0 d1)) (first | exact K.out _ (Below.refl _ _) | exact K.out _ (Below.drew (Below.refl _ _)) | exact K.out _ Z1 | exact K.out _ Z2 | exact K.out _ Z3 | exact K.out _ Z4 | exact K.out _ Z5)
                (first
                  | (go_at_call_of 10 (Value.pointer (some ⟨ga, 0, none⟩)); (with_reducible refine F1.out.mono ?_); rintro e z1 ⟨A1, n1, c1', rfl, U1, V1⟩; have V1' := undrew V1; have Z1 := V1'; have B1 := Lib.hid U1.1)
                  | (go_at_call 11; (with_reducible refine (usame_true A1 Q n1 c1' 0 d1 _ z1 B1.out (KU.out _ Z1)).mono ?_); rintro e z2 ⟨rfl, V2⟩; have Z2 := nxt Z1 V2)
                  | (go_at_call 8; (with_reducible refine (C.nnext z2).mono ?_); rintro e z3 ⟨rfl, V3⟩; have Z3 := nxt Z2 V3)
                  | (go_at_call_of 10 (Value.pointer none); (with_reducible refine (C.nused z3).mono ?_); rintro e z4 ⟨⟨P4, c4, rfl⟩, V4⟩; have Z4 := nxt Z3 V4)
                  | (go_at_call 5; (with_reducible refine (live26_any C z4).mono ?_); rintro e z5 ⟨rfl, V5⟩; have Z5 := nxt Z4 V5))
              all_goals
                have hb6 := hb5.trans (Z5.mono hb5.size)
                go_wp2
                go_ret
                exact ⟨rfl, hb6⟩
            · have d5 : (0 : Int) < (n3 : Int) := by omega
              obtain ⟨b, o, x, rfl, hby, hbw, hbc, hbf⟩ := HF.out.first (by omega)
              have bc4 := (T4.cell (p := ⟨b, o, none⟩) hbw).trans hbc
              have bf4 := (frozen_of_block (T4.block b hbw) o).trans hbf
              have HE : Hid (∀ v, TwoAt w.heap.size (S ga l n3) (RN gr l n3) X Y (w4.setCell ⟨b, o, none⟩ v) ∧ Below w.heap.size w (w4.setCell ⟨b, o, none⟩ v)) := fun v => by
                have O : Off (· = b) w4 (w4.setCell ⟨b, o, none⟩ v) := (Off.refl (· = b) w4).setCell (p := ⟨b, o, none⟩) (.inl rfl) v
                have hbB : w.heap.size ≤ b := Nat.le_trans hbel.size (Nat.le_of_not_lt hby)
                refine ⟨HT4.out.off (C.holds _ _ _) (RN.holds _ _ _) O (fun k hk e => ?_) (fun k hk e => ?_), hb4.trans (O.below (fun k hk => by subst hk; exact hbB) hb4.size)⟩
                · subst e; exact hby (HLT.out.1 _ hk)
                · subst e; exact hby (HLT.out.2 _ hk)
              clear hbc hbf hby HF
              go_wp2_with (fail)
              have HT := Lib.hid (HE.out (.int .u64 (IntKind.u64.wrap ((x : Int) + 1)))).1
              have hb5 := (HE.out (.int .u64 (IntKind.u64.wrap ((x : Int) + 1)))).2
              clear HE HT3 HT4 hb4
              generalize w4.setCell ⟨b, o, none⟩ (.int .u64 (IntKind.u64.wrap ((x : Int) + 1))) = w5 at *
              obtain ⟨P, c1, Q, d1, cr0, cr1, kL, kU⟩ := HT.out.p2.cells
              have F1 := Lib.hid (C.used ga l n3 w5.drew X (drew_holds (C.holds _ _ _) HT.out.p1))
              have hgr := HT.out.2.2.2.2.2.2.1 gr HT.out.p2.1
              have K := Lib.hid (fun W (T : Below w5.heap.size w5 W) => (T.cell (p := ⟨gr, 1, none⟩) hgr).trans cr1)
              have KU := Lib.hid (fun W (T : Below w5.heap.size w5 W) => Vals.below kU T)
              have c2 := K.out _ (Below.refl _ _)
              clear kL kU cr0 cr1
              go_wp2_with (fail)
              go_region_held3 (fun w' => w'.cell? ⟨gr, 1, none⟩ = some (.slice Q n3 d1)) (first | exact K.out _ (Below.refl _ _) | exact K.out _ (Below.drew (Below.refl _ _)) | exact K.out _ Z1 | exact K.out _ Z2 | exact K.out _ Z3 | exact K.out _ Z4 | exact K.out _ Z5)
                (first
                  | (go_at_call_of 10 (Value.pointer (some ⟨ga, 0, none⟩)); (with_reducible refine F1.out.mono ?_); rintro e z1 ⟨A1, n1, c1', rfl, U1, V1⟩; have V1' := undrew V1; have Z1 := V1'; have B1 := Lib.hid U1.1)
                  | (go_at_call 11; (with_reducible refine (usame_true A1 Q n1 c1' n3 d1 _ z1 B1.out (KU.out _ Z1)).mono ?_); rintro e z2 ⟨rfl, V2⟩; have Z2 := nxt Z1 V2)
                  | (go_at_call 8; (with_reducible refine (C.nnext z2).mono ?_); rintro e z3 ⟨rfl, V3⟩; have Z3 := nxt Z2 V3)
                  | (go_at_call_of 10 (Value.pointer none); (with_reducible refine (C.nused z3).mono ?_); rintro e z4 ⟨⟨P4, c4, rfl⟩, V4⟩; have Z4 := nxt Z3 V4)
                  | (go_at_call 5; (with_reducible refine (live26_any C z4).mono ?_); rintro e z5 ⟨rfl, V5⟩; have Z5 := nxt Z4 V5))
              all_goals
                have hb6 := hb5.trans (Z5.mono hb5.size)
                go_wp2
                go_ret
                exact ⟨rfl, hb6⟩
theorem walk_NonceApart {S : Nat → List Nat → Nat → World → (Nat → Prop) → Prop} (C : NoC S) (A : Option Addr) (n c : Nat) (l : List Nat) (w : World) (hU : Us w A n c l) (hu : ∀ x ∈ l, x < 18446744073709551616) :
    Calls Try.prog 4 #[.slice A n c] w fun e w' => e = .returned (.bool true) ∧ Below w.heap.size w w' := by
  have HL := Lib.hid (fun W => live26_any C W)
  have hlen := hU.len
  have hnc := hU.le
  have hcm := hU.cap
  by_cases h200 : 200 < n
  · have d1 : decide ((200 : Int) < (n : Int)) = true := by simp; omega
    have d2 : (200 : Int) < (n : Int) := by omega
    clear hU h200
    go_enter Try.func4, Try.ntmps4
    go_wp2_with (fail)
    refine (HL.out _).mono ?_
    rintro e w1 ⟨rfl, T1⟩
    go_wp2
    go_ret
    exact ⟨rfl, T1⟩
  · have d1 : ¬ ((200 : Int) < (n : Int)) := by omega
    have G1 := Lib.hid (C.first A n c l w hU hu (by omega))
    have G2 := Lib.hid (fun W (T : Below w.heap.size w W) => rnfirst_any A n c l W (Vals.below hU T))
    have G3 := Lib.hid (fun r W (T : Below w.heap.size w W) hd => C.apart A n c l r W (Vals.below hU T) hu (by omega) hd)
    clear hU hu h200
    go_enter Try.func4, Try.ntmps4
    go_wp2_with (fail)
    refine G1.out.mono ?_
    rintro e w1 ⟨⟨k, i, t, rfl, hd⟩, T1⟩
    go_wp2_with (fail)
    refine (G2.out _ T1).mono ?_
    rintro e w2 ⟨⟨k', i', t', rfl, hd'⟩, T2⟩
    obtain ⟨rfl, rfl, rfl⟩ : k = k' ∧ i = i' ∧ t = t' := by have := hd.unique hd'; simpa using this
    have T2 := nxt T1 T2
    have F3 := Lib.hid (G3.out _ _ T2 hd)
    have n1 : ((k : Int) == (k : Int)) = true := by simp
    have n2 : ((i : Int) == (i : Int)) = true := by simp
    have n3 : (t == t) = true := by simp
    have n4 : ((!t) == (!t)) = true := by simp
    clear hd hd'
    go_wp2_with (fail)
    refine F3.out.mono ?_
    rintro e w3 ⟨rfl, T3⟩
    have T3 := nxt T2 T3
    go_wp2_with (fail)
    refine (HL.out _).mono ?_
    rintro e w4 ⟨rfl, T4⟩
    have T4 := nxt T3 T4
    go_wp2
    go_ret
    exact ⟨rfl, T4⟩
end Go.Proofs.Ytldmmcfhbljfoaa
