/- Layer 16's law's own alike, over the contracts of flight. -/
import Derived.Test.YtgppoapdpgblmaaFliC
import Derived.Deep.RegionHeld3
import Derived.IntWalk
namespace Go.Proofs.Ytgppoapdpgblmaa
open Go.RowKit
set_option maxRecDepth 20000
theorem eq3 {w : World} {g : Nat} {a b c : Value} {t : TypeId} (h : w.heap[g]? = some (.cells #[a, b, c] t (0, 0))) : w.cell? ⟨g, 0, none⟩ = some a ∧ w.cell? ⟨g, 1, none⟩ = some b ∧ w.cell? ⟨g, 2, none⟩ = some c := ⟨(row3 h).1, (row3 h).2.1, (row3 h).2.2.1⟩
set_option maxHeartbeats 4000000 in
theorem alike16_any {F : Nat → Fs → World → (Nat → Prop) → Prop} (C : FliC F) (ga gr : Nat) (s : Fs) (v0 v1 : Value) (w : World) (X Y : Nat → Prop) (hF : F ga s w X) (hR : RFv gr s v0 v1 w Y) :
    Calls Try.prog 18 #[.pointer (some ⟨ga, 0, none⟩), .pointer (some ⟨gr, 0, none⟩)] w fun e w' => e = .returned (.bool true) ∧ Below w.heap.size w w' := by
  have HN := Lib.hid num16_any
  have HF := Lib.hid (fun W (U : Below w.heap.size w W) => (C.holds ga s).below hF U)
  have HR := Lib.hid (fun W (U : Below w.heap.size w W) => (RFv.holds gr s v0 v1).below hR U)
  have HL := Lib.hid (fun d (hd : I64 d) W (U : Below w.heap.size w W) => C.len ga s d W X (HF.out W U) hd)
  have HS := Lib.hid (fun d (hd : I64 d) W (U : Below w.heap.size w W) => C.sent ga s d W X (HF.out W U) hd)
  have HG := Lib.hid (fun W (U : Below w.heap.size w W) => C.gone ga s W X (HF.out W U))
  have HA := Lib.hid (fun d i (hd : I64 d) (hi : I64 i) W (U : Below w.heap.size w W) => C.at_ ga s d i W X (HF.out W U) hd hi)
  have RL := Lib.hid (fun d W (U : Below w.heap.size w W) => rflen_any gr s v0 v1 d W Y (HR.out W U))
  have RS := Lib.hid (fun d W (U : Below w.heap.size w W) => rfsent_any gr s v0 v1 d W Y (HR.out W U))
  have RA := Lib.hid (fun d i W (U : Below w.heap.size w W) => rfat_any gr s v0 v1 d i W Y (HR.out W U))
  have hls : ∀ d, fsLen s d ≤ 4097 := fun d => by
    have h1 := hR.2.2.1.2.2.1.1
    have h2 := hR.2.2.1.2.2.2.1
    unfold fsLen
    split
    · exact h1
    · split
      · exact h2
      · omega
  have HLS := Lib.hid hls
  have hgr := hR.2.1 gr hR.1
  have HG1 := Lib.hid (fun W (U : Below w.heap.size w W) => (U.cell (p := ⟨gr, 1, none⟩) hgr).trans hR.cells.2.1)
  clear hF hR hls
  go_enter Try.func18, Try.ntmps18
  go_wp2_with (fail)
  go_loopw [5] (fun k wr => ∃ d : Int, -1 ≤ d ∧ d ≤ 3 ∧ k = .int .i64 d ∧ Below w.heap.size w wr) (fun k _ => (3 - intOf k).toNat)
  case atStart => exact ⟨-1, by omega, by omega, rfl, Below.refl _ _⟩
  case round =>
    obtain ⟨d, hd1, hd2, rfl, hbel⟩ := hrel
    by_cases hlt : d < 3
    · have d0 : decide (d < 3) = true := by simpa using hlt
      have hd : I64 d := ⟨by omega, by omega⟩
      have L1 := Lib.hid (HL.out d hd)
      have L2 := Lib.hid (RL.out d)
      have S1 := Lib.hid (HS.out d hd)
      have S2 := Lib.hid (RS.out d)
      have A1 := Lib.hid (fun i hi => HA.out d i hd hi)
      have A2 := Lib.hid (fun i => RA.out d i)
      have hN := HLS.out d
      generalize fsLen s d = N at *
      generalize fsSent s d = T at *
      have n1 : ((N : Int) != (N : Int)) = false := by simp
      have n2 : ((T : Int) != (T : Int)) = false := by simp
      go_wp2_with (fail)
      refine (L1.out _ hbel).mono ?_
      rintro e w1 ⟨rfl, T1⟩
      have U1 := nxt hbel T1
      go_wp2_with (fail)
      refine (L2.out _ U1).mono ?_
      rintro e w2 ⟨rfl, rfl⟩
      go_wp2_with (fail)
      refine (S1.out _ U1).mono ?_
      rintro e w3 ⟨rfl, T3⟩
      have U3 := nxt U1 T3
      go_wp2_with (fail)
      refine (S2.out _ U3).mono ?_
      rintro e w4 ⟨rfl, rfl⟩
      go_wp2_with (fail)
      go_loopw [6] (fun k wr => ∃ i : Nat, i ≤ N + 1 ∧ k = .int .i64 (i : Int) ∧ Below w.heap.size w wr) (fun k _ => N + 1 - (intOf k).toNat)
      case atStart => exact ⟨0, by omega, rfl, U3⟩
      case round =>
        clear U3 U1 T1 T3 hbel
        obtain ⟨i, hi, rfl, hb⟩ := hrel
        go_wp2_with (fail)
        refine (L2.out _ hb).mono ?_
        rintro e w5 ⟨rfl, rfl⟩
        by_cases hle : i ≤ N
        · have d1 : decide ((i : Int) ≤ (N : Int)) = true := by simp; omega
          have B1 := Lib.hid (A1.out (i : Int) ⟨by omega, by omega⟩)
          have B2 := Lib.hid (A2.out (i : Int))
          generalize fsAt s d (i : Int) = r at *
          obtain ⟨⟨rn, t1, t2⟩, re⟩ := r
          have n3 : ((re : Int) != (re : Int)) = false := by simp
          have HSA := Lib.hid (fun (Y1 Y2 Y3 Y4 : Nat → Prop) u1 u2 u3 u4 W x1 x2 x3 x4 => rfsame_true rn t1 t2 Y1 Y2 Y3 Y4 u1 u2 u3 u4 W x1 x2 x3 x4)
          go_wp2_with (fail)
          refine (B1.out _ hb).mono ?_
          rintro e w6 ⟨Aa, ca, Ab, cb, rfl, f1, f2, T6⟩
          have U6 := nxt hb T6
          simp only at f1 f2 ⊢
          have X1 := Tx.fre f1
          have X2 := Tx.fre f2
          clear f1 f2 T6
          obtain ⟨m1, hm1⟩ : ∃ m, t1.length = m := ⟨_, rfl⟩
          obtain ⟨m2, hm2⟩ : ∃ m, t2.length = m := ⟨_, rfl⟩
          rw [hm1] at X1 ⊢
          rw [hm2] at X2 ⊢
          clear hm1 hm2
          have U6a := U6.alloc U6.size (.cells #[.int .i64 (rn : Int), .slice Aa m1 ca, .slice Ab m2 cb] 40)
          have ba := (Below.refl _ w6).alloc (Nat.le_refl _) (.cells #[.int .i64 (rn : Int), .slice Aa m1 ca, .slice Ab m2 cb] 40)
          have HX := Lib.hid (And.intro (X1.below ba) (X2.below ba))
          have G6 := Lib.hid (heap_alloc_new w6 (.cells #[.int .i64 (rn : Int), .slice Aa m1 ca, .slice Ab m2 cb] 40))
          clear X1 X2 ba
          go_wp2_with (fail)
          refine (B2.out _ U6a).mono ?_
          rintro e w7 ⟨u1, u2, rfl, y1, y2, T7⟩
          simp only at y1 y2 ⊢
          obtain ⟨Ac, cc, rfl, _, _⟩ := id y1
          obtain ⟨Ad, cd, rfl, _, _⟩ := id y2
          have U7 := nxt U6a T7
          obtain ⟨m3, hm3⟩ : ∃ m, t1.length = m := ⟨_, rfl⟩
          obtain ⟨m4, hm4⟩ : ∃ m, t2.length = m := ⟨_, rfl⟩
          rw [hm3] at y1 ⊢
          rw [hm4] at y2 ⊢
          clear hm3 hm4
          have U7a := U7.alloc U7.size (.cells #[.int .i64 (rn : Int), .slice Ac m3 cc, .slice Ad m4 cd] 40)
          have bb := (Below.refl _ w7).alloc (Nat.le_refl _) (.cells #[.int .i64 (rn : Int), .slice Ac m3 cc, .slice Ad m4 cd] 40)
          have HY := Lib.hid (And.intro (And.intro ((HX.out.1.below T7).below bb) ((HX.out.2.below T7).below bb)) (And.intro (y1.below bb) (y2.below bb)))
          have g6 := (bb.block _ (lt_row ((T7.block _ (lt_row G6.out)).trans G6.out))).trans ((T7.block _ (lt_row G6.out)).trans G6.out)
          obtain ⟨p0, p1, p2⟩ := eq3 g6
          obtain ⟨q0, q1, q2⟩ := eq3 (heap_alloc_new w7 (.cells #[.int .i64 (rn : Int), .slice Ac m3 cc, .slice Ad m4 cd] 40))
          clear y1 y2 bb g6 T7 U6 U6a U7
          go_wp2_with (fail)
          refine (HN.out _ _).mono ?_
          rintro e w8 ⟨rfl, rfl⟩
          go_wp2_with (fail)
          refine (HSA.out _ _ _ _ _ _ _ _ _ HY.out.1.1 HY.out.1.2 HY.out.2.1 HY.out.2.2).mono ?_
          rintro e w9 ⟨rfl, T9⟩
          have U9 := nxt U7a T9
          go_wp2
          go_roundw
          case rel => exact ⟨i + 1, by omega, by go_num, U9⟩
          case measure => simp [intOf]; omega
        · have d1 : decide ((i : Int) ≤ (N : Int)) = false := by simp; omega
          go_wp2
          go_roundw
          case rel => exact ⟨d + 1, by omega, by omega, by go_num, hb⟩
          case measure => simp [intOf]; omega
    · obtain rfl : d = 3 := by omega
      have G1 := Lib.hid (HG.out _ (hbel.drew))
      have c1 := HG1.out _ hbel
      have P0 := hbel.drew
      have K := Lib.hid (fun W (U : Below w.heap.size w W) => HG1.out W U)
      have n1 : ((s.gone : Int) == (s.gone : Int)) = true := by simp
      generalize s.gone = G at *
      clear c1
      go_wp2_with (fail)
      go_region_held3 (fun w' => w'.cell? ⟨gr, 1, none⟩ = some (.int .i64 (G : Int))) (first | exact K.out _ Z1 | exact K.out _ hbel | exact K.out _ P0 | exact K.out _ P0.drew)
        (first
          | (go_at_call 23; (with_reducible refine (G1.out).mono ?_); rintro e z1 ⟨rfl, V1⟩; have Z1 := nxt P0 V1))
      all_goals
        go_wp2
        go_ret
        exact ⟨rfl, Z1⟩
end Go.Proofs.Ytgppoapdpgblmaa
