/- The walk of layer 20's CallerGoes, over the contracts of caller. -/
import Derived.Test.YtepmecmhnefhkaaCaD
import Derived.IntWalk
namespace Go.Proofs.Ytepmecmhnefhkaa
open Go.RowKit
set_option maxRecDepth 20000

theorem ldS_small {o : Nat} (h : o < 1000) : ldS o = false := by unfold ldS; simp; omega
theorem cg_send1 (b : Nat) : caSend ⟨2, [], b, b, 0, 0, 0⟩ [97] = ⟨2, [[97]], b, b, 1, 0, 0⟩ ∧ caSendE ⟨2, [], b, b, 0, 0, 0⟩ 1 = 0 ∧ caSendN ⟨2, [], b, b, 0, 0, 0⟩ 1 = 0 := by
  have h : ldMark b b = b := by unfold ldMark; split <;> rfl
  refine ⟨?_, rfl, rfl⟩
  show caNext ⟨2, [[97]], b, b, 1, 0, 0⟩ = _
  unfold caNext
  simp only [h]
theorem cg_send2 (b : Nat) : caSend ⟨2, [[97]], b, b, 1, 0, 0⟩ [98] = ⟨2, [[97], [98]], b, b, 2, 0, 0⟩ ∧ caSendE ⟨2, [[97]], b, b, 1, 0, 0⟩ 1 = 0 ∧ caSendN ⟨2, [[97]], b, b, 1, 0, 0⟩ 1 = 1 := ⟨rfl, rfl, rfl⟩
theorem cg_tick (b o k : Nat) (h : o < 1000) : caTick ⟨2, [[97], [98]], o, b, 2, 0, k⟩ = ⟨2, [[97], [98]], o + 1, b, 2, 0, k⟩ ∧ caTickL ⟨2, [[97], [98]], o, b, 2, 0, k⟩ = [(1, 0, [])] := by
  have e := ldS_small h
  refine ⟨?_, ?_⟩
  · unfold caTick ldAsk
    simp [e]
  · unfold caTickL
    simp [e]
theorem ldCan_small {o : Nat} (h : 0 < o) (h2 : o < 1000) : ldCan o = true ∧ ldHear o = o - 1 := by
  have e : ldCan o = true := by unfold ldCan; simp; omega
  exact ⟨e, by unfold ldHear; rw [if_pos e]⟩
theorem cg_wrong (b o k : Nat) (h : 0 < o) (h2 : o < 1000) : caTake ⟨2, [[97], [98]], o, b, 2, 0, k⟩ 4 1 = ⟨2, [[97], [98]], o - 1, b, 2, 0, k⟩ := by
  obtain ⟨e1, e2⟩ := ldCan_small h h2
  unfold caTake caAck
  rw [if_pos rfl, if_neg (by simp), e2]
theorem cg_right (b o k : Nat) (h : 0 < o) (h2 : o < 1000) (hk : k + 1 ≤ b) : caTake ⟨2, [[97], [98]], o, b, 2, 0, k⟩ 4 0 = ⟨2, [[97], [98]], o - 1, b, 2, 0, k + 1⟩ := by
  obtain ⟨e1, e2⟩ := ldCan_small h h2
  unfold caTake caAck
  rw [if_pos rfl, if_pos ⟨e1, by simp, rfl⟩, e2, if_neg (by unfold ldEnough; simp; omega)]
theorem cg_last (b o : Nat) (h : 0 < o) (h2 : o < 1000) : caTake ⟨2, [[97], [98]], o, b, 2, 0, b⟩ 4 0 = ⟨2, [[98]], o - 1, o - 1, 2, 1, 0⟩ := by
  obtain ⟨e1, e2⟩ := ldCan_small h h2
  have e3 : ldEnough (o - 1) b (b + 1) = true := by unfold ldEnough; simp; omega
  have e4 : ldMark (o - 1) b = o - 1 := by unfold ldMark; rw [ldS_small (by omega)]; rfl
  unfold caTake caAck
  rw [if_pos rfl, if_pos ⟨e1, by simp, rfl⟩, e2, if_pos e3, if_neg (by simp)]
  unfold caNext
  simp only [e4]
  rfl
theorem cg_ask (o : Nat) : caTakeL ⟨2, [[98]], o, o, 2, 1, 0⟩ 0 = [(3, 1, [98])] ∧ caTake ⟨2, [[98]], o, o, 2, 1, 0⟩ 0 0 = ⟨2, [[98]], o, o, 2, 1, 0⟩ := ⟨rfl, rfl⟩
theorem cg_ok {ls : List (List UInt8)} {o k acc done acks : Nat} (h1 : ls.length ≤ 2) (h2 : ∀ m ∈ ls, m.length ≤ 1) (ho : o < 1000) (hk : k < 1000) (ha : acc ≤ 2) (hd : done ≤ 1) (hc : acks ≤ 100) : CaOk ⟨2, ls, o, k, acc, done, acks⟩ :=
  ⟨⟨by show 1 ≤ 2; omega, by show 2 ≤ 16; omega, h1, fun m hm => by have := h2 m hm; omega⟩, by show o < _; omega, by show k < _; omega, by show acc ≤ _; omega, by show done ≤ _; omega, by show acks ≤ _; omega⟩
theorem cg_two : ∀ m ∈ ([[97], [98]] : List (List UInt8)), m.length ≤ 1 := by decide
theorem ca_state0 {F : Nat → Cs → World → (Nat → Prop) → Prop} (C : CaC F) (g : Nat) (ls : List (List UInt8)) (o k acks : Nat) (w : World) (X : Nat → Prop) (h : F g ⟨2, ls, o, k, 2, 0, acks⟩ w X) :
    Calls Try.prog 20 #[.pointer (some ⟨g, 0, none⟩)] w fun e w' => e = .returned (.agg #[.int .i64 2, .int .i64 0, .int .u64 (o : Int), .int .u64 (k : Int), .int .u64 (acks : Int), .bool (ldS o)]) ∧ Below w.heap.size w w' := C.state g _ w X h
theorem ca_state1 {F : Nat → Cs → World → (Nat → Prop) → Prop} (C : CaC F) (g : Nat) (ls : List (List UInt8)) (o k : Nat) (w : World) (X : Nat → Prop) (h : F g ⟨2, ls, o, k, 2, 1, 0⟩ w X) :
    Calls Try.prog 20 #[.pointer (some ⟨g, 0, none⟩)] w fun e w' => e = .returned (.agg #[.int .i64 2, .int .i64 1, .int .u64 (o : Int), .int .u64 (k : Int), .int .u64 0, .bool (ldS o)]) ∧ Below w.heap.size w w' := C.state g _ w X h
theorem lit98c (w : World) : Bys (w.alloc (.cells #[.int .u8 98] 5 (1, 2))) (some ⟨w.heap.size, 0, none⟩) 1 1 [98] := Bys.litf w [98] (1, 2) (by decide)
set_option maxHeartbeats 16000000 in
theorem walk_CallerGoes {F : Nat → Cs → World → (Nat → Prop) → Prop} (C : CaC F) (b : Nat) (ak ot : Int) (w : World) (hb : b < 18446744073709551616) :
    Calls Try.prog 4 #[.int .u64 (b : Int), .int .i64 ak, .int .i64 ot] w fun e w' => e = .returned (.bool true) ∧ Below w.heap.size w w' := by
  have HL := Lib.hid (fun W => live20_any C W)
  have HN := Lib.hid num20_any
  by_cases g1 : 30 < b
  · have d1 : decide ((30 : Int) < (b : Int)) = true := by simp; omega
    clear g1
    go_enter Try.func4, Try.ntmps4
    go_wp2_with (fail)
    refine (HL.out _).mono ?_
    rintro e w2 ⟨rfl, T2⟩
    go_wp2
    go_ret
    exact ⟨rfl, T2⟩
  have d1 : decide ((30 : Int) < (b : Int)) = false := by simp; omega
  by_cases g2 : ak < 1
  · have d2 : decide (ak < 1) = true := by simpa using g2
    clear g2
    go_enter Try.func4, Try.ntmps4
    go_wp2_with (fail)
    refine (HL.out _).mono ?_
    rintro e w2 ⟨rfl, T2⟩
    go_wp2
    go_ret
    exact ⟨rfl, T2⟩
  have d2 : decide (ak < 1) = false := by simpa using g2
  by_cases g3 : 30 < ak
  · have d3 : decide (30 < ak) = true := by simpa using g3
    clear g2 g3
    go_enter Try.func4, Try.ntmps4
    go_wp2_with (fail)
    refine (HL.out _).mono ?_
    rintro e w2 ⟨rfl, T2⟩
    go_wp2
    go_ret
    exact ⟨rfl, T2⟩
  have d3 : decide (30 < ak) = false := by simpa using g3
  by_cases g4 : ot < 0
  · have d4 : decide (ot < 0) = true := by simpa using g4
    clear g2 g3 g4
    go_enter Try.func4, Try.ntmps4
    go_wp2_with (fail)
    refine (HL.out _).mono ?_
    rintro e w2 ⟨rfl, T2⟩
    go_wp2
    go_ret
    exact ⟨rfl, T2⟩
  have d4 : decide (ot < 0) = false := by simpa using g4
  by_cases g5 : ak < ot
  · have d5 : decide (ak < ot) = true := by simpa using g5
    clear g2 g3 g4 g5
    go_enter Try.func4, Try.ntmps4
    go_wp2_with (fail)
    refine (HL.out _).mono ?_
    rintro e w2 ⟨rfl, T2⟩
    go_wp2
    go_ret
    exact ⟨rfl, T2⟩
  have d5 : decide (ak < ot) = false := by simpa using g5
  obtain ⟨a, rfl⟩ := Int.eq_ofNat_of_zero_le (show 0 ≤ ak by omega)
  obtain ⟨t, rfl⟩ := Int.eq_ofNat_of_zero_le (show 0 ≤ ot by omega)
  have hb30 : b ≤ 30 := by omega
  have ha30 : a ≤ 30 := by omega
  have ha1 : 1 ≤ a := by omega
  have hta : t ≤ a := by omega
  have d6 : decide (a < t) = false := by simp; omega
  obtain ⟨T, hT⟩ : ∃ T, a + b + 1 = T := ⟨_, rfl⟩
  have hw1 : IntKind.i64.wrap (b : Int) = (b : Int) := IntWalk.i64_in _ (by omega)
  have hw2 : IntKind.i64.wrap ((a : Int) + (b : Int)) = (a : Int) + (b : Int) := IntWalk.i64_in _ (by omega)
  have eT : (a : Int) + (b : Int) + 1 = (T : Int) := by omega
  have hT61 : T ≤ 61 := by omega
  clear g1 g2 g3 g4 g5
  have kc := fun (w : World) (C : Array Value) (n c : Nat) => Lib.run_convert_bytes_const (P := Try.prog) w 34 5 C n c Try.underlying34 Try.underlying5
  have H0 := Lib.hid (C.new_yes 2 b w (by omega) (by omega) hb)
  have h1 := fun g A c W X h hB hA => C.send g ⟨2, [], b, b, 0, 0, 0⟩ A 1 c [97] W X h (cg_ok (by simp) (by simp) (by omega) (by omega) (by omega) (by omega) (by omega)) hB hA (by show 0 < _; omega)
  have h2 := fun g A c W X h hB hA => C.send g ⟨2, [[97]], b, b, 1, 0, 0⟩ A 1 c [98] W X h (cg_ok (by simp) (by simp) (by omega) (by omega) (by omega) (by omega) (by omega)) hB hA (by show 1 < _; omega)
  rw [(cg_send1 b).1, (cg_send1 b).2.1, (cg_send1 b).2.2] at h1
  rw [(cg_send2 b).1, (cg_send2 b).2.1, (cg_send2 b).2.2] at h2
  have H1 := Lib.hid h1
  have H2 := Lib.hid h2
  have HTK : Hid (∀ o, o < 1000 → ∀ g W X, F g ⟨2, [[97], [98]], o, b, 2, 0, 0⟩ W X → Calls Try.prog 13 #[.pointer (some ⟨g, 0, none⟩)] W (GivesPks (F g ⟨2, [[97], [98]], o + 1, b, 2, 0, 0⟩) X [(1, 0, [])] W)) := fun o ho g W X h => by
    have := C.tick g _ W X h (cg_ok (by simp) cg_two ho (by omega) (by omega) (by omega) (by omega))
    rw [(cg_tick b o 0 ho).1, (cg_tick b o 0 ho).2] at this
    exact this
  have HWR : Hid (∀ o, 0 < o → o < 1000 → ∀ g W X, F g ⟨2, [[97], [98]], o, b, 2, 0, 0⟩ W X → Calls Try.prog 15 #[.pointer (some ⟨g, 0, none⟩), .agg #[.int .i64 4, .int .i64 1, .slice none 0 0]] W (GivesPks (F g ⟨2, [[97], [98]], o - 1, b, 2, 0, 0⟩) X [] W)) := fun o ho ho2 g W X h => by
    have := C.take g _ 4 1 none 0 0 [] W X h (cg_ok (by simp) cg_two ho2 (by omega) (by omega) (by omega) (by omega)) (by show 0 < _; omega) (by show 0 < _; omega) ⟨by omega, by omega⟩ ⟨by omega, by omega⟩ (Bys.nil _)
    rw [cg_wrong b o 0 ho ho2] at this
    exact this
  have HRT : Hid (∀ o k, 0 < o → o < 1000 → k + 1 ≤ b → ∀ g W X, F g ⟨2, [[97], [98]], o, b, 2, 0, k⟩ W X → Calls Try.prog 15 #[.pointer (some ⟨g, 0, none⟩), .agg #[.int .i64 4, .int .i64 0, .slice none 0 0]] W (GivesPks (F g ⟨2, [[97], [98]], o - 1, b, 2, 0, k + 1⟩) X [] W)) := fun o k ho ho2 hk g W X h => by
    have := C.take g _ 4 0 none 0 0 [] W X h (cg_ok (by simp) cg_two ho2 (by omega) (by omega) (by omega) (by omega)) (by show k < _; omega) (by show 0 < _; omega) ⟨by omega, by omega⟩ ⟨by omega, by omega⟩ (Bys.nil _)
    rw [cg_right b o k ho ho2 hk] at this
    exact this
  have HLS : Hid (∀ o, 0 < o → o < 1000 → ∀ g W X, F g ⟨2, [[97], [98]], o, b, 2, 0, b⟩ W X → Calls Try.prog 15 #[.pointer (some ⟨g, 0, none⟩), .agg #[.int .i64 4, .int .i64 0, .slice none 0 0]] W (GivesPks (F g ⟨2, [[98]], o - 1, o - 1, 2, 1, 0⟩) X [] W)) := fun o ho ho2 g W X h => by
    have := C.take g _ 4 0 none 0 0 [] W X h (cg_ok (by simp) cg_two ho2 (by omega) (by omega) (by omega) (by omega)) (by show b < _; omega) (by show 0 < _; omega) ⟨by omega, by omega⟩ ⟨by omega, by omega⟩ (Bys.nil _)
    rw [cg_last b o ho ho2] at this
    exact this
  have HAS : Hid (∀ o, o < 1000 → ∀ g W X, F g ⟨2, [[98]], o, o, 2, 1, 0⟩ W X → Calls Try.prog 15 #[.pointer (some ⟨g, 0, none⟩), .agg #[.int .i64 0, .int .i64 0, .slice none 0 0]] W (GivesPks (F g ⟨2, [[98]], o, o, 2, 1, 0⟩) X [(3, 1, [98])] W)) := fun o ho g W X h => by
    have := C.take g _ 0 0 none 0 0 [] W X h (cg_ok (by simp) (by simp) ho ho (by omega) (by omega) (by omega)) (by show 0 < _; omega) (by show 1 < _; omega) ⟨by omega, by omega⟩ ⟨by omega, by omega⟩ (Bys.nil _)
    rw [(cg_ask o).1, (cg_ask o).2] at this
    exact this
  have hfd : ∀ (W : World) (x y : Int) (u v z : Int) (q : Bool), (Instr.field 52 (.agg #[.int .i64 x, .int .i64 y, .int .u64 u, .int .u64 v, .int .u64 z, .bool q]) 1).run Try.prog W = .ok (.int .i64 y) W := fun _ _ _ _ _ _ _ => by kernel_rfl
  clear h1 h2
  go_enter Try.func4, Try.ntmps4
  go_wp2_with (fail)
  refine H0.out.mono ?_
  rintro e w1 ⟨g, X0, rfl, q1, x1, T1⟩
  have O1 : Hid (OneAt w.heap.size (F g ⟨2, [], b, b, 0, 0, 0⟩) X0 w1) := ⟨q1, x1, T1.size⟩
  have U1 := T1.alloc T1.size (.cells #[.int .u8 97] 5 (1, 2))
  have O1a := Lib.hid (O1.out.below (C.holds _ _) ((Below.refl _ w1).alloc (Nat.le_refl _) (.cells #[.int .u8 97] 5 (1, 2))))
  have av1 : Hid (Av X0 1 (some ⟨w1.heap.size, 0, none⟩)) := Av.of (fun hx => by have := (C.holds _ _).lt O1.out.p _ hx; omega)
  clear q1 x1 T1
  go_wp2_with (fail)
  refine (H1.out g _ _ _ X0 O1a.out.p (lit97c w1) av1.out).mono ?_
  rintro e w2 ⟨rfl, X2, q2, t2⟩
  obtain ⟨o2, b2⟩ := O1a.out.turn (P' := F g ⟨2, [[97]], b, b, 1, 0, 0⟩) q2 t2
  have O2 := Lib.hid o2
  have U2 := U1.trans b2
  have U2a := U2.alloc U2.size (.cells #[.int .u8 98] 5 (1, 2))
  have O2a := Lib.hid (O2.out.below (C.holds _ _) ((Below.refl _ w2).alloc (Nat.le_refl _) (.cells #[.int .u8 98] 5 (1, 2))))
  have av2 : Hid (Av X2 1 (some ⟨w2.heap.size, 0, none⟩)) := Av.of (fun hx => by have := (C.holds _ _).lt O2.out.p _ hx; omega)
  clear q2 t2 o2 b2 U1 U2
  go_wp2_with (fail)
  refine (H2.out g _ _ _ X2 O2a.out.p (lit98c w2) av2.out).mono ?_
  rintro e w3 ⟨rfl, X3, q3, t3⟩
  obtain ⟨o3, b3⟩ := O2a.out.turn (P' := F g ⟨2, [[97], [98]], b, b, 2, 0, 0⟩) q3 t3
  have O3 := Lib.hid o3
  have U3 := U2a.trans b3
  clear q3 t3 o3 b3 U2a O2a O2 O1 O1a av1 av2
  go_wp2_with (fail)
  refine (HN.out _ _).mono ?_
  rintro e w4 ⟨rfl, rfl⟩
  go_wp2_with (fail)
  refine (HN.out _ _).mono ?_
  rintro e w4 ⟨rfl, rfl⟩
  go_wp2_with (fail)
  refine (HN.out _ _).mono ?_
  rintro e w4 ⟨rfl, rfl⟩
  go_wp2_with (fail)
  go_loopw [13] (fun v wr => ∃ (i : Nat) (X : Nat → Prop), i ≤ T ∧ v = .int .i64 (i : Int) ∧ Hid (OneAt w.heap.size (F g ⟨2, [[97], [98]], b + i, b, 2, 0, 0⟩) X wr) ∧ Below w.heap.size w wr) (fun v _ => T - (intOf v).toNat)
  case atStart => exact ⟨0, X3, Nat.zero_le _, rfl, O3.out, U3⟩
  case round =>
    clear O3 U3
    obtain ⟨i, X, hi, rfl, HO, hbel⟩ := hrel
    by_cases hlt : i < T
    · have dl : decide ((i : Int) < (T : Int)) = true := by simp; omega
      have dl' : decide (i < T) = true := by simp; omega
      go_wp2_with (fail)
      refine (HTK.out (b + i) (by omega) g _ X HO.out.p).mono ?_
      rintro e w5 ⟨A5, n5, c5, X5, rfl, p5, q5, t5⟩
      obtain rfl : 1 = n5 := p5.len
      obtain ⟨o5, b5⟩ := HO.out.turn (P' := F g ⟨2, [[97], [98]], b + i + 1, b, 2, 0, 0⟩) q5 t5
      have O5 := Lib.hid o5
      have U5 := hbel.trans b5
      clear p5 q5 t5 o5 b5
      go_wp2
      go_roundw
      case rel => exact ⟨i + 1, X5, by omega, by go_num, O5.out, U5⟩
      case measure => simp [intOf]; omega
    · obtain rfl : i = T := by omega
      have dl : decide ((i : Int) < (i : Int)) = false := by simp
      go_wp2_with (fail)
      go_loopw [14] (fun v wr2 => ∃ (k : Nat) (X : Nat → Prop), k ≤ t ∧ v = .int .i64 (k : Int) ∧ Hid (OneAt w.heap.size (F g ⟨2, [[97], [98]], b + i - k, b, 2, 0, 0⟩) X wr2) ∧ Below w.heap.size w wr2) (fun v _ => t - (intOf v).toNat)
      case atStart => exact ⟨0, X, Nat.zero_le _, rfl, HO.out, hbel⟩
      case round =>
        clear HO hbel
        obtain ⟨k, X6, hk, rfl, HO, hbel⟩ := hrel
        by_cases hlt2 : k < t
        · have dl2 : decide ((k : Int) < (t : Int)) = true := by simp; omega
          have e6 : b + i - k - 1 = b + i - (k + 1) := by omega
          go_wp2_with (fail)
          refine (HWR.out (b + i - k) (by omega) (by omega) g _ X6 HO.out.p).mono ?_
          rintro e w5 ⟨A5, n5, c5, X5, rfl, p5, q5, t5⟩
          rw [e6] at q5
          obtain ⟨o5, b5⟩ := HO.out.turn (P' := F g ⟨2, [[97], [98]], b + i - (k + 1), b, 2, 0, 0⟩) q5 t5
          have O5 := Lib.hid o5
          have U5 := hbel.trans b5
          clear p5 q5 t5 o5 b5 e6
          go_wp2
          go_roundw
          case rel => exact ⟨k + 1, X5, by omega, by go_num, O5.out, U5⟩
          case measure => simp [intOf]; omega
        · obtain rfl : k = t := by omega
          have dl2 : decide ((k : Int) < (k : Int)) = false := by simp
          go_wp2_with (fail)
          go_loopw [15] (fun v wr3 => ∃ (j : Nat) (X : Nat → Prop), j ≤ b ∧ v = .int .u64 (j : Int) ∧ Hid (OneAt w.heap.size (F g ⟨2, [[97], [98]], b + i - k - j, b, 2, 0, j⟩) X wr3) ∧ Below w.heap.size w wr3) (fun v _ => b - (intOf v).toNat)
          case atStart => exact ⟨0, X6, Nat.zero_le _, rfl, HO.out, hbel⟩
          case round =>
            clear HO hbel
            obtain ⟨j, X7, hj, rfl, HO, hbel⟩ := hrel
            by_cases hlt3 : j < b
            · have dl3 : decide ((j : Int) < (b : Int)) = true := by simp; omega
              have e7 : b + i - k - j - 1 = b + i - k - (j + 1) := by omega
              go_wp2_with (fail)
              refine (HRT.out (b + i - k - j) j (by omega) (by omega) (by omega) g _ X7 HO.out.p).mono ?_
              rintro e w5 ⟨A5, n5, c5, X5, rfl, p5, q5, t5⟩
              rw [e7] at q5
              obtain ⟨o5, b5⟩ := HO.out.turn (P' := F g ⟨2, [[97], [98]], b + i - k - (j + 1), b, 2, 0, j + 1⟩) q5 t5
              have O5 := Lib.hid o5
              have U5 := hbel.trans b5
              clear p5 q5 t5 o5 b5 e7
              go_wp2
              go_roundw
              case rel => exact ⟨j + 1, X5, by omega, by go_num, O5.out, U5⟩
              case measure => simp [intOf]; omega
            · obtain rfl : j = b := by omega
              have dl3 : decide ((j : Int) < (j : Int)) = false := by simp
              obtain ⟨o0, ho0⟩ : ∃ o0, j + i - k - j = o0 := ⟨_, rfl⟩
              rw [ho0] at HO
              have hp0 : 0 < o0 := by omega
              have hp1 : o0 < 1000 := by omega
              obtain ⟨o9, ho9⟩ : ∃ o9, o0 - 1 = o9 := ⟨_, rfl⟩
              have h10 := ca_state0 C g _ o0 j j _ X7 HO.out.p
              have H10 := Lib.hid h10
              have H11 := Lib.hid (HLS.out o0 hp0 hp1)
              rw [ho9] at H11
              have hp9 : o9 < 1000 := by omega
              clear h10 HTK HWR HRT ho0 hlt hlt2 hlt3
              generalize ldS o0 = sp0 at *
              go_wp2_with (fail)
              refine H10.out.mono ?_
              rintro e w5 ⟨rfl, T5⟩
              have O5 := Lib.hid (HO.out.below (C.holds _ _) T5)
              have U5 := nxt hbel T5
              go_wp2_with (fail)
              refine (H11.out g _ X7 O5.out.p).mono ?_
              rintro e w6 ⟨A6, n6, c6, X8, rfl, p6, q6, t6⟩
              obtain ⟨o6, b6⟩ := O5.out.turn (P' := F g ⟨2, [[98]], o9, o9, 2, 1, 0⟩) q6 t6
              have O6 := Lib.hid o6
              have U6 := U5.trans b6
              clear p6 q6 t6 o6 b6 T5
              have h12 := ca_state1 C g _ o9 o9 _ X8 O6.out.p
              have H12 := Lib.hid h12
              clear h12
              obtain ⟨sp, hsp⟩ : ∃ sp, ldS o9 = sp := ⟨_, rfl⟩
              rw [hsp] at H12
              clear hsp
              go_wp2_with (fail)
              refine H12.out.mono ?_
              rintro e w7 ⟨rfl, T7⟩
              have B7 := (Below.refl _ w7).alloc (Nat.le_refl _) (.cells #[.int .i64 2, .int .i64 1, .int .u64 (o9 : Int), .int .u64 (o9 : Int), .int .u64 0, .bool sp] 52)
              have h13 := heap_alloc_new w7 (.cells #[.int .i64 2, .int .i64 1, .int .u64 (o9 : Int), .int .u64 (o9 : Int), .int .u64 0, .bool sp] 52)
              have O7 := Lib.hid ((O6.out.below (C.holds _ _) T7).below (C.holds _ _) B7)
              have U7 := nxt (nxt U6 T7) B7
              have H14 := Lib.hid (HAS.out o9 hp9 g _ X8 O7.out.p)
              have HRW := Lib.hid h13
              have noo : ((o9 : Int) == (o9 : Int)) = true := by simp
              have hs7 := T7.size
              clear T7 B7 h13
              go_wp2_with (fail)
              refine H14.out.mono ?_
              rintro e w8 ⟨A8, n8, c8, X9, rfl, p8, q8, t8⟩
              obtain ⟨o8, b8⟩ := O7.out.turn q8 t8
              have U8 := U7.trans b8
              have K8 := (t8.off.block _ (lt_row HRW.out) (fun hx => by have := (C.holds _ _).lt O6.out.p _ hx; omega)).trans HRW.out
              obtain ⟨r0, r1, r2, r3, r4, r5⟩ := row6 K8
              have PX := Lib.hid p8
              have L0 := lit98c w8
              have V1 := (Below.refl _ w8).alloc (Nat.le_refl _) (.cells #[.int .u8 98] 5 (1, 2))
              have L1 : Hid (Pks ((w8.alloc (.cells #[.int .u8 98] 5 (1, 2))).alloc (.cells #[.int .i64 3, .int .i64 1, .slice (some ⟨w8.heap.size, 0, none⟩) 1 1] 36)) (fun _ => False) (some ⟨w8.heap.size + 1, 0, none⟩) 1 1 [(3, 1, [98])]) := by
                have h := Pks.one (Y := fun _ => False) (k := 3) (lb := 1) L0 (fun _ _ _ h => h) (fun h => h)
                have e : (w8.alloc (.cells #[.int .u8 98] 5 (1, 2))).heap.size = w8.heap.size + 1 := by simp
                rw [e] at h
                exact h
              have V2 := V1.alloc (by simp) (.cells #[.int .i64 3, .int .i64 1, .slice (some ⟨w8.heap.size, 0, none⟩) 1 1] 36)
              have HSA := Lib.hid (rsameall13 _ _ _ _ _ _ _ _ _ _ (PX.out.below V2) L1.out)
              have U9 := nxt U8 V2
              clear V1 V2 L0 q8 t8 b8 o8 K8 p8 PX
              go_wp2_with (fail)
              refine HSA.out.mono ?_
              rintro e w9 ⟨rfl, T9⟩
              have U10 := nxt U9 T9
              go_wp2_with (fail)
              refine (HL.out _).mono ?_
              rintro e w11 ⟨rfl, T11⟩
              have U11 := nxt U10 T11
              go_wp2
              go_ret
              exact ⟨rfl, U11⟩
end Go.Proofs.Ytepmecmhnefhkaa
