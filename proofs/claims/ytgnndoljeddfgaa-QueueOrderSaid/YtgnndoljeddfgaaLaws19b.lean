/- The walk of layer 19's QueueOrder, over the contracts of queue. -/
import Derived.Test.YtgnndoljeddfgaaLn19
import Derived.Deep.RegionHeld3
import Derived.IntWalk
namespace Go.Proofs.Ytgnndoljeddfgaa
open Go.RowKit
set_option maxRecDepth 20000
theorem huge19_len {l : List (Bool × List UInt8)} (h : huge19 l = false) : l.length ≤ 100 := by
  unfold huge19 at h
  rw [Bool.or_eq_false_iff] at h
  have := h.1
  simpa using this
set_option maxHeartbeats 16000000 in
theorem walk_QueueOrder {Q : Nat → Nat → List (List UInt8) → World → (Nat → Prop) → Prop} (C : QuC Q) (r : Int) (A : Option Addr) (n c : Nat) (l : List (Bool × List UInt8)) (w : World) (hr : I64 r) (hR : Recs rdAct19 2 w A n c l) :
    Calls Try.prog 4 #[.int .i64 r, .slice A n c] w fun e w' => e = .returned (.bool true) ∧ Below w.heap.size w w' := by
  have HL := Lib.hid (fun W => live19_any C W)
  have HU := Lib.hid (fun W (T : Below w.heap.size w W) => huge19_any A n c l W (hR.below keeps19 T))
  have HN := Lib.hid num19_any
  have hlen := hR.1
  have hnc := hR.2.1
  have hcm := hR.2.2.1
  unfold maxLen at hcm
  have HC := Lib.hid hR.2.2.2
  have HLE := Lib.hid hlen
  have h100 : huge19 l = false → n ≤ 100 := fun h => by have := huge19_len h; omega
  clear hR hlen
  generalize huge19 l = hu at *
  by_cases hrr : r < 1 ∨ 16 < r
  · have G1 := Lib.hid (fun W => C.new_no r W hr hrr)
    clear hrr h100
    go_enter Try.func4, Try.ntmps4
    go_wp2_with (fail)
    refine (G1.out _).mono ?_
    rintro e w1 ⟨rfl, T1⟩
    go_wp2_with (fail)
    refine (HU.out _ T1).mono ?_
    rintro e w2 ⟨rfl, T2⟩
    have T2 := nxt T1 T2
    cases hu with
    | true =>
      go_wp2_with (fail)
      refine (HL.out _).mono ?_
      rintro e w3 ⟨rfl, T3⟩
      have T3 := nxt T2 T3
      go_wp2
      go_ret
      exact ⟨rfl, T3⟩
    | false =>
      go_wp2_with (fail)
      refine (HN.out _ _).mono ?_
      rintro e w3 ⟨rfl, rfl⟩
      go_wp2_with (fail)
      refine (HL.out _).mono ?_
      rintro e w3 ⟨rfl, T3⟩
      have T3 := nxt T2 T3
      go_wp2
      go_ret
      exact ⟨rfl, T3⟩
  · obtain ⟨room, rfl⟩ := Int.eq_ofNat_of_zero_le (show 0 ≤ r by omega)
    have hr1 : 1 ≤ room := by omega
    have hr2 : room ≤ 16 := by omega
    have G1 := Lib.hid (fun W => C.new_yes room W hr1 hr2)
    clear hrr
    go_enter Try.func4, Try.ntmps4
    go_wp2_with (fail)
    refine (G1.out _).mono ?_
    rintro e w1 ⟨ga, X0, rfl, q1, x1, T1⟩
    have Q1 := Lib.hid q1
    clear q1
    go_wp2_with (fail)
    refine (HU.out _ T1).mono ?_
    rintro e w2 ⟨rfl, T2⟩
    have Q2 := Lib.hid ((C.holds _ _ _).below Q1.out T2)
    have T2 := nxt T1 T2
    cases hu with
    | true =>
      go_wp2_with (fail)
      refine (HL.out _).mono ?_
      rintro e w3 ⟨rfl, T3⟩
      have T3 := nxt T2 T3
      go_wp2
      go_ret
      exact ⟨rfl, T3⟩
    | false =>
      have hn100 := h100 rfl
      clear h100
      go_wp2_with (fail)
      refine (HN.out _ _).mono ?_
      rintro e w3 ⟨rfl, rfl⟩
      have HL0 := Lib.hid (Ln.mk0 (C.holds _ _ _) Q2.out x1 T2.size)
      clear Q1 Q2 x1 T1
      go_wp2_with (fail)
      go_loopw [7, 8, 9] (fun vi vo i wr => ∃ (j no ni : Nat) (ls outs ins : List (List UInt8)) (Po Pi : Option Addr) (co ci : Nat) (X : Nat → Prop), j ≤ n ∧ vi = .slice Pi ni ci ∧ vo = .slice Po no co ∧ i = .int .i64 (j : Int) ∧ Hid (QOk room ls) ∧ Hid (Ln (Q ga room ls) w.heap.size (.slice Po no co) (.slice Pi ni ci) outs ins X wr) ∧ Hid (ins = outs ++ ls) ∧ Hid (outs.length = no) ∧ Hid (ins.length = ni) ∧ no ≤ j ∧ ni ≤ j ∧ Below w.heap.size w wr) (fun _ _ i _ => n - (intOf i).toNat)
      case atStart => exact ⟨0, 0, 0, [], [], [], none, none, 0, 0, X0, Nat.zero_le _, rfl, rfl, rfl, ⟨hr1, hr2, Nat.zero_le _, fun m hm => by cases hm⟩, HL0, rfl, rfl, rfl, Nat.le_refl _, Nat.le_refl _, T2⟩
      case round =>
        obtain ⟨j, no, ni, ls, outs, ins, Po, Pi, co, ci, X, hj, rfl, rfl, rfl, HOK, HLN, HEQ, hnoh, hnih, hol, hil, hbel⟩ := hrel
        by_cases hlt : j < n
        · have d0 : decide ((j : Int) < (n : Int)) = true := by simp; omega
          have hjl : j < l.length := by rw [HLE.out]; exact hlt
          obtain ⟨b, o, rfl, hb, hc⟩ := HC.out (by omega)
          obtain ⟨A', c', q0, q1, q2⟩ := hc j hjl
          have c0 := (hbel.cell (p := ⟨b, o + j * 2, none⟩) hb).trans q0
          have hjn : (j : Int) < (n : Int) := by omega
          clear hc
          generalize l[j] = x at *
          obtain ⟨p, m⟩ := x
          simp only at c0 q1 q2
          cases p with
          | true =>
            clear q1 q2 q0
            cases ls with
            | nil =>
              have F1 := C.pop ga room [] wr X HLN.out.q
              simp only [List.isEmpty_nil, Bool.not_true, List.headD_nil, List.tail_nil] at F1
              have F1 := Lib.hid F1
              go_wp2_with (fail)
              refine F1.out.mono ?_
              rintro e w3 ⟨A1, n1, c1, X2, rfl, -, -, q1, t1⟩
              obtain ⟨k1, k2⟩ := HLN.out.turn (C.holds _ _ _) q1 t1
              have HLN2 := Lib.hid k1
              have hb3 := hbel.trans k2
              clear k1 k2 q1 t1 F1 HLN
              have HOK2 := HOK
              have HEQ2 := HEQ
              have ho2 : no ≤ j + 1 := by omega
              have hi2 : ni ≤ j + 1 := by omega
              obtain ⟨ls2, hls2⟩ : ∃ z : List (List UInt8), z = [] := ⟨_, rfl⟩
              rw [← hls2] at HOK2 HEQ2 HLN2
              clear HOK HEQ hol hil hls2
              generalize outs = outs2 at *
              generalize ins = ins2 at *
              generalize no = NO at *
              generalize ni = NI at *
              have hNOh := hnoh
              have hNIh := hnih
              have E5 := Lib.hid (fun W h => C.len ga room ls2 W X2 h)
              have E6 := Lib.hid (fun W h => C.free ga room ls2 W X2 h)
              obtain ⟨N, hN⟩ : ∃ N, ls2.length = N := ⟨_, rfl⟩
              have hsum : NI = NO + N := by rw [← hNIh.out, ← hNOh.out, HEQ2.out, List.length_append, hN]
              obtain ⟨_, _, hN2, _⟩ := HOK2.out
              rw [hN] at E5 E6 hN2
              clear hN
              have KQ := Lib.hid (fun W (T : Below w3.heap.size w3 W) => (HLN2.out.below (C.holds ga room ls2) T))
              have KX := Lib.hid (fun W (T : Below w3.heap.size w3 W) => (C.holds ga room ls2).below HLN2.out.q T)
              have d5 : decide ((room : Int) < (N : Int)) = false := by simp; omega
              have d6 : (((N : Int) + ((room : Int) - (N : Int))) != (room : Int)) = false := by simp; omega
              have d6' : ((room : Int) != (room : Int)) = false := by simp
              have d7 : (((NI : Int) - (NO : Int)) != (N : Int)) = false := by simp; omega
              have s1 : (N : Int) + ((room : Int) - (N : Int)) = (room : Int) := by omega
              have s2 : (NI : Int) - (NO : Int) = (N : Int) := by omega
              have d8 : ((N : Int) != (N : Int)) = false := by simp
              have P3 := Below.refl w3.heap.size w3
              clear hsum
              go_wp2_with (fail)
              refine (E5.out _ (KX.out _ P3)).mono ?_
              rintro e u1 ⟨rfl, U1⟩
              have P4 := nxt P3 U1
              go_wp2_with (fail)
              refine (E5.out _ (KX.out _ P4)).mono ?_
              rintro e u2 ⟨rfl, U2⟩
              have P5 := nxt P4 U2
              go_wp2_with (fail)
              refine (E6.out _ (KX.out _ P5)).mono ?_
              rintro e u3 ⟨rfl, U3⟩
              have P6 := nxt P5 U3
              go_wp2_with (fail)
              refine (E5.out _ (KX.out _ P6)).mono ?_
              rintro e u4 ⟨rfl, U4⟩
              have P7 := nxt P6 U4
              have HLN4 := Lib.hid (KQ.out _ P7)
              have hb4 := hb3.trans (P7.mono hb3.size)
              clear P3 P4 P5 P6 U1 U2 U3 U4 KQ KX HLN2
              go_wp2_with (fail)
              go_roundw
              case rel => exact ⟨j + 1, NO, NI, ls2, outs2, ins2, Po, Pi, co, ci, X2, by omega, rfl, rfl, by go_num, HOK2, HLN4, HEQ2, hNOh, hNIh, ho2, hi2, hb4⟩
              case measure => simp [intOf]; omega
            | cons m1 ls2 =>
              have F1 := C.pop ga room (m1 :: ls2) wr X HLN.out.q
              simp only [List.isEmpty_cons, Bool.not_false, List.headD_cons, List.tail_cons] at F1
              have F1 := Lib.hid F1
              go_wp2_with (fail)
              refine F1.out.mono ?_
              rintro e w2 ⟨A1, n1, c1, X2, rfl, f1, in1, q1, t1⟩
              have AV := HLN.out.told f1.2.1 in1
              obtain ⟨k1, k2⟩ := HLN.out.turn (C.holds _ _ _) q1 t1
              have HK := Lib.hid k1
              have hb2 := hbel.trans k2
              have TA := (Below.refl w2.heap.size w2).alloc (Nat.le_refl _) (.cells #[.slice A1 n1 c1] 33)
              have hlit := lit_av f1.1 AV
              have HLIT := Lib.hid hlit
              have HO1 := Lib.hid (k1.o.below TA)
              have hsz : w.heap.size ≤ (w2.alloc (.cells #[.slice A1 n1 c1] 33)).heap.size := Nat.le_trans k1.b TA.size
              have HOK2 : Hid (QOk room ls2) := HOK.out.pop
              have HEQ2 : Hid (ins = (outs ++ [m1]) ++ ls2) := by show _ = _; rw [HEQ.out]; simp
              clear k1 k2 f1 in1 q1 t1 F1 HLN AV hlit HOK HEQ
              go_wp2_with ((refine app_rwy _ rfl (.tmp 42) (.tmp 44) rfl w.heap.size (fun k => X2 k ∨ (Value.slice Pi ni ci).ownBlock = some k) (.slice Po no co) outs rfl ?_ (fun k => X2 k ∨ (Value.slice Pi ni ci).ownBlock = some k ∨ (Value.slice Po no co).ownBlock = some k) (some ⟨w2.heap.size, 0, none⟩) 1 1 [m1] rfl rfl ?_ ?_ ?_ ?_ ?_ ?_); (exact HO1.out); (exact HLIT.out); (rw [hnoh.out]; omega); (exact hsz); (exact fun k _ hz => hz.elim .inl (fun h => .inr (.inl h))); (exact fun k hk => .inr (.inr hk)); intro v3 w3 hown3 hgrow3 hwhere3)
              obtain ⟨k1, k2⟩ := HK.out.outed (C.holds _ _ _) TA hown3 hgrow3 hwhere3
              obtain ⟨Po2, co2, hv3, -⟩ := k1.o.shape
              have hNO2 : (outs ++ [m1]).length = no + 1 := by rw [List.length_append, hnoh.out]; rfl
              rw [hNO2] at hv3
              subst hv3
              have HLN2 := Lib.hid k1
              have hb3 := hb2.trans k2
              have ho2 : no + 1 ≤ j + 1 := by omega
              have hi2 : ni ≤ j + 1 := by omega
              have hNOh := Lib.hid hNO2
              have hNIh := hnih
              clear hgrow3 hwhere3 hown3 HO1 HLIT HK k1 k2 hsz hnoh hol hil hb2 TA hNO2
              generalize outs ++ [m1] = outs2 at *
              generalize ins = ins2 at *
              generalize no + 1 = NO at *
              generalize ni = NI at *
              generalize Po2 = Po at *
              generalize co2 = co at *
              have E5 := Lib.hid (fun W h => C.len ga room ls2 W X2 h)
              have E6 := Lib.hid (fun W h => C.free ga room ls2 W X2 h)
              obtain ⟨N, hN⟩ : ∃ N, ls2.length = N := ⟨_, rfl⟩
              have hsum : NI = NO + N := by rw [← hNIh.out, ← hNOh.out, HEQ2.out, List.length_append, hN]
              obtain ⟨_, _, hN2, _⟩ := HOK2.out
              rw [hN] at E5 E6 hN2
              clear hN
              have KQ := Lib.hid (fun W (T : Below w3.heap.size w3 W) => (HLN2.out.below (C.holds ga room ls2) T))
              have KX := Lib.hid (fun W (T : Below w3.heap.size w3 W) => (C.holds ga room ls2).below HLN2.out.q T)
              have d5 : decide ((room : Int) < (N : Int)) = false := by simp; omega
              have d6 : (((N : Int) + ((room : Int) - (N : Int))) != (room : Int)) = false := by simp; omega
              have d6' : ((room : Int) != (room : Int)) = false := by simp
              have d7 : (((NI : Int) - (NO : Int)) != (N : Int)) = false := by simp; omega
              have s1 : (N : Int) + ((room : Int) - (N : Int)) = (room : Int) := by omega
              have s2 : (NI : Int) - (NO : Int) = (N : Int) := by omega
              have d8 : ((N : Int) != (N : Int)) = false := by simp
              have P3 := Below.refl w3.heap.size w3
              clear hsum
              go_wp2_with (fail)
              refine (E5.out _ (KX.out _ P3)).mono ?_
              rintro e u1 ⟨rfl, U1⟩
              have P4 := nxt P3 U1
              go_wp2_with (fail)
              refine (E5.out _ (KX.out _ P4)).mono ?_
              rintro e u2 ⟨rfl, U2⟩
              have P5 := nxt P4 U2
              go_wp2_with (fail)
              refine (E6.out _ (KX.out _ P5)).mono ?_
              rintro e u3 ⟨rfl, U3⟩
              have P6 := nxt P5 U3
              go_wp2_with (fail)
              refine (E5.out _ (KX.out _ P6)).mono ?_
              rintro e u4 ⟨rfl, U4⟩
              have P7 := nxt P6 U4
              have HLN4 := Lib.hid (KQ.out _ P7)
              have hb4 := hb3.trans (P7.mono hb3.size)
              clear P3 P4 P5 P6 U1 U2 U3 U4 KQ KX HLN2
              go_wp2_with (fail)
              go_roundw
              case rel => exact ⟨j + 1, NO, NI, ls2, outs2, ins2, Po, Pi, co, ci, X2, by omega, rfl, rfl, by go_num, HOK2, HLN4, HEQ2, hNOh, hNIh, ho2, hi2, hb4⟩
              case measure => simp [intOf]; omega
          | false =>
            have hml := q2.len
            have cM := Lib.hid (fun W (T : Below w.heap.size w W) => (T.cell (p := ⟨b, o + j * 2 + 1, none⟩) hb).trans q1)
            have BM := Lib.hid (fun W (T : Below w.heap.size w W) => q2.below T)
            have hav : Av (w.heap.size ≤ ·) m.length A' := fun hn p e hk => by
              obtain ⟨b', o', e', hb', _⟩ := q2.at_ hn
              rw [e] at e'
              injection e' with e'
              subst e'
              exact absurd hb' (Nat.not_lt.2 hk)
            obtain ⟨L, hL⟩ : ∃ L, m.length = L := ⟨_, rfl⟩
            rw [hL] at cM BM hav
            have HAV := Lib.hid hav
            have F1 := C.push ga room ls A' L c' m wr X HLN.out.q (BM.out _ hbel)
            have c1 := cM.out _ hbel
            by_cases hpe : quPushE room ls L = 0
            · have hq : quPush room ls m = ls ++ [m] := by unfold quPush; rw [hL, if_pos hpe]
              have HOK2 := HOK.out.push m
              rw [hq] at F1 HOK2
              rw [hpe] at F1
              have HOK2 := Lib.hid HOK2
              have F1 := Lib.hid F1
              have HEQ2 : Hid (ins ++ [m] = outs ++ (ls ++ [m])) := by show _ = _; rw [HEQ.out]; simp
              clear q0 q1 q2 hpe hL hml hq hav HOK HEQ
              go_wp2_with (fail)
              refine F1.out.mono ?_
              rintro e w2 ⟨rfl, X2, q1, t1⟩
              obtain ⟨k1, k2⟩ := HLN.out.turn (C.holds _ _ _) q1 t1
              have HK := Lib.hid k1
              have hb2 := hbel.trans k2
              have c2 := cM.out _ hb2
              have TA := (Below.refl w2.heap.size w2).alloc (Nat.le_refl _) (.cells #[.slice A' L c'] 33)
              have HLIT := Lib.hid (lit_av (BM.out _ hb2) HAV.out)
              have HO1 := Lib.hid (k1.i.below TA)
              have hil2 := Lib.hid k1.i.lt
              have hsz : w.heap.size ≤ (w2.alloc (.cells #[.slice A' L c'] 33)).heap.size := Nat.le_trans k1.b TA.size
              clear k1 k2 q1 t1 F1 HLN c1
              go_wp2_with (fail)
              refine (HN.out _ _).mono ?_
              rintro e w2' ⟨rfl, rfl⟩
              go_wp2_with ((refine app_rwy _ rfl (.tmp 55) (.tmp 61) rfl w.heap.size (w.heap.size ≤ ·) (.slice Pi ni ci) ins rfl ?_ (w.heap.size ≤ ·) (some ⟨w2.heap.size, 0, none⟩) 1 1 [m] rfl rfl ?_ ?_ ?_ ?_ ?_ ?_); (exact HO1.out); (exact HLIT.out); (rw [hnih.out]; omega); (exact hsz); (exact fun k _ hz => hz); (exact fun k hk => (hil2.out k hk).1); intro v3 w3 hown3 hgrow3 hwhere3)
              obtain ⟨k1, k2⟩ := HK.out.inned (C.holds _ _ _) TA hown3 hgrow3 hwhere3
              obtain ⟨Pi2, ci2, hv3, -⟩ := k1.i.shape
              have hNI2 : (ins ++ [m]).length = ni + 1 := by rw [List.length_append, hnih.out]; rfl
              rw [hNI2] at hv3
              subst hv3
              have HLN2 := Lib.hid k1
              have hb3 := hb2.trans k2
              have ho2 : no ≤ j + 1 := by omega
              have hi2 : ni + 1 ≤ j + 1 := by omega
              have hNOh := hnoh
              have hNIh := Lib.hid hNI2
              clear hgrow3 hwhere3 hown3 HO1 HLIT HK k1 k2 hsz hnih hol hil hb2 TA hil2 c2 hNI2
              generalize outs = outs2 at *
              generalize ni + 1 = NI at *
              generalize no = NO at *
              generalize Pi2 = Pi at *
              generalize ci2 = ci at *
              generalize ins ++ [m] = ins2 at *
              generalize ls ++ [m] = ls2 at *
              have E5 := Lib.hid (fun W h => C.len ga room ls2 W X2 h)
              have E6 := Lib.hid (fun W h => C.free ga room ls2 W X2 h)
              obtain ⟨N, hN⟩ : ∃ N, ls2.length = N := ⟨_, rfl⟩
              have hsum : NI = NO + N := by rw [← hNIh.out, ← hNOh.out, HEQ2.out, List.length_append, hN]
              obtain ⟨_, _, hN2, _⟩ := HOK2.out
              rw [hN] at E5 E6 hN2
              clear hN
              have KQ := Lib.hid (fun W (T : Below w3.heap.size w3 W) => (HLN2.out.below (C.holds ga room ls2) T))
              have KX := Lib.hid (fun W (T : Below w3.heap.size w3 W) => (C.holds ga room ls2).below HLN2.out.q T)
              have d5 : decide ((room : Int) < (N : Int)) = false := by simp; omega
              have d6 : (((N : Int) + ((room : Int) - (N : Int))) != (room : Int)) = false := by simp; omega
              have d6' : ((room : Int) != (room : Int)) = false := by simp
              have d7 : (((NI : Int) - (NO : Int)) != (N : Int)) = false := by simp; omega
              have s1 : (N : Int) + ((room : Int) - (N : Int)) = (room : Int) := by omega
              have s2 : (NI : Int) - (NO : Int) = (N : Int) := by omega
              have d8 : ((N : Int) != (N : Int)) = false := by simp
              have P3 := Below.refl w3.heap.size w3
              clear hsum
              go_wp2_with (fail)
              refine (E5.out _ (KX.out _ P3)).mono ?_
              rintro e u1 ⟨rfl, U1⟩
              have P4 := nxt P3 U1
              go_wp2_with (fail)
              refine (E5.out _ (KX.out _ P4)).mono ?_
              rintro e u2 ⟨rfl, U2⟩
              have P5 := nxt P4 U2
              go_wp2_with (fail)
              refine (E6.out _ (KX.out _ P5)).mono ?_
              rintro e u3 ⟨rfl, U3⟩
              have P6 := nxt P5 U3
              go_wp2_with (fail)
              refine (E5.out _ (KX.out _ P6)).mono ?_
              rintro e u4 ⟨rfl, U4⟩
              have P7 := nxt P6 U4
              have HLN4 := Lib.hid (KQ.out _ P7)
              have hb4 := hb3.trans (P7.mono hb3.size)
              clear P3 P4 P5 P6 U1 U2 U3 U4 KQ KX HLN2
              go_wp2_with (fail)
              go_roundw
              case rel => exact ⟨j + 1, NO, NI, ls2, outs2, ins2, Po, Pi, co, ci, X2, by omega, rfl, rfl, by go_num, HOK2, HLN4, HEQ2, hNOh, hNIh, ho2, hi2, hb4⟩
              case measure => simp [intOf]; omega
            · have hq : quPush room ls m = ls := by unfold quPush; rw [hL, if_neg hpe]
              rw [hq] at F1
              obtain ⟨pe, hpe'⟩ : ∃ pe, quPushE room ls L = pe := ⟨_, rfl⟩
              rw [hpe'] at F1 hpe
              have F1 := Lib.hid F1
              have dpe : ((pe : Int) == 0) = false := by simpa using hpe
              clear q0 q1 q2 hpe' hL hml hq hav HAV
              go_wp2_with (fail)
              refine F1.out.mono ?_
              rintro e w3 ⟨rfl, X2, q1, t1⟩
              obtain ⟨k1, k2⟩ := HLN.out.turn (C.holds _ _ _) q1 t1
              have HLN2 := Lib.hid k1
              have hb3 := hbel.trans k2
              clear k1 k2 q1 t1 F1 HLN c1
              have HOK2 := HOK
              have HEQ2 := HEQ
              have ho2 : no ≤ j + 1 := by omega
              have hi2 : ni ≤ j + 1 := by omega
              have hNOh := hnoh
              have hNIh := hnih
              clear HOK HEQ hol hil
              generalize no = NO at *
              generalize ni = NI at *
              generalize ls = ls2 at *
              generalize outs = outs2 at *
              generalize ins = ins2 at *
              go_wp2_with (fail)
              refine (HN.out _ _).mono ?_
              rintro e w3' ⟨rfl, rfl⟩
              have E5 := Lib.hid (fun W h => C.len ga room ls2 W X2 h)
              have E6 := Lib.hid (fun W h => C.free ga room ls2 W X2 h)
              obtain ⟨N, hN⟩ : ∃ N, ls2.length = N := ⟨_, rfl⟩
              have hsum : NI = NO + N := by rw [← hNIh.out, ← hNOh.out, HEQ2.out, List.length_append, hN]
              obtain ⟨_, _, hN2, _⟩ := HOK2.out
              rw [hN] at E5 E6 hN2
              clear hN
              have KQ := Lib.hid (fun W (T : Below w3.heap.size w3 W) => (HLN2.out.below (C.holds ga room ls2) T))
              have KX := Lib.hid (fun W (T : Below w3.heap.size w3 W) => (C.holds ga room ls2).below HLN2.out.q T)
              have d5 : decide ((room : Int) < (N : Int)) = false := by simp; omega
              have d6 : (((N : Int) + ((room : Int) - (N : Int))) != (room : Int)) = false := by simp; omega
              have d6' : ((room : Int) != (room : Int)) = false := by simp
              have d7 : (((NI : Int) - (NO : Int)) != (N : Int)) = false := by simp; omega
              have s1 : (N : Int) + ((room : Int) - (N : Int)) = (room : Int) := by omega
              have s2 : (NI : Int) - (NO : Int) = (N : Int) := by omega
              have d8 : ((N : Int) != (N : Int)) = false := by simp
              have P3 := Below.refl w3.heap.size w3
              clear hsum
              go_wp2_with (fail)
              refine (E5.out _ (KX.out _ P3)).mono ?_
              rintro e u1 ⟨rfl, U1⟩
              have P4 := nxt P3 U1
              go_wp2_with (fail)
              refine (E5.out _ (KX.out _ P4)).mono ?_
              rintro e u2 ⟨rfl, U2⟩
              have P5 := nxt P4 U2
              go_wp2_with (fail)
              refine (E6.out _ (KX.out _ P5)).mono ?_
              rintro e u3 ⟨rfl, U3⟩
              have P6 := nxt P5 U3
              go_wp2_with (fail)
              refine (E5.out _ (KX.out _ P6)).mono ?_
              rintro e u4 ⟨rfl, U4⟩
              have P7 := nxt P6 U4
              have HLN4 := Lib.hid (KQ.out _ P7)
              have hb4 := hb3.trans (P7.mono hb3.size)
              clear P3 P4 P5 P6 U1 U2 U3 U4 KQ KX HLN2
              go_wp2_with (fail)
              go_roundw
              case rel => exact ⟨j + 1, NO, NI, ls2, outs2, ins2, Po, Pi, co, ci, X2, by omega, rfl, rfl, by go_num, HOK2, HLN4, HEQ2, hNOh, hNIh, ho2, hi2, hb4⟩
              case measure => simp [intOf]; omega
        · have d0 : decide ((j : Int) < (n : Int)) = false := by simp; omega
          have d1 : ¬ ((j : Int) < (n : Int)) := by omega
          have F1 := Lib.hid (C.all ga room ls wr X HLN.out.q)
          have hls16 : ls.length ≤ 16 := by have := HOK.out; unfold QOk at this; omega
          go_wp2_with (fail)
          refine F1.out.mono ?_
          rintro e w2 ⟨P2, n2, c2, rfl, f2, T2⟩
          have hl2 := f2.1
          have hapr : 0 < n2 → ∃ b o us, P2 = some ⟨b, o, none⟩ ∧ b < w2.heap.size ∧ (∀ j (h : j < us.length), w2.cell? ⟨b, o + j, none⟩ = some us[j]) ∧ Rvs w2 (· < wr.heap.size) us ls := fun hn => by
            obtain ⟨b, o, e, hb, hc⟩ := f2.2.2.2.2 hn
            have : ∀ j, j < ls.length → ∃ v, w2.cell? ⟨b, o + j, none⟩ = some v ∧ ∀ h : j < ls.length, ∃ A d, v = .slice A ls[j].length d ∧ Bys w2 A ls[j].length d ls[j] ∧ Av (· < wr.heap.size) ls[j].length A := fun j hj => by
              obtain ⟨A, d, k1, k2⟩ := hc j hj
              exact ⟨_, k1, fun _ => ⟨A, d, rfl, k2.1, k2.2.1.imp (fun k hk => .inl hk)⟩⟩
            obtain ⟨V, hV⟩ := Go.Deep.choose_lt this
            refine ⟨b, o, (List.range ls.length).map V, e, hb, fun j hj => ?_, by simp, fun j hj hj' => ?_⟩
            · simp at hj; simpa using (hV j hj).1
            · simp at hj; simpa using (hV j hj).2 hj
          have HAP := Lib.hid hapr
          have HLN2 := Lib.hid (HLN.out.below (C.holds _ _ _) T2)
          have HLT := Lib.hid (And.intro HLN.out.lt (And.intro HLN.out.o.lt HLN.out.i.lt))
          have hbs := hbel.trans (T2.mono hbel.size)
          have HBS := Lib.hid hbs.size
          clear f2 hapr HLN F1
          go_wp2_with ((refine app_rwy0 _ rfl (.tmp 86) (.tmp 88) rfl w.heap.size (fun k => X k ∨ (Value.slice Pi ni ci).ownBlock = some k) (.slice Po no co) outs rfl ?_ (· < wr.heap.size) P2 n2 c2 ls rfl hl2 ?_ ?_ ?_ ?_ ?_ ?_); (exact HLN2.out.o); (exact HAP.out); (rw [hnoh.out]; omega); (exact HBS.out); (exact fun k _ hz => hz.elim (fun h => (HLT.out.1 k h).2) (fun h => (HLT.out.2.2 k h).2)); (exact fun k hk => (HLT.out.2.1 k hk).2); intro v3 w3 hown3 hgrow3 hwhere3)
          obtain ⟨k1, k2⟩ := HLN2.out.outed (C.holds _ _ _) (Below.refl _ _) hown3 hgrow3 hwhere3
          have hb3 := hbs.trans k2
          obtain ⟨Po2, co2, rfl, -⟩ := k1.o.shape
          obtain ⟨-, R1⟩ := k1.o.rws
          have R2 := k1.i.rws.2
          have heq := HEQ.out
          rw [heq] at R2
          have HSA := Lib.hid (sameall_true _ _ _ _ _ _ _ w3 R1 R2)
          clear R1 R2 k1 k2 hown3 hgrow3 hwhere3 HLN2 HAP heq
          go_wp2_with (fail)
          refine HSA.out.mono ?_
          rintro e w4 ⟨rfl, T4⟩
          have hb4 := hb3.trans (T4.mono hb3.size)
          go_wp2_with (fail)
          refine (HL.out _).mono ?_
          rintro e w5 ⟨rfl, T5⟩
          have hb5 := hb4.trans (T5.mono hb4.size)
          go_wp2
          go_ret
          exact ⟨rfl, hb5⟩
end Go.Proofs.Ytgnndoljeddfgaa
