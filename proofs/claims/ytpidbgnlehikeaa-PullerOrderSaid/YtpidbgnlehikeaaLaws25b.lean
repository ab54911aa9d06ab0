/- The walk of layer 25's PullerOrder, over the contracts of puller. -/
import Derived.Test.YtpidbgnlehikeaaPlD
import Derived.Test.YtpidbgnlehikeaaLn19
import Derived.Test.YtpidbgnlehikeaaArgsI
import Derived.Deep.RegionHeld3
import Derived.IntWalk
import Derived.BigGuard
namespace Go.Proofs.Ytpidbgnlehikeaa
open Go.RowKit
set_option maxRecDepth 20000

/-- what was returned, and what waits, are the messages of the first places, in order; what is ahead is these places' -/
def InvO (l : List (List UInt8)) (s : Pls) (outs : List (List UInt8)) : Prop := outs ++ s.ls = l.take s.ent ∧ s.ent ≤ l.length ∧ ∀ t ∈ s.late, l[t.1]? = some t.2
theorem InvO.step {l : List (List UInt8)} {s : Pls} {outs : List (List UInt8)} (h : InvO l s outs) (hc : plCan s = true) : InvO l (plStep s) outs := by
  obtain ⟨h1, h2, h3⟩ := h
  obtain ⟨c, ls, late, ent, ret⟩ := s
  cases late with
  | nil => simp [plCan] at hc
  | cons t r =>
    unfold plCan at hc
    simp only [Bool.and_eq_true, beq_iff_eq] at hc
    have e := hc.1
    have h4 := h3 t (by simp)
    simp only at h1 h2
    rw [e] at h4
    obtain ⟨hlt, he⟩ := List.getElem?_eq_some_iff.1 h4
    refine ⟨?_, hlt, fun u hu => h3 u (by simp; exact .inr hu)⟩
    show outs ++ (ls ++ [t.2]) = l.take (ent + 1)
    rw [← List.append_assoc, h1, List.take_succ_eq_append_getElem hlt, he]
theorem InvO.enter {l : List (List UInt8)} {s : Pls} {outs : List (List UInt8)} (h : InvO l s outs) : InvO l (plEnter s) outs := by
  generalize hn : s.late.length = n
  induction n generalizing s with
  | zero =>
    have : plCan s = false := by
      cases e : plCan s with
      | false => rfl
      | true => have := plCan_lt e; omega
    rw [plEnter_no this]
    exact h
  | succ n ih =>
    cases e : plCan s with
    | false => rw [plEnter_no e]; exact h
    | true =>
      rw [plEnter_yes e]
      exact ih (h.step e) (by have := plStep_len e; omega)
theorem plNear_at {s : Pls} {q : Int} {k : Nat} (hok : PlOk s) (h1 : (k : Int) < s.ent + s.c.w) (h2 : (s.ent : Int) - s.c.l ≤ k) (h : plNear s (rgMod k s.c.m) = some q) : q = k := by
  obtain ⟨q1, q2, q3⟩ := plNear_some h
  obtain ⟨⟨w1, w2⟩, ⟨l1, l2⟩, ⟨m1, m2⟩, -⟩ := hok.1
  refine Classical.byContradiction fun e => ?_
  exact rg_enough (k : Int) q s.c.m (s.c.w + s.c.l) (by omega) e (by omega) (by omega) (by omega) q3
theorem InvO.take {l : List (List UInt8)} {s : Pls} {outs : List (List UInt8)} {k : Nat} (h : InvO l s outs) (hok : PlOk s) (hk : k < l.length) (h1 : (k : Int) < s.ent + s.c.w) (h2 : (s.ent : Int) - s.c.l ≤ k) : InvO l (plTake s false (rgMod k s.c.m) l[k]) outs := by
  have e1 : plTake s false (rgMod k s.c.m) l[k] = plEnter (plKept s (rgMod k s.c.m) l[k]) := if_neg (by simp)
  rw [e1]
  refine InvO.enter ?_
  unfold plKept
  cases hq : plNear s (rgMod k s.c.m) with
  | none => exact h
  | some q =>
    obtain rfl := plNear_at hok h1 h2 hq
    simp only [Int.toNat_natCast]
    split
    · refine ⟨h.1, h.2.1, fun t ht => ?_⟩
      rcases ltKeep_mem _ _ _ t ht with h' | h'
      · exact h.2.2 t h'
      · rw [h']
        exact List.getElem?_eq_getElem hk
    · exact h
theorem InvO.recv {l : List (List UInt8)} {s : Pls} {outs : List (List UInt8)} {m : List UInt8} {r : List (List UInt8)} (h : InvO l s outs) (hl : s.ls = m :: r) : InvO l (plRecv s) (outs ++ [m]) := by
  unfold plRecv
  rw [if_neg (by rw [hl]; simp)]
  refine InvO.enter ⟨?_, h.2.1, h.2.2⟩
  have h1 := h.1
  rw [hl] at h1
  show (outs ++ [m]) ++ s.ls.tail = l.take s.ent
  rw [hl, ← h1]
  simp
theorem plRecv_nil {s : Pls} (h : s.ls = []) : plRecv s = s := by unfold plRecv; rw [if_pos h]
theorem plRecv_c {s : Pls} (h : PlOk s) : (plRecv s).c = s.c ∧ s.ent ≤ (plRecv s).ent := ⟨h.recv.2.2.2, h.recv.2.1⟩
theorem rgMod_t {p m : Int} (hp : 0 ≤ p) (hm : 1 ≤ m) : rgMod p m = p.tmod m := by
  unfold rgMod
  rw [if_neg (by omega), Int.tmod_eq_emod_of_nonneg hp]
theorem slice_hi_y (A : Option Addr) (n c k : Nat) (hk : k ≤ c) (w : World) : (Instr.slice 57 (.slice A n c) none (some (.int .i64 k)) none).run Try.prog w = .ok (.slice A k c) w := by
  have hinf : (Try.prog.info? 36).map (fun i => (i.zero, i.size)) = some (some (.slice none 0 0), 1) := by kernel_rfl
  obtain ⟨i0, hi, hz⟩ := Option.map_eq_some_iff.1 hinf
  injection hz with hz0 hz1
  have ht : Try.prog.underlying 57 = some (.slice (Try.prog.elem 57)) := by kernel_rfl
  have he : Try.prog.elem 57 = 36 := by kernel_rfl
  rw [run_slice_h _ _ _ _ _ ht .i64 k (by omega) (by omega), he]
  simp [Go.sizeOf, typeInfo, hi, hz1, sliced, map_add0]
theorem at_slice_y (x : Value) (lo hi mx : Option Value) (w : World) : (Instr.sliceAt 57 x lo hi mx).run Try.prog w = (Instr.slice 57 x lo hi mx).run Try.prog w :=
  run_sliceAt_slice _ _ x lo hi mx (by kernel_rfl)
theorem Rws.takeO {w : World} {P : Option Addr} {n c : Nat} {ls : List (List UInt8)} (h : Rws w P n c ls) (k : Nat) (hk : k ≤ n) : Rws w P k c (ls.take k) := by
  obtain ⟨h1, h2, h3, h4⟩ := h
  refine ⟨by simp; omega, by omega, h3, fun h0 => ?_⟩
  obtain ⟨b, o, vs, e, hb, hv, hc, hr⟩ := h4 (by omega)
  refine ⟨b, o, vs.take k, e, hb, by simp; omega, fun j hj => ?_, fun j hj hj' => ?_⟩
  · simp at hj
    simpa using hc j (by omega)
  · simp at hj hj'
    simpa using hr j (by omega) (by omega)
/-- what the law's own list, beside the object, is like behind a call that tells a message -/
theorem InvO.bound {l : List (List UInt8)} {s : Pls} {outs : List (List UInt8)} (h : InvO l s outs) : outs.length ≤ l.length := by
  have := congrArg List.length h.1
  simp at this
  have := h.2.1
  omega
/-- a row of a list of texts in memory -/
theorem rws_look {w : World} {P : Option Addr} {n c : Nat} {ls : List (List UInt8)} (h : Rws w P n c ls) (k : Nat) (hk : k < ls.length) : ∃ b o A d, P = some ⟨b, o, none⟩ ∧ b < w.heap.size ∧ w.cell? ⟨b, o + k, none⟩ = some (.slice A ls[k].length d) ∧ Bys w A ls[k].length d ls[k] := by
  obtain ⟨h1, h2, h3, h4⟩ := h
  obtain ⟨b, o, vs, e, hb, hv, hc, hr⟩ := h4 (by omega)
  obtain ⟨A, d, k1, k2⟩ := hr k (by omega) hk
  exact ⟨b, o, A, d, e, hb, by rw [hc k (by omega), k1], k2⟩
set_option maxHeartbeats 32000000 in
theorem walk_PullerOrder {F : Nat → Pls → World → (Nat → Prop) → Prop} (C : PlC F) (cfg : Cfg) (A : Option Addr) (n c : Nat) (l : List (List UInt8)) (O : Option Addr) (q oc : Nat) (zs : List Int) (w : World) (hcf : CfI cfg) (hR : Rws w A n c l) (hZ : Ints w O q oc zs) :
    Calls Try.prog 4 #[cfgV cfg, .slice A n c, .slice O q oc] w fun e w' => e = .returned (.bool true) ∧ Below w.heap.size w w' := by
  have HL := Lib.hid (fun W => live25_any C W)
  have HN := Lib.hid num25_any
  have hfd : ∀ (W : World) (x y : Int), (Instr.field 48 (.agg #[.int .i64 x, .int .i64 y]) 0).run Try.prog W = .ok (.int .i64 x) W := fun _ _ _ => by kernel_rfl
  have hlen := hR.1
  have hnc := hR.2.1
  have hcm := hR.2.2.1
  have hqc := hZ.2.1
  have hqm := hZ.2.2.1
  unfold maxLen at hcm hqm
  have HLL := Lib.hid hlen
  have HZL := Lib.hid hZ.1
  have G1n := Lib.hid (fun W h => C.new_no cfg W hcf h)
  have G1y := Lib.hid (fun W h => C.new_yes cfg W hcf h)
  have HF0 := Lib.hid (fun h => PlFew.new (c := cfg) h)
  have HCF := Lib.hid (fun h => plNew_ok (c := cfg) h)
  unfold cfgV at *
  obtain ⟨ce, hce⟩ : ∃ e, plNew cfg = e := ⟨_, rfl⟩
  rw [hce] at G1n G1y HF0 HCF
  obtain ⟨eng, cw, cm, cl, cb, room, beg⟩ := cfg
  simp only at *
  have T0 := (Below.refl _ w).alloc (Nat.le_refl _) (.cells #[.int .i64 eng, .int .i64 cw, .int .i64 cm, .int .i64 cl, .int .i64 cb, .int .i64 room, .int .u64 (beg : Int)] 24)
  have n0 := heap_alloc_new w (.cells #[.int .i64 eng, .int .i64 cw, .int .i64 cm, .int .i64 cl, .int .i64 cb, .int .i64 room, .int .u64 (beg : Int)] 24)
  obtain ⟨W0, hW0⟩ : ∃ W0, w.alloc (.cells #[.int .i64 eng, .int .i64 cw, .int .i64 cm, .int .i64 cl, .int .i64 cb, .int .i64 room, .int .u64 (beg : Int)] 24) = W0 := ⟨_, rfl⟩
  rw [hW0] at n0
  rw [hW0] at T0
  have HT0 := Lib.hid T0
  have HW0 := Lib.hid hW0
  have HXB := Lib.hid n0
  have HRL := Lib.hid (fun W (U : Below W0.heap.size W0 W) => (hR.below T0).below U)
  have HCZ := Lib.hid (hZ.below T0).2.2.2.2
  have hRr := hR.below T0
  have HRR := Lib.hid hRr
  clear hR hZ hlen hce hcf T0 n0 hRr hW0
  by_cases hrr : ce = 0
  · subst hrr
    have G1 := Lib.hid (fun W => G1y.out W rfl)
    have HF9 := Lib.hid (HF0.out rfl)
    have hpc := HCF.out rfl
    unfold PlCf at hpc
    simp only at hpc
    clear HF0 G1n G1y HCF
    go_enter Try.func4, Try.ntmps4
    go_wp2_with (fail)
    rw [HW0.out]
    have hx0 := HXB.out
    obtain ⟨z0, z1, z2, z3, z4, z5, z6⟩ := row7 hx0
    go_wp2_with (fail)
    refine (G1.out _).mono ?_
    rintro e w2 ⟨ga, X0, rfl, q2, x2, T2⟩
    have HQ2 := Lib.hid q2
    have HX2 := Lib.hid x2
    clear q2 x2 z0 z1 z2 z3 z4 z5 z6 hx0
    go_wp2_with (fail)
    refine (HN.out _ _).mono ?_
    rintro e w4 ⟨rfl, rfl⟩
    by_cases hn40 : 40 < n
    · have d1 : decide ((40 : Int) < (n : Int)) = true := by simp; omega
      go_wp2_with (fail)
      refine (HL.out _).mono ?_
      rintro e w3 ⟨rfl, T3⟩
      have T3 := nxt HT0.out (nxt T2 T3)
      go_wp2
      go_ret
      exact ⟨rfl, T3⟩
    · have d1 : decide ((40 : Int) < (n : Int)) = false := by simp; omega
      by_cases hq200 : 200 < q
      · have d2 : decide ((200 : Int) < (q : Int)) = true := by simp; omega
        go_wp2_with (fail)
        refine (HL.out _).mono ?_
        rintro e w3 ⟨rfl, T3⟩
        have T3 := nxt HT0.out (nxt T2 T3)
        go_wp2
        go_ret
        exact ⟨rfl, T3⟩
      · have d2 : decide ((200 : Int) < (q : Int)) = false := by simp; omega
        have HL0 : Hid (Ln (F ga ⟨⟨eng, cw, cm, cl, cb, room, beg⟩, [], [], 0, 0⟩) W0.heap.size (.slice none 0 0) (.slice none 0 0) [] [] X0 w2) := Ln.mk0 (C.holds _ _) HQ2.out HX2.out T2.size
        have KC : Hid ((∀ W, Below W0.heap.size W0 W → W.cell? ⟨w.heap.size, 1, none⟩ = some (.int .i64 cw) ∧ W.cell? ⟨w.heap.size, 3, none⟩ = some (.int .i64 cl)) ∧ ∀ W, Below W0.heap.size W0 W → W.cell? ⟨w.heap.size, 2, none⟩ = some (.int .i64 cm)) := by
          have key : ∀ W, Below W0.heap.size W0 W → _ := fun W U => row7 ((U.block w.heap.size (lt_row HXB.out)).trans HXB.out)
          exact ⟨fun W U => ⟨(key W U).2.1, (key W U).2.2.2.1⟩, fun W U => (key W U).2.2.1⟩
        have HKC := KC
        clear HQ2 HX2 G1
        go_wp2_with (fail)
        go_loopw [9, 10, 11] (fun vo vt i wr => ∃ (j no td : Nat) (s : Pls) (outs : List (List UInt8)) (Po : Option Addr) (co : Nat) (X : Nat → Prop), j ≤ q ∧ vo = .slice Po no co ∧ vt = .int .i64 (td : Int) ∧ i = .int .i64 (j : Int) ∧ Hid (PlFew j s) ∧ Hid (Ln (F ga s) W0.heap.size (.slice Po no co) (.slice none 0 0) outs [] X wr) ∧ Hid (InvO l s outs) ∧ Hid (s.c = ⟨eng, cw, cm, cl, cb, room, beg⟩) ∧ Hid (outs.length = no) ∧ no ≤ j ∧ Hid (td ≤ s.ent) ∧ Below W0.heap.size W0 wr) (fun _ _ i _ => q - (intOf i).toNat)
        case atStart => exact ⟨0, 0, 0, _, [], none, 0, X0, Nat.zero_le _, rfl, rfl, rfl, HF9, HL0, ⟨rfl, Nat.zero_le _, fun t ht => by cases ht⟩, rfl, rfl, Nat.le_refl _, Nat.zero_le _, T2⟩
        case round =>
          clear HL0 T2
          obtain ⟨j, no, td, s, outs, Po, co, X, hj, rfl, rfl, rfl, HF, HLN, HI, HCC, hnoh, hno, HTD, hbel⟩ := hrel
          have hEn0 : s.ent ≤ n := by have := HI.out.2.1; have := HLL.out; omega
          obtain ⟨E, hEe⟩ : ∃ E, s.ent = E := ⟨_, rfl⟩
          have HEE := Lib.hid hEe
          rw [hEe] at hEn0
          clear hEe
          by_cases hlt : j < q
          · have d0 : decide ((j : Int) < (q : Int)) = true := by simp; omega
            obtain ⟨bo, oo, rfl, hbo, hco⟩ := HCZ.out (by omega)
            have cz := (hbel.cell (p := ⟨bo, oo + j, none⟩) hbo).trans (hco j (by have := HZL.out; omega))
            have hjn : (j : Int) < (q : Int) := by omega
            have hj0 : (0 : Int) ≤ (j : Int) := by omega
            generalize (zs[j]'(by have := HZL.out; omega)) = z at *
            clear hco
            by_cases hz0 : z < 0
            · have d3 : decide (z < 0) = true := by simpa using hz0
              have F1 := C.recv ga s wr X HLN.out.q HF.out.1 (by have := HF.out.2; omega)
              have HF2 := Lib.hid HF.out.recv
              have HCC2 : Hid ((plRecv s).c = ⟨eng, cw, cm, cl, cb, room, beg⟩) := (plRecv_c HF.out.1).1.trans HCC.out
              have htd2 := Nat.le_trans HTD.out (plRecv_c HF.out.1).2
              cases hls : s.ls with
              | nil =>
                rw [hls] at F1
                simp only [List.isEmpty_nil, Bool.not_true, List.headD_nil] at F1
                have F1 := Lib.hid F1
                have HI2 : Hid (InvO l (plRecv s) outs) := by show InvO _ _ _; rw [plRecv_nil hls]; exact HI.out
                have HTD2 := Lib.hid htd2
                clear htd2 hls
                go_wp2_with (fail)
                refine F1.out.mono ?_
                rintro e w3 ⟨A1, n1, c1, P1, k1', j1, X2, rfl, -, -, -, -, q1, t1⟩
                obtain ⟨k1, k2⟩ := HLN.out.turn (C.holds _ _) q1 t1
                have HLN2 := Lib.hid k1
                have hb3 := hbel.trans k2
                clear k1 k2 q1 t1 F1 HLN
                go_wp2_with (fail)
                go_roundw
                case rel => exact ⟨j + 1, no, td, plRecv s, outs, Po, co, X2, by omega, rfl, rfl, by go_num, HF2.out, HLN2, HI2.out, HCC2.out, hnoh.out, by omega, HTD2.out, hb3⟩
                case measure => simp [intOf]; omega
              | cons m1 ls2 =>
                rw [hls] at F1
                simp only [List.isEmpty_cons, Bool.not_false, List.headD_cons] at F1
                have F1 := Lib.hid F1
                have HI2 := Lib.hid (HI.out.recv hls)
                have HTD2 := Lib.hid htd2
                clear htd2 hls
                go_wp2_with (fail)
                refine F1.out.mono ?_
                rintro e w2 ⟨A1, n1, c1, P1, k1', j1, X2, rfl, f1, f2, in1, -, q1, t1⟩
                have AV := HLN.out.told f2 in1
                obtain ⟨k1, k2⟩ := HLN.out.turn (C.holds _ _) q1 t1
                have HK := Lib.hid k1
                have hb2 := hbel.trans k2
                have TA := (Below.refl w2.heap.size w2).alloc (Nat.le_refl _) (.cells #[.slice A1 n1 c1] 36)
                have hlit := lit_av f1 AV
                have HLIT := Lib.hid hlit
                have HO1 := Lib.hid (k1.o.below TA)
                have hsz : W0.heap.size ≤ (w2.alloc (.cells #[.slice A1 n1 c1] 36)).heap.size := Nat.le_trans k1.b TA.size
                clear k1 k2 f1 f2 in1 q1 t1 F1 HLN AV hlit
                go_wp2_with ((refine app_rwy _ rfl (.tmp 70) (.tmp 72) rfl W0.heap.size (fun k => X2 k ∨ (Value.slice none 0 0).ownBlock = some k) (.slice Po no co) outs rfl ?_ (fun k => X2 k ∨ (Value.slice none 0 0).ownBlock = some k ∨ (Value.slice Po no co).ownBlock = some k) (some ⟨w2.heap.size, 0, none⟩) 1 1 [m1] rfl rfl ?_ ?_ ?_ ?_ ?_ ?_); (exact HO1.out); (exact HLIT.out); (rw [hnoh.out]; omega); (exact hsz); (exact fun k _ hz => hz.elim .inl (fun h => .inr (.inl h))); (exact fun k hk => .inr (.inr hk)); intro v3 w3 hown3 hgrow3 hwhere3)
                obtain ⟨k1, k2⟩ := HK.out.outed (C.holds _ _) TA hown3 hgrow3 hwhere3
                obtain ⟨Po2, co2, hv3, -⟩ := k1.o.shape
                have hNO2 : (outs ++ [m1]).length = no + 1 := by rw [List.length_append, hnoh.out]; rfl
                rw [hNO2] at hv3
                subst hv3
                have HLN2 := Lib.hid k1
                have hb3 := hb2.trans k2
                have HNO := Lib.hid hNO2
                clear hgrow3 hwhere3 hown3 HO1 HLIT HK k1 k2 hsz hb2 TA hNO2
                go_wp2_with (fail)
                go_roundw
                case rel => exact ⟨j + 1, no + 1, td, plRecv s, outs ++ [m1], Po2, co2, X2, by omega, rfl, rfl, by go_num, HF2.out, HLN2, HI2.out, HCC2.out, HNO.out, by omega, HTD2.out, hb3⟩
                case measure => simp [intOf]; omega
            · have d3 : decide (z < 0) = false := by simpa using hz0
              obtain ⟨k, rfl⟩ := Int.eq_ofNat_of_zero_le (show 0 ≤ z by omega)
              by_cases hz1 : n ≤ k
              · have d4 : decide ((n : Int) ≤ (k : Int)) = true := by simp; omega
                clear hz0
                have F1 := C.recv ga s wr X HLN.out.q HF.out.1 (by have := HF.out.2; omega)
                have HF2 := Lib.hid HF.out.recv
                have HCC2 : Hid ((plRecv s).c = ⟨eng, cw, cm, cl, cb, room, beg⟩) := (plRecv_c HF.out.1).1.trans HCC.out
                have htd2 := Nat.le_trans HTD.out (plRecv_c HF.out.1).2
                cases hls : s.ls with
                | nil =>
                  rw [hls] at F1
                  simp only [List.isEmpty_nil, Bool.not_true, List.headD_nil] at F1
                  have F1 := Lib.hid F1
                  have HI2 : Hid (InvO l (plRecv s) outs) := by show InvO _ _ _; rw [plRecv_nil hls]; exact HI.out
                  have HTD2 := Lib.hid htd2
                  clear htd2 hls
                  go_wp2_with (fail)
                  refine F1.out.mono ?_
                  rintro e w3 ⟨A1, n1, c1, P1, k1', j1, X2, rfl, -, -, -, -, q1, t1⟩
                  obtain ⟨k1, k2⟩ := HLN.out.turn (C.holds _ _) q1 t1
                  have HLN2 := Lib.hid k1
                  have hb3 := hbel.trans k2
                  clear k1 k2 q1 t1 F1 HLN
                  go_wp2_with (fail)
                  go_roundw
                  case rel => exact ⟨j + 1, no, td, plRecv s, outs, Po, co, X2, by omega, rfl, rfl, by go_num, HF2.out, HLN2, HI2.out, HCC2.out, hnoh.out, by omega, HTD2.out, hb3⟩
                  case measure => simp [intOf]; omega
                | cons m1 ls2 =>
                  rw [hls] at F1
                  simp only [List.isEmpty_cons, Bool.not_false, List.headD_cons] at F1
                  have F1 := Lib.hid F1
                  have HI2 := Lib.hid (HI.out.recv hls)
                  have HTD2 := Lib.hid htd2
                  clear htd2 hls
                  go_wp2_with (fail)
                  refine F1.out.mono ?_
                  rintro e w2 ⟨A1, n1, c1, P1, k1', j1, X2, rfl, f1, f2, in1, -, q1, t1⟩
                  have AV := HLN.out.told f2 in1
                  obtain ⟨k1, k2⟩ := HLN.out.turn (C.holds _ _) q1 t1
                  have HK := Lib.hid k1
                  have hb2 := hbel.trans k2
                  have TA := (Below.refl w2.heap.size w2).alloc (Nat.le_refl _) (.cells #[.slice A1 n1 c1] 36)
                  have hlit := lit_av f1 AV
                  have HLIT := Lib.hid hlit
                  have HO1 := Lib.hid (k1.o.below TA)
                  have hsz : W0.heap.size ≤ (w2.alloc (.cells #[.slice A1 n1 c1] 36)).heap.size := Nat.le_trans k1.b TA.size
                  clear k1 k2 f1 f2 in1 q1 t1 F1 HLN AV hlit
                  go_wp2_with ((refine app_rwy _ rfl (.tmp 70) (.tmp 72) rfl W0.heap.size (fun k => X2 k ∨ (Value.slice none 0 0).ownBlock = some k) (.slice Po no co) outs rfl ?_ (fun k => X2 k ∨ (Value.slice none 0 0).ownBlock = some k ∨ (Value.slice Po no co).ownBlock = some k) (some ⟨w2.heap.size, 0, none⟩) 1 1 [m1] rfl rfl ?_ ?_ ?_ ?_ ?_ ?_); (exact HO1.out); (exact HLIT.out); (rw [hnoh.out]; omega); (exact hsz); (exact fun k _ hz => hz.elim .inl (fun h => .inr (.inl h))); (exact fun k hk => .inr (.inr hk)); intro v3 w3 hown3 hgrow3 hwhere3)
                  obtain ⟨k1, k2⟩ := HK.out.outed (C.holds _ _) TA hown3 hgrow3 hwhere3
                  obtain ⟨Po2, co2, hv3, -⟩ := k1.o.shape
                  have hNO2 : (outs ++ [m1]).length = no + 1 := by rw [List.length_append, hnoh.out]; rfl
                  rw [hNO2] at hv3
                  subst hv3
                  have HLN2 := Lib.hid k1
                  have hb3 := hb2.trans k2
                  have HNO := Lib.hid hNO2
                  clear hgrow3 hwhere3 hown3 HO1 HLIT HK k1 k2 hsz hb2 TA hNO2
                  go_wp2_with (fail)
                  go_roundw
                  case rel => exact ⟨j + 1, no + 1, td, plRecv s, outs ++ [m1], Po2, co2, X2, by omega, rfl, rfl, by go_num, HF2.out, HLN2, HI2.out, HCC2.out, HNO.out, by omega, HTD2.out, hb3⟩
                  case measure => simp [intOf]; omega
              · have d4 : decide ((n : Int) ≤ (k : Int)) = false := by simp; omega
                have hkl : k < l.length := by have := HLL.out; omega
                obtain ⟨bl, ol, D', d', rfl, hbl, hcl, hBl⟩ := rws_look HRR.out k (by omega)
                have hci := (hbel.cell (p := ⟨bl, ol + k, none⟩) hbl).trans hcl
                have hk0 : (0 : Int) ≤ (k : Int) := by omega
                have hkn : (k : Int) < (n : Int) := by omega
                have BM := Lib.hid (fun W (U : Below W0.heap.size W0 W) => hBl.below U)
                obtain ⟨M, hM⟩ : ∃ M, l[k].length = M := ⟨_, rfl⟩
                rw [hM] at hci BM hcl hBl
                by_cases hM64 : 64 < M
                · have d5 : decide ((64 : Int) < (M : Int)) = true := by simp; omega
                  clear hz0 hz1 hM hBl hcl BM
                  have F1 := C.recv ga s wr X HLN.out.q HF.out.1 (by have := HF.out.2; omega)
                  have HF2 := Lib.hid HF.out.recv
                  have HCC2 : Hid ((plRecv s).c = ⟨eng, cw, cm, cl, cb, room, beg⟩) := (plRecv_c HF.out.1).1.trans HCC.out
                  have htd2 := Nat.le_trans HTD.out (plRecv_c HF.out.1).2
                  cases hls : s.ls with
                  | nil =>
                    rw [hls] at F1
                    simp only [List.isEmpty_nil, Bool.not_true, List.headD_nil] at F1
                    have F1 := Lib.hid F1
                    have HI2 : Hid (InvO l (plRecv s) outs) := by show InvO _ _ _; rw [plRecv_nil hls]; exact HI.out
                    have HTD2 := Lib.hid htd2
                    clear htd2 hls
                    go_wp2_with (fail)
                    refine F1.out.mono ?_
                    rintro e w3 ⟨A1, n1, c1, P1, k1', j1, X2, rfl, -, -, -, -, q1, t1⟩
                    obtain ⟨k1, k2⟩ := HLN.out.turn (C.holds _ _) q1 t1
                    have HLN2 := Lib.hid k1
                    have hb3 := hbel.trans k2
                    clear k1 k2 q1 t1 F1 HLN
                    go_wp2_with (fail)
                    go_roundw
                    case rel => exact ⟨j + 1, no, td, plRecv s, outs, Po, co, X2, by omega, rfl, rfl, by go_num, HF2.out, HLN2, HI2.out, HCC2.out, hnoh.out, by omega, HTD2.out, hb3⟩
                    case measure => simp [intOf]; omega
                  | cons m1 ls2 =>
                    rw [hls] at F1
                    simp only [List.isEmpty_cons, Bool.not_false, List.headD_cons] at F1
                    have F1 := Lib.hid F1
                    have HI2 := Lib.hid (HI.out.recv hls)
                    have HTD2 := Lib.hid htd2
                    clear htd2 hls
                    go_wp2_with (fail)
                    refine F1.out.mono ?_
                    rintro e w2 ⟨A1, n1, c1, P1, k1', j1, X2, rfl, f1, f2, in1, -, q1, t1⟩
                    have AV := HLN.out.told f2 in1
                    obtain ⟨k1, k2⟩ := HLN.out.turn (C.holds _ _) q1 t1
                    have HK := Lib.hid k1
                    have hb2 := hbel.trans k2
                    have TA := (Below.refl w2.heap.size w2).alloc (Nat.le_refl _) (.cells #[.slice A1 n1 c1] 36)
                    have hlit := lit_av f1 AV
                    have HLIT := Lib.hid hlit
                    have HO1 := Lib.hid (k1.o.below TA)
                    have hsz : W0.heap.size ≤ (w2.alloc (.cells #[.slice A1 n1 c1] 36)).heap.size := Nat.le_trans k1.b TA.size
                    clear k1 k2 f1 f2 in1 q1 t1 F1 HLN AV hlit
                    go_wp2_with ((refine app_rwy _ rfl (.tmp 70) (.tmp 72) rfl W0.heap.size (fun k => X2 k ∨ (Value.slice none 0 0).ownBlock = some k) (.slice Po no co) outs rfl ?_ (fun k => X2 k ∨ (Value.slice none 0 0).ownBlock = some k ∨ (Value.slice Po no co).ownBlock = some k) (some ⟨w2.heap.size, 0, none⟩) 1 1 [m1] rfl rfl ?_ ?_ ?_ ?_ ?_ ?_); (exact HO1.out); (exact HLIT.out); (rw [hnoh.out]; omega); (exact hsz); (exact fun k _ hz => hz.elim .inl (fun h => .inr (.inl h))); (exact fun k hk => .inr (.inr hk)); intro v3 w3 hown3 hgrow3 hwhere3)
                    obtain ⟨k1, k2⟩ := HK.out.outed (C.holds _ _) TA hown3 hgrow3 hwhere3
                    obtain ⟨Po2, co2, hv3, -⟩ := k1.o.shape
                    have hNO2 : (outs ++ [m1]).length = no + 1 := by rw [List.length_append, hnoh.out]; rfl
                    rw [hNO2] at hv3
                    subst hv3
                    have HLN2 := Lib.hid k1
                    have hb3 := hb2.trans k2
                    have HNO := Lib.hid hNO2
                    clear hgrow3 hwhere3 hown3 HO1 HLIT HK k1 k2 hsz hb2 TA hNO2
                    go_wp2_with (fail)
                    go_roundw
                    case rel => exact ⟨j + 1, no + 1, td, plRecv s, outs ++ [m1], Po2, co2, X2, by omega, rfl, rfl, by go_num, HF2.out, HLN2, HI2.out, HCC2.out, HNO.out, by omega, HTD2.out, hb3⟩
                    case measure => simp [intOf]; omega
                · have d5 : decide ((64 : Int) < (M : Int)) = false := by simp; omega
                  have HAV : Hid (∀ X : Nat → Prop, (∀ i, X i → W0.heap.size ≤ i) → Av X M D') := fun X hX hn p e hx => by
                    obtain ⟨b9, o9, e', hb9, _⟩ := hBl.at_ hn
                    rw [e] at e'
                    injection e' with e'
                    subst e'
                    have : W0.heap.size ≤ b9 := hX _ hx
                    omega
                  have HKC2 : Hid ((∀ W, Below W0.heap.size W0 W → W.cell? ⟨w.heap.size, 1, none⟩ = some (.int .i64 cw) ∧ W.cell? ⟨w.heap.size, 3, none⟩ = some (.int .i64 cl)) ∧ ∀ W, Below W0.heap.size W0 W → W.cell? ⟨w.heap.size, 2, none⟩ = some (.int .i64 cm) ∧ W.cell? ⟨bl, ol + k, none⟩ = some (Value.slice D' M d')) := ⟨HKC.out.1, fun W U => ⟨HKC.out.2 W U, (U.cell (p := ⟨bl, ol + k, none⟩) hbl).trans hcl⟩⟩
                  have KC := HKC2
                  have HST := Lib.hid (fun W (U : Below wr.heap.size wr W) => C.state ga s W X ((C.holds _ _).below HLN.out.q U))
                  rw [HEE.out] at HST
                  have hcm1 : 1 ≤ cm := by omega
                  have hw1 : IntKind.i64.wrap ((E : Int) + cw) = (E : Int) + cw := IntWalk.i64_in _ (by omega)
                  have hw2 : IntKind.i64.wrap ((E : Int) - cl) = (E : Int) - cl := IntWalk.i64_in _ (by omega)
                  clear hz0 hz1 hM hBl hcl
                  have P0 := Below.refl wr.heap.size wr
                  by_cases hge : (E : Int) + cw ≤ (k : Int)
                  · have d7 : decide ((E : Int) + cw ≤ (k : Int)) = true := by simpa using hge
                    go_wp2_with (fail)
                    refine wp_region_held_drew (S := (fun w' => w'.cell? ⟨w.heap.size, 1, none⟩ = some (.int .i64 cw) ∧ w'.cell? ⟨w.heap.size, 3, none⟩ = some (.int .i64 cl))) (by kernel_rfl) (KC.out.1 _ hbel.drew) (fun hHeld => ?_)
                    refine' wpAnyH_take (i := 0) (oi := _) (v := _) ?hig0 (by kernel_rfl) (by kernel_rfl) (by kernel_rfl) ?hQg0 ?hyg0 (by assumption) ?restg0
                    case hig0 =>
                      simp only [List.getElem?_toArray, List.getElem?_cons_zero]
                      rfl
                    case hQg0 => exact fun _ _ _ h => h
                    case hyg0 =>
                      refine Or.inl ⟨by rfl, ?_⟩
                      intro w hSw
                      try dsimp only at hSw
                      go_simp
                      try with_reducible rfl
                    try simp only [Act.put, List.setIfInBounds_toArray, List.set_cons_zero, List.set_cons_succ]
                    refine' wpAnyH_take (i := 1) (oi := _) (v := _) ?hig1 (by kernel_rfl) (by kernel_rfl) (by kernel_rfl) ?hQg1 ?hyg1 (by assumption) ?restg1
                    case hig1 =>
                      simp only [List.getElem?_toArray, List.getElem?_cons_succ, List.getElem?_cons_zero]
                      rfl
                    case hQg1 => exact fun _ _ _ h => h
                    case hyg1 =>
                      refine Or.inl ⟨by rfl, ?_⟩
                      intro w hSw
                      try dsimp only at hSw
                      go_simp
                      try with_reducible rfl
                    try simp only [Act.put, List.setIfInBounds_toArray, List.set_cons_zero, List.set_cons_succ]
                    refine' wpAnyH_take (i := 4) (oi := _) (v := _) ?hig4 (by kernel_rfl) (by kernel_rfl) (by kernel_rfl) ?hQg4 ?hyg4 (by assumption) ?restg4
                    case hig4 =>
                      simp only [List.getElem?_toArray, List.getElem?_cons_succ, List.getElem?_cons_zero]
                      rfl
                    case hQg4 => exact fun _ _ _ h => h
                    case hyg4 =>
                      refine Or.inl ⟨by rfl, ?_⟩
                      intro w hSw
                      try dsimp only at hSw
                      go_simp
                      try with_reducible rfl
                    try simp only [Act.put, List.setIfInBounds_toArray, List.set_cons_zero, List.set_cons_succ]
                    refine' wpAnyH_take (i := 5) (oi := _) (v := _) ?hig5 (by kernel_rfl) (by kernel_rfl) (by kernel_rfl) ?hQg5 ?hyg5 (by assumption) ?restg5
                    case hig5 =>
                      simp only [List.getElem?_toArray, List.getElem?_cons_succ, List.getElem?_cons_zero]
                      rfl
                    case hQg5 => exact fun _ _ _ h => h
                    case hyg5 =>
                      refine Or.inl ⟨by rfl, ?_⟩
                      intro w hSw
                      try dsimp only at hSw
                      go_simp
                      try with_reducible rfl
                    try simp only [Act.put, List.setIfInBounds_toArray, List.set_cons_zero, List.set_cons_succ]
                    refine wpAnyH_ready (rs := [2]) (by kernel_rfl) (by simp) ?_
                    refine' AllReadyH.cons (o := _) ?hig2 ?hyg2 AllReadyH.nil
                    case hig2 =>
                      simp only [List.getElem?_toArray, List.getElem?_cons_succ, List.getElem?_cons_zero]
                      rfl
                    intro K hK
                    go_simp
                    go_at_call 17
                    refine (HST.out _ P0.drew).mono ?_
                    rintro e w1 ⟨rfl, V1⟩
                    have Z1 := nxt P0.drew V1
                    have hb1 := nxt hbel Z1
                    go_wp2_with (fail)
                    refine hK.out _ _ (KC.out.1 _ hb1) (fun hHeld => ?_)
                    clear hK K
                    try simp only [Act.put, List.setIfInBounds_toArray, List.set_cons_zero, List.set_cons_succ]
                    refine' wpAnyH_take (i := 3) (oi := _) (v := _) ?hig3 (by kernel_rfl) (by kernel_rfl) (by kernel_rfl) ?hQg3 ?hyg3 (by assumption) ?restg3
                    case hig3 =>
                      simp only [List.getElem?_toArray, List.getElem?_cons_succ, List.getElem?_cons_zero]
                      rfl
                    case hQg3 => exact fun _ _ _ h => h
                    case hyg3 =>
                      refine Or.inl ⟨by rfl, ?_⟩
                      intro w hSw
                      try dsimp only at hSw
                      go_simp
                      try with_reducible rfl
                    try simp only [Act.put, List.setIfInBounds_toArray, List.set_cons_zero, List.set_cons_succ]
                    refine' wpAnyH_take (i := 6) (oi := _) (v := _) ?hig6 (by kernel_rfl) (by kernel_rfl) (by kernel_rfl) ?hQg6 ?hyg6 (by assumption) ?restg6
                    case hig6 =>
                      simp only [List.getElem?_toArray, List.getElem?_cons_succ, List.getElem?_cons_zero]
                      rfl
                    case hQg6 => exact fun _ _ _ h => h
                    case hyg6 =>
                      refine Or.inl ⟨by rfl, ?_⟩
                      intro w hSw
                      try dsimp only at hSw
                      go_simp
                      try with_reducible rfl
                    try simp only [Act.put, List.setIfInBounds_toArray, List.set_cons_zero, List.set_cons_succ]
                    refine' wpAnyH_take (i := 7) (oi := _) (v := _) ?hig7 (by kernel_rfl) (by kernel_rfl) (by kernel_rfl) ?hQg7 ?hyg7 (by assumption) ?restg7
                    case hig7 =>
                      simp only [List.getElem?_toArray, List.getElem?_cons_succ, List.getElem?_cons_zero]
                      rfl
                    case hQg7 => exact fun _ _ _ h => h
                    case hyg7 =>
                      refine Or.inl ⟨by rfl, ?_⟩
                      intro w hSw
                      try dsimp only at hSw
                      go_simp
                      try with_reducible rfl
                    try simp only [Act.put, List.setIfInBounds_toArray, List.set_cons_zero, List.set_cons_succ]
                    refine' wpAnyH_take (i := 8) (oi := _) (v := _) ?hig8 (by kernel_rfl) (by kernel_rfl) (by kernel_rfl) ?hQg8 ?hyg8 (by assumption) ?restg8
                    case hig8 =>
                      simp only [List.getElem?_toArray, List.getElem?_cons_succ, List.getElem?_cons_zero]
                      rfl
                    case hQg8 => exact fun _ _ _ h => h
                    case hyg8 =>
                      refine Or.inl ⟨by rfl, ?_⟩
                      intro w hSw
                      try dsimp only at hSw
                      go_simp
                      try with_reducible rfl
                    try simp only [Act.put, List.setIfInBounds_toArray, List.set_cons_zero, List.set_cons_succ]
                    refine' wpAnyH_take (i := 9) (oi := _) (v := undef) ?hig9 (by kernel_rfl) (by kernel_rfl) (by kernel_rfl) ?hQg9 ?hyg9 (by assumption) ?restg9
                    case hig9 =>
                      simp only [List.getElem?_toArray, List.getElem?_cons_succ, List.getElem?_cons_zero]
                      rfl
                    case hQg9 => exact fun _ _ _ h => h
                    case hyg9 => exact Or.inr ⟨by rfl, rfl⟩
                    try simp only [Act.put, List.setIfInBounds_toArray, List.set_cons_zero, List.set_cons_succ]
                    refine' wpAnyH_take (i := 10) (oi := _) (v := undef) ?hig10 (by kernel_rfl) (by kernel_rfl) (by kernel_rfl) ?hQg10 ?hyg10 (by assumption) ?restg10
                    case hig10 =>
                      simp only [List.getElem?_toArray, List.getElem?_cons_succ, List.getElem?_cons_zero]
                      rfl
                    case hQg10 => exact fun _ _ _ h => h
                    case hyg10 => exact Or.inr ⟨by rfl, rfl⟩
                    try simp only [Act.put, List.setIfInBounds_toArray, List.set_cons_zero, List.set_cons_succ]
                    refine' wpAnyH_take (i := 11) (oi := _) (v := undef) ?hig11 (by kernel_rfl) (by kernel_rfl) (by kernel_rfl) ?hQg11 ?hyg11 (by assumption) ?restg11
                    case hig11 =>
                      simp only [List.getElem?_toArray, List.getElem?_cons_succ, List.getElem?_cons_zero]
                      rfl
                    case hQg11 => exact fun _ _ _ h => h
                    case hyg11 => exact Or.inr ⟨by rfl, rfl⟩
                    try simp only [Act.put, List.setIfInBounds_toArray, List.set_cons_zero, List.set_cons_succ]
                    refine' wpAnyH_take (i := 12) (oi := _) (v := undef) ?hig12 (by kernel_rfl) (by kernel_rfl) (by kernel_rfl) ?hQg12 ?hyg12 (by assumption) ?restg12
                    case hig12 =>
                      simp only [List.getElem?_toArray, List.getElem?_cons_succ, List.getElem?_cons_zero]
                      rfl
                    case hQg12 => exact fun _ _ _ h => h
                    case hyg12 => exact Or.inr ⟨by rfl, rfl⟩
                    try simp only [Act.put, List.setIfInBounds_toArray, List.set_cons_zero, List.set_cons_succ]
                    refine' wpAnyH_take (i := 13) (oi := _) (v := undef) ?hig13 (by kernel_rfl) (by kernel_rfl) (by kernel_rfl) ?hQg13 ?hyg13 (by assumption) ?restg13
                    case hig13 =>
                      simp only [List.getElem?_toArray, List.getElem?_cons_succ, List.getElem?_cons_zero]
                      rfl
                    case hQg13 => exact fun _ _ _ h => h
                    case hyg13 => exact Or.inr ⟨by rfl, rfl⟩
                    try simp only [Act.put, List.setIfInBounds_toArray, List.set_cons_zero, List.set_cons_succ]
                    refine' wpAnyH_take (i := 14) (oi := _) (v := undef) ?hig14 (by kernel_rfl) (by kernel_rfl) (by kernel_rfl) ?hQg14 ?hyg14 (by assumption) ?restg14
                    case hig14 =>
                      simp only [List.getElem?_toArray, List.getElem?_cons_succ, List.getElem?_cons_zero]
                      rfl
                    case hQg14 => exact fun _ _ _ h => h
                    case hyg14 => exact Or.inr ⟨by rfl, rfl⟩
                    try simp only [Act.put, List.setIfInBounds_toArray, List.set_cons_zero, List.set_cons_succ]
                    refine' wpAnyH_take (i := 15) (oi := _) (v := undef) ?hig15 (by kernel_rfl) (by kernel_rfl) (by kernel_rfl) ?hQg15 ?hyg15 (by assumption) ?restg15
                    case hig15 =>
                      simp only [List.getElem?_toArray, List.getElem?_cons_succ, List.getElem?_cons_zero]
                      rfl
                    case hQg15 => exact fun _ _ _ h => h
                    case hyg15 => exact Or.inr ⟨by rfl, rfl⟩
                    try simp only [Act.put, List.setIfInBounds_toArray, List.set_cons_zero, List.set_cons_succ]
                    refine' wpAnyH_take (i := 16) (oi := _) (v := undef) ?hig16 (by kernel_rfl) (by kernel_rfl) (by kernel_rfl) ?hQg16 ?hyg16 (by assumption) ?restg16
                    case hig16 =>
                      simp only [List.getElem?_toArray, List.getElem?_cons_succ, List.getElem?_cons_zero]
                      rfl
                    case hQg16 => exact fun _ _ _ h => h
                    case hyg16 => exact Or.inr ⟨by rfl, rfl⟩
                    try simp only [Act.put, List.setIfInBounds_toArray, List.set_cons_zero, List.set_cons_succ]
                    refine' wpAnyH_take (i := 17) (oi := _) (v := _) ?hig17 (by kernel_rfl) (by kernel_rfl) (by kernel_rfl) ?hQg17 ?hyg17 (by assumption) ?restg17
                    case hig17 =>
                      simp only [List.getElem?_toArray, List.getElem?_cons_succ, List.getElem?_cons_zero]
                      rfl
                    case hQg17 => exact fun _ _ _ h => h
                    case hyg17 =>
                      refine Or.inl ⟨by rfl, ?_⟩
                      intro w hSw
                      try dsimp only at hSw
                      go_simp
                      try with_reducible rfl
                    try simp only [Act.put, List.setIfInBounds_toArray, List.set_cons_zero, List.set_cons_succ]
                    refine wpAnyH_done (by kernel_rfl) ?_ _
                    have HLN2 := Lib.hid (HLN.out.below (C.holds _ _) Z1)
                    go_wp2_with (fail)
                    go_roundw
                    case rel => exact ⟨j + 1, no, td, s, outs, Po, co, X, by omega, rfl, rfl, by go_num, HF.out.more, HLN2, HI.out, HCC.out, hnoh.out, by omega, HTD.out, hb1⟩
                    case measure => simp [intOf]; omega
                  · have d7 : decide ((E : Int) + cw ≤ (k : Int)) = false := by simpa using hge
                    by_cases hlt2 : (k : Int) < (E : Int) - cl
                    · have d8 : decide ((k : Int) < (E : Int) - cl) = true := by simpa using hlt2
                      go_wp2_with (fail)
                      go_region_held3 (fun w' => w'.cell? ⟨w.heap.size, 1, none⟩ = some (.int .i64 cw) ∧ w'.cell? ⟨w.heap.size, 3, none⟩ = some (.int .i64 cl)) (first | exact KC.out.1 _ hbel | exact KC.out.1 _ hbel.drew | exact KC.out.1 _ hb1 | exact KC.out.1 _ hb2)
                        (first
                          | (go_at_call 17; (with_reducible refine (HST.out _ (by first | exact P0 | exact P0.drew)).mono ?_); rintro e w1 ⟨rfl, V1⟩; have Z1 := nxt (by first | exact P0 | exact P0.drew) V1; have hb1 := nxt hbel Z1)
                          | (go_at_call 17; (with_reducible refine (HST.out _ Z1).mono ?_); rintro e w2 ⟨rfl, V2⟩; have Z2 := nxt Z1 V2; have hb2 := nxt hbel Z2))
                      all_goals
                        have HLN2 := Lib.hid (HLN.out.below (C.holds _ _) Z2)
                        go_wp2_with (fail)
                        go_roundw
                        case rel => exact ⟨j + 1, no, td, s, outs, Po, co, X, by omega, rfl, rfl, by go_num, HF.out.more, HLN2, HI.out, HCC.out, hnoh.out, by omega, HTD.out, hb2⟩
                        case measure => simp [intOf]; omega
                    · have d8 : decide ((k : Int) < (E : Int) - cl) = false := by simpa using hlt2
                      have hsq := rgMod_t (p := (k : Int)) (m := cm) (by omega) hcm1
                      have hsqr := rgMod_range (k : Int) cm hcm1
                      have HI2 : Hid (InvO l (plTake s false (rgMod (k : Int) cm) l[k]) outs) := by
                        have h := HI.out.take HF.out.1 hkl (by rw [HCC.out]; show (k : Int) < s.ent + cw; rw [HEE.out]; omega) (by rw [HCC.out]; show (s.ent : Int) - cl ≤ k; rw [HEE.out]; omega)
                        rw [HCC.out] at h
                        exact h
                      have HF2 := Lib.hid (HF.out.take false (rgMod (k : Int) cm) l[k])
                      obtain ⟨-, hmono, -, hc2⟩ := HF.out.1.take false (rgMod (k : Int) cm) l[k]
                      have HCC2 : Hid ((plTake s false (rgMod (k : Int) cm) l[k]).c = ⟨eng, cw, cm, cl, cb, room, beg⟩) := hc2.trans HCC.out
                      have htl : plTakeL s false (rgMod (k : Int) cm) l[k] = plTells (plTake s false (rgMod (k : Int) cm) l[k]) := if_neg (by simp)
                      have F1 : ∀ W X, F ga s W X → Below W0.heap.size W0 W → Av X M D' → Calls Try.prog 12 #[.pointer (some ⟨ga, 0, none⟩), .agg #[.bool false, .int .i64 (rgMod (k : Int) cm), .int .u64 0, .slice D' M d']] W (GivesSls (F ga (plTake s false (rgMod (k : Int) cm) l[k])) X (plTakeL s false (rgMod (k : Int) cm) l[k]) W) := fun W X h U hA => C.take ga s false (rgMod (k : Int) cm) 0 D' M d' l[k] W X h HF.out.1 (by have := HF.out.2; omega) ⟨by omega, by omega⟩ (by omega) (BM.out W U) hA
                      rw [htl] at F1
                      generalize l[k] = md at *
                      generalize rgMod (k : Int) cm = sq at *
                      generalize plTake s false sq md = s2 at *
                      have htl2 : plTells s2 = [(true, rgMod (s2.ent : Int) cm, plBits s2 s2.late, [])] := by
                        show [(true, rgMod (s2.ent : Int) s2.c.m, plBits s2 s2.late, [])] = _
                        rw [HCC2.out]
                      rw [htl2] at F1
                      have F1 := Lib.hid F1
                      have hE2n : s2.ent ≤ n := by have := HI2.out.2.1; have := HLL.out; omega
                      have HST2 := Lib.hid (fun W X h => C.state ga s2 W X h)
                      obtain ⟨E2, hE2⟩ : ∃ E2, s2.ent = E2 := ⟨_, rfl⟩
                      have HE2 := Lib.hid hE2
                      rw [hE2] at HST2 F1 hE2n hmono
                      have hsq2 := rgMod_t (p := (E2 : Int)) (m := cm) (by omega) hcm1
                      have hsqr2 := rgMod_range (E2 : Int) cm hcm1
                      obtain ⟨sq2, hs2⟩ : ∃ sq2, rgMod (E2 : Int) cm = sq2 := ⟨_, rfl⟩
                      rw [hs2] at F1 hsq2 hsqr2
                      obtain ⟨bits, hbits⟩ : ∃ bits, plBits s2 s2.late = bits := ⟨_, rfl⟩
                      rw [hbits] at F1
                      have htd3 : td ≤ E2 := Nat.le_trans HTD.out (by rw [HEE.out]; exact Nat.le_trans (by rw [HEE.out]; exact Nat.le_refl _) hmono)
                      have ht1 : (k : Int).tmod cm = sq := hsq.symm
                      have ht2 : (E2 : Int).tmod cm = sq2 := hsq2.symm
                      have hz : (cm == 0) = false := by simp; omega
                      have hz2 : cm ≠ 0 := by omega
                      clear hmono hc2 htl htl2 hE2 hs2 hbits hsq hsq2
                      go_wp2_with (fail)
                      go_region_held3 (fun w' => w'.cell? ⟨w.heap.size, 1, none⟩ = some (.int .i64 cw) ∧ w'.cell? ⟨w.heap.size, 3, none⟩ = some (.int .i64 cl)) (first | exact KC.out.1 _ hbel | exact KC.out.1 _ hbel.drew | exact KC.out.1 _ hb1 | exact KC.out.1 _ hb2)
                        (first
                          | (go_at_call 17; (with_reducible refine (HST.out _ (by first | exact P0 | exact P0.drew)).mono ?_); rintro e w1 ⟨rfl, V1⟩; have Z1 := nxt (by first | exact P0 | exact P0.drew) V1; have hb1 := nxt hbel Z1)
                          | (go_at_call 17; (with_reducible refine (HST.out _ Z1).mono ?_); rintro e w2 ⟨rfl, V2⟩; have Z2 := nxt Z1 V2; have hb2 := nxt hbel Z2))
                      all_goals
                        have HLN2 := Lib.hid (HLN.out.below (C.holds _ _) Z2)
                        clear P0 HST V1 V2 Z1 HLN
                        go_wp2_with (fail)
                        go_region_held3 (fun w' => w'.cell? ⟨w.heap.size, 2, none⟩ = some (.int .i64 cm) ∧ w'.cell? ⟨bl, ol + k, none⟩ = some (Value.slice D' M d')) (first | exact KC.out.2 _ hb2 | exact KC.out.2 _ hb2.drew | exact KC.out.2 _ hb3)
                          (first
                            | (go_at_call 12; (with_reducible refine (F1.out _ _ (by first | exact HLN2.out.q | exact (C.holds _ _).below HLN2.out.q (Below.refl _ _).drew) (by first | exact hb2 | exact hb2.drew) (HAV.out _ (fun i hi => (HLN2.out.lt i hi).1))).mono ?_); rintro e w3 ⟨Ap, np, cp, X3, rfl, pA, q3, t3⟩; have t3' : Turns X X3 w2 w3 := (by first | exact t3 | exact t3.undrew); have K3 := HLN2.out.turn (C.holds _ _) q3 t3'; have HLN3 := Lib.hid K3.1; have hb3 := hb2.trans K3.2; have HPA := Lib.hid pA))
                        all_goals
                          have hnp := HPA.out.len
                          simp only [List.length_cons, List.length_nil, Nat.zero_add] at hnp
                          subst hnp
                          clear q3 t3 t3' K3 pA HLN2 F1 hb2 Z2 hb1
                          go_wp2_with (fail)
                          refine (HST2.out _ _ HLN3.out.q).mono ?_
                          rintro e w4 ⟨rfl, T4⟩
                          have HLN4 := Lib.hid (HLN3.out.below (C.holds _ _) T4)
                          have hb4 := nxt hb3 T4
                          obtain ⟨bx, ox, rfl, hbx, hcx⟩ := (HPA.out.below T4).at_ (by omega)
                          obtain ⟨-, -, ⟨x0, x1, -⟩, -⟩ := hcx 0 (by simp)
                          simp only [Nat.zero_mul, Nat.add_zero, List.getElem_cons_zero] at x0 x1
                          have hc2 := (KC.out.2 _ hb4).1
                          have es2 : (sq2 != sq2) = false := by simp
                          have dtd : decide ((E2 : Int) < (td : Int)) = false := by simp; omega
                          have dtn : decide ((n : Int) < (E2 : Int)) = false := by simp; omega
                          clear hcx T4 HLN3 HPA hb3 hbx
                          go_wp2_with (fail)
                          go_quiet (fail)
                          have BQ := below_drewN' (Below.refl w4.heap.size w4) nq
                          have HLN5 := Lib.hid (HLN4.out.below (C.holds _ _) BQ)
                          have hb5 := nxt hb4 BQ
                          go_wp2_with (fail)
                          go_roundw
                          case rel => exact ⟨j + 1, no, E2, s2, outs, Po, co, X3, by omega, rfl, rfl, by go_num, HF2.out, HLN5, HI2.out, HCC2.out, hnoh.out, by omega, by rw [HE2.out]; exact Nat.le_refl _, hb5⟩
                          case measure => simp [intOf]; omega
          ·
            have d0 : decide ((j : Int) < (q : Int)) = false := by simp; omega
            have F1 := Lib.hid (C.kept ga s wr X HLN.out.q HF.out.1)
            have hls16 : s.ls.length ≤ 16 := by
              have h1 := HF.out.1.2.1.1
              have h2 := HF.out.1.1.2.2.2.2
              omega
            go_wp2_with (fail)
            refine F1.out.mono ?_
            rintro e w2 ⟨P2, n2, c2, rfl, f2, T2⟩
            have hl2 := f2.1
            have hapr : 0 < n2 → ∃ b o us, P2 = some ⟨b, o, none⟩ ∧ b < w2.heap.size ∧ (∀ j (h : j < us.length), w2.cell? ⟨b, o + j, none⟩ = some us[j]) ∧ Rvs w2 (· < wr.heap.size) us s.ls := fun hn => by
              obtain ⟨b, o, e, hb, hc⟩ := f2.2.2.2.2 hn
              have : ∀ j, j < s.ls.length → ∃ v, w2.cell? ⟨b, o + j, none⟩ = some v ∧ ∀ h : j < s.ls.length, ∃ A d, v = .slice A s.ls[j].length d ∧ Bys w2 A s.ls[j].length d s.ls[j] ∧ Av (· < wr.heap.size) s.ls[j].length A := fun j hj => by
                obtain ⟨A, d, k1, k2⟩ := hc j hj
                exact ⟨_, k1, fun _ => ⟨A, d, rfl, k2.1, k2.2.1.imp (fun k hk => .inl hk)⟩⟩
              obtain ⟨V, hV⟩ := Go.Deep.choose_lt this
              refine ⟨b, o, (List.range s.ls.length).map V, e, hb, fun j hj => ?_, by simp, fun j hj hj' => ?_⟩
              · simp at hj; simpa using (hV j hj).1
              · simp at hj; simpa using (hV j hj).2 hj
            have HAP := Lib.hid hapr
            have HLN2 := Lib.hid (HLN.out.below (C.holds _ _) T2)
            have HLT := Lib.hid (And.intro HLN.out.lt (And.intro HLN.out.o.lt HLN.out.i.lt))
            have hbs := hbel.trans (T2.mono hbel.size)
            have HBS := Lib.hid hbs.size
            clear f2 hapr HLN F1
            go_wp2_with ((refine app_rwy0 _ rfl (.tmp 139) (.tmp 141) rfl W0.heap.size (fun k => X k ∨ (Value.slice none 0 0).ownBlock = some k) (.slice Po no co) outs rfl ?_ (· < wr.heap.size) P2 n2 c2 s.ls rfl hl2 ?_ ?_ ?_ ?_ ?_ ?_); (exact HLN2.out.o); (exact HAP.out); (rw [hnoh.out]; omega); (exact HBS.out); (exact fun k _ hz => hz.elim (fun h => (HLT.out.1 k h).2) (fun h => (HLT.out.2.2 k h).2)); (exact fun k hk => (HLT.out.2.1 k hk).2); intro v3 w3 hown3 hgrow3 hwhere3)
            obtain ⟨k1, k2⟩ := HLN2.out.outed (C.holds _ _) (Below.refl _ _) hown3 hgrow3 hwhere3
            have hb3 := hbs.trans k2
            have hol : (outs ++ s.ls).length = E := by rw [HI.out.1, List.length_take, HEE.out]; have := HI.out.2.1; rw [HEE.out] at this; omega
            have hEn : E ≤ n := by have := HI.out.2.1; rw [HEE.out, HLL.out] at this; exact this
            obtain ⟨Po2, co2, hv3, -⟩ := k1.o.shape
            rw [hol] at hv3
            subst hv3
            obtain ⟨-, R1⟩ := k1.o.rws
            have R2 : Rws w3 A E c (l.take E) := (HRL.out _ hb3).takeO E hEn
            have heq := HI.out.1
            rw [HEE.out] at heq
            rw [← heq] at R2
            have HLN3 := Lib.hid k1
            have HR1 := Lib.hid R1
            have HR2 := Lib.hid R2
            have hEn' : decide ((E : Int) ≤ (n : Int)) = true := by simp; omega
            have hEc : E ≤ c := by omega
            have hs1 := fun W => slice_hi_y A n c E hEc W
            have hs2 := fun W => (at_slice_y (.slice A n c) none (some (.int .i64 E)) none W).trans (hs1 W)
            have HST3 := Lib.hid (C.state ga s _ X HLN3.out.q)
            rw [HEE.out] at HST3
            clear R1 R2 k1 k2 hown3 hgrow3 hwhere3 HLN2 HAP heq hol
            have hs1 := Lib.hid hs1
            have hs2 := Lib.hid hs2
            go_simp
            go_wp2_with (fail)
            refine HST3.out.mono ?_
            rintro e w4 ⟨rfl, T4⟩
            have hb4 := nxt hb3 T4
            have hs1 := hs1.out
            have hs2 := hs2.out
            go_wp2_with (fail)
            refine (sameall_true _ _ _ _ _ _ _ w4 (HR1.out.below T4) (HR2.out.below T4)).mono ?_
            rintro e w5 ⟨rfl, T5⟩
            have hb5 := nxt hb4 T5
            go_wp2_with (fail)
            refine (HL.out _).mono ?_
            rintro e w6 ⟨rfl, T6⟩
            have hb6 := nxt HT0.out (nxt hb5 T6)
            go_wp2
            go_ret
            exact ⟨rfl, hb6⟩
  · have G1 := Lib.hid (fun W => G1n.out W hrr)
    have d9 : (ce != 0) = true := by simpa using hrr
    clear hrr G1n G1y HF0 HCF
    go_enter Try.func4, Try.ntmps4
    go_wp2_with (fail)
    rw [HW0.out]
    have hx0 := HXB.out
    obtain ⟨z0, z1, z2, z3, z4, z5, z6⟩ := row7 hx0
    go_wp2_with (fail)
    refine (G1.out _).mono ?_
    rintro e w2 ⟨rfl, T2⟩
    go_wp2_with (fail)
    refine (HN.out _ _).mono ?_
    rintro e w4 ⟨rfl, rfl⟩
    go_wp2_with (fail)
    refine (HL.out _).mono ?_
    rintro e w3 ⟨rfl, T3⟩
    have T3 := nxt HT0.out (nxt T2 T3)
    go_wp2
    go_ret
    exact ⟨rfl, T3⟩
end Go.Proofs.Ytpidbgnlehikeaa
