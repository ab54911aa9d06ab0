/- The walk of layer 24's PusherWindow, over the contracts of pusher. -/
import Derived.Test.YtncpabnmdofomaaPuD
import Derived.IntWalk
namespace Go.Proofs.Ytncpabnmdofomaa
open Go.RowKit
set_option maxRecDepth 20000

/-- an act: the state behind it, what is sent -/
def puDo (s : Pus) (x : Act24) : Pus := if x.1 = 0 then puSend s x.2.2.1 else if x.1 = 1 then puTick s else if x.1 = 2 then puTake s x.2.2.2.1 x.2.2.2.2.1 x.2.2.2.2.2.1 else s
def puDoL (s : Pus) (x : Act24) : List Sld := if x.1 = 0 then puSendL s x.2.2.1 else if x.1 = 1 then puTickL s else if x.1 = 2 then puTakeL s x.2.2.2.1 x.2.2.2.2.1 x.2.2.2.2.2.1 else []
theorem PsFew.do_ {j : Nat} {s : Pus} (h : PsFew j s) (hj : j < 100000) (x : Act24) : PsFew (j + 1) (puDo s x) := by
  unfold puDo
  split
  · exact h.send hj _
  · split
    · exact h.tick
    · split
      · exact h.take hj _ _ _
      · exact h.more
/-- nothing of it goes back; what is sent first is told -/
theorem puDo_on {s : Pus} (h : PsOk s) (hb : s.ls.length < 100000) (x : Act24) : (puDo s x).c = s.c ∧ s.base ≤ (puDo s x).base ∧ s.next ≤ (puDo s x).next ∧ (s.next < (puDo s x).next → (puDoL s x).length = (puDo s x).next - s.next) := by
  unfold puDo puDoL
  by_cases h0 : x.1 = 0
  · rw [if_pos h0, if_pos h0]
    unfold puSend puSendL
    by_cases hE : puSendE s x.2.2.1.length = 0
    · rw [if_pos hE, if_pos hE]
      obtain ⟨_, _, k3, k4, k5⟩ := (h.add _ hE).on (by show (s.ls ++ [x.2.2.1]).length ≤ _; simp; omega)
      rw [k3, k4, k5, puOnL_len]
      exact ⟨rfl, Nat.le_refl _, by show s.next ≤ s.next + _; omega, fun _ => by show _ = s.next + _ - s.next; omega⟩
    · rw [if_neg hE, if_neg hE]
      exact ⟨rfl, Nat.le_refl _, Nat.le_refl _, fun e => by omega⟩
  · rw [if_neg h0, if_neg h0]
    by_cases h1 : x.1 = 1
    · rw [if_pos h1, if_pos h1]
      exact ⟨rfl, Nat.le_refl _, Nat.le_refl _, fun e => absurd e (Nat.lt_irrefl _)⟩
    · rw [if_neg h1, if_neg h1]
      by_cases h2 : x.1 = 2
      · rw [if_pos h2, if_pos h2]
        unfold puTake puTakeL
        by_cases ha : x.2.2.2.1 = false
        · rw [if_pos ha, if_pos ha]
          exact ⟨rfl, Nat.le_refl _, Nat.le_refl _, fun e => by omega⟩
        · rw [if_neg ha, if_neg ha]
          cases hq : puNear s x.2.2.2.2.1 with
          | none => exact ⟨rfl, Nat.le_refl _, Nat.le_refl _, fun e => absurd e (Nat.lt_irrefl _)⟩
          | some q =>
            obtain ⟨q1, q2, _⟩ := puNear_some hq
            obtain ⟨_, _, k3, k4, k5⟩ := (h.ack q x.2.2.2.2.2.1 q1 q2 (by omega)).on (by show s.ls.length ≤ _; omega)
            show (puOn _).c = s.c ∧ s.base ≤ (puOn _).base ∧ s.next ≤ (puOn _).next ∧ (s.next < (puOn _).next → (puOnL _).length = (puOn _).next - s.next)
            rw [k3, k4, k5, puOnL_len]
            exact ⟨rfl, q1, by show s.next ≤ s.next + _; omega, fun _ => by show _ = s.next + _ - s.next; omega⟩
      · rw [if_neg h2, if_neg h2]
        exact ⟨rfl, Nat.le_refl _, Nat.le_refl _, fun e => absurd e (Nat.lt_irrefl _)⟩
/-- the timers' numbers: the first one is Base, if something is out; all are between -/
theorem PsOk.keys {s : Pus} (h : PsOk s) : (s.base < s.next → 0 < (tmKeys s.tm).length ∧ ∀ h0 : 0 < (tmKeys s.tm).length, (tmKeys s.tm)[0] = (s.base : Int)) ∧ ∀ j (hj : j < (tmKeys s.tm).length), (s.base : Int) ≤ (tmKeys s.tm)[j] ∧ (tmKeys s.tm)[j] < (s.next : Int) := by
  obtain ⟨h1, h2, h3, h4, h5, h6, h7⟩ := h
  have hall : ∀ j (hj : j < (tmKeys s.tm).length), (s.base : Int) ≤ (tmKeys s.tm)[j] ∧ (tmKeys s.tm)[j] < (s.next : Int) := fun j hj => h6 _ (List.getElem_mem hj)
  refine ⟨fun hb => ?_, hall⟩
  obtain ⟨i, hi, e⟩ := List.mem_iff_getElem.1 (h7 hb)
  refine ⟨by omega, fun h0 => ?_⟩
  rcases Nat.eq_zero_or_pos i with hz | hz
  · subst hz
    exact e
  · have := List.pairwise_iff_getElem.1 h5.2.1 0 i h0 hi hz
    have := (hall 0 h0).1
    omega
set_option maxHeartbeats 8000000 in
theorem do24_any {F : Nat → Pus → World → (Nat → Prop) → Prop} (C : PuC F) (g j : Nat) (s : Pus) (xk xn : Int) (xm : List UInt8) (pa : Bool) (ps : Int) (pu : Nat) (pd : List UInt8) (A D : Option Addr) (L c M d : Nat) (w : World) (X : Nat → Prop) (hF : F g s w X) (hok : PsFew j s) (hj : j ≤ 1000) (hps : I64 ps) (hpu : pu < 18446744073709551616) (hB : Bys w A L c xm) (hD : Bys w D M d pd) (hA : Av X L A) :
    Calls Try.prog 22 #[.pointer (some ⟨g, 0, none⟩), .agg #[.int .i64 xk, .int .i64 xn, .slice A L c, .bool pa, .int .i64 ps, .int .u64 (pu : Int), .slice D M d]] w fun e w' => ∃ A' n' c' X' z, e = .returned (.tuple #[.slice A' n' c', .int .i64 z]) ∧ n' = (puDoL s (xk, xn, xm, pa, ps, pu, pd)).length ∧ F g (puDo s (xk, xn, xm, pa, ps, pu, pd)) w' X' ∧ Turns X X' w w' := by
  have T0 := (Below.refl _ w).alloc (Nat.le_refl _) (.cells #[.int .i64 xk, .int .i64 xn, .slice A L c, .bool pa, .int .i64 ps, .int .u64 (pu : Int), .slice D M d] 40)
  have n0 := heap_alloc_new w (.cells #[.int .i64 xk, .int .i64 xn, .slice A L c, .bool pa, .int .i64 ps, .int .u64 (pu : Int), .slice D M d] 40)
  obtain ⟨z0, z1, z2, z3, z4, z5, z6⟩ := row7 n0
  have hb := hok.2
  have HF := Lib.hid ((C.holds _ _).below hF T0)
  have HT0 := Lib.hid T0
  have HN := Lib.hid num24_any
  have HS := Lib.hid (fun W (U : Below w.heap.size w W) h => C.send g s A L c xm W X h hok.1 (hB.below U) hA (by omega))
  have HTI := Lib.hid (fun W h => C.tick g s W X h hok.1 (by omega))
  have HTA := Lib.hid (fun W (U : Below w.heap.size w W) h => C.take g s pa ps pu D M d pd W X h hok.1 (by omega) hps hpu (hD.below U))
  clear hF hok hB hD hA T0 n0 hb
  by_cases h0 : xk = 0
  · have e1 : puDo s (xk, xn, xm, pa, ps, pu, pd) = puSend s xm := by unfold puDo; rw [if_pos h0]
    have e2 : puDoL s (xk, xn, xm, pa, ps, pu, pd) = puSendL s xm := by unfold puDoL; rw [if_pos h0]
    have d0 : (xk == 0) = true := by simpa using h0
    rw [e1, e2]
    clear e1 e2 h0
    go_enter Try.func22, Try.ntmps22
    go_wp2_with (fail)
    refine (HS.out _ HT0.out HF.out).mono ?_
    rintro e w1 ⟨A1, n1, c1, X1, rfl, hp, hf, t⟩
    have HE := Lib.hid (And.intro hp.len (And.intro hf ((Turns.of_below HT0.out).trans t)))
    clear hp hf t
    go_wp2_with (fail)
    refine (HN.out _ _).mono ?_
    rintro e w2 ⟨rfl, rfl⟩
    go_wp2
    go_ret2
    exact ⟨_, _, _, X1, _, rfl, HE.out.1.symm, HE.out.2.1, HE.out.2.2⟩
  · have d0 : (xk == 0) = false := by simpa using h0
    by_cases h1 : xk = 1
    · have e1 : puDo s (xk, xn, xm, pa, ps, pu, pd) = puTick s := by unfold puDo; rw [if_neg h0, if_pos h1]
      have e2 : puDoL s (xk, xn, xm, pa, ps, pu, pd) = puTickL s := by unfold puDoL; rw [if_neg h0, if_pos h1]
      have d1 : (xk == 1) = true := by simpa using h1
      rw [e1, e2]
      clear e1 e2 h0 h1
      go_enter Try.func22, Try.ntmps22
      go_wp2_with (fail)
      refine (HTI.out _ HF.out).mono ?_
      rintro e w1 ⟨A1, n1, c1, X1, rfl, hp, hf, t⟩
      have HE := Lib.hid (And.intro hp.len (And.intro hf ((Turns.of_below HT0.out).trans t)))
      clear hp hf t
      go_wp2
      go_ret2
      exact ⟨_, _, _, X1, _, rfl, HE.out.1.symm, HE.out.2.1, HE.out.2.2⟩
    · have d1 : (xk == 1) = false := by simpa using h1
      by_cases h2 : xk = 2
      · have e1 : puDo s (xk, xn, xm, pa, ps, pu, pd) = puTake s pa ps pu := by unfold puDo; rw [if_neg h0, if_neg h1, if_pos h2]
        have e2 : puDoL s (xk, xn, xm, pa, ps, pu, pd) = puTakeL s pa ps pu := by unfold puDoL; rw [if_neg h0, if_neg h1, if_pos h2]
        have d2 : (xk == 2) = true := by simpa using h2
        rw [e1, e2]
        clear e1 e2 h0 h1 h2
        go_enter Try.func22, Try.ntmps22
        go_wp2_with (fail)
        refine (HTA.out _ HT0.out HF.out).mono ?_
        rintro e w1 ⟨A1, n1, c1, X1, rfl, hp, hf, t⟩
        have HE := Lib.hid (And.intro hp.len (And.intro hf ((Turns.of_below HT0.out).trans t)))
        clear hp hf t
        go_wp2
        go_ret2
        exact ⟨_, _, _, X1, _, rfl, HE.out.1.symm, HE.out.2.1, HE.out.2.2⟩
      · have e1 : puDo s (xk, xn, xm, pa, ps, pu, pd) = s := by unfold puDo; rw [if_neg h0, if_neg h1, if_neg h2]
        have e2 : puDoL s (xk, xn, xm, pa, ps, pu, pd) = [] := by unfold puDoL; rw [if_neg h0, if_neg h1, if_neg h2]
        have d2 : (xk == 2) = false := by simpa using h2
        rw [e1, e2]
        clear e1 e2 h0 h1 h2
        go_enter Try.func22, Try.ntmps22
        go_wp2
        go_ret2
        exact ⟨_, _, _, X, _, rfl, rfl, HF.out, Turns.of_below HT0.out⟩
set_option maxHeartbeats 32000000 in
theorem walk_PusherWindow {F : Nat → Pus → World → (Nat → Prop) → Prop} (C : PuC F) (cfg : Cfg) (A : Option Addr) (n c : Nat) (l : List Act24) (w : World) (hcf : CfI cfg) (hR : Recs rdAct24 7 w A n c l) :
    Calls Try.prog 4 #[cfgV cfg, .slice A n c] w fun e w' => e = .returned (.bool true) ∧ Below w.heap.size w w' := by
  have HL := Lib.hid (fun W => live24_any C W)
  have HU := Lib.hid (fun W (U : Below w.heap.size w W) => huge24_any A n c l W (hR.below keeps24 U))
  have HN := Lib.hid num24_any
  have hlen := hR.1
  have hnc := hR.2.1
  have hcm := hR.2.2.1
  unfold maxLen at hcm
  have HC := Lib.hid hR.2.2.2
  have HLN := Lib.hid hlen
  have HFW := Lib.hid (fun h => huge24_few (l := l) h)
  have G1n := Lib.hid (fun W h => C.new_no cfg W hcf h)
  have G1y := Lib.hid (fun W h => C.new_yes cfg W hcf h)
  have HF0 := Lib.hid (fun h => PsFew.new (c := cfg) h)
  unfold cfgV at *
  obtain ⟨ce, hce⟩ : ∃ e, puNew cfg = e := ⟨_, rfl⟩
  rw [hce] at G1n G1y HF0
  obtain ⟨eng, cw, cm, cl, cb, room, beg⟩ := cfg
  simp only at *
  have T0 := (Below.refl _ w).alloc (Nat.le_refl _) (.cells #[.int .i64 eng, .int .i64 cw, .int .i64 cm, .int .i64 cl, .int .i64 cb, .int .i64 room, .int .u64 (beg : Int)] 24)
  have HCW : Hid (∀ W, Below (w.alloc (.cells #[.int .i64 eng, .int .i64 cw, .int .i64 cm, .int .i64 cl, .int .i64 cb, .int .i64 room, .int .u64 (beg : Int)] 24)).heap.size (w.alloc (.cells #[.int .i64 eng, .int .i64 cw, .int .i64 cm, .int .i64 cl, .int .i64 cb, .int .i64 room, .int .u64 (beg : Int)] 24)) W → W.heap[w.heap.size]? = some (.cells #[.int .i64 eng, .int .i64 cw, .int .i64 cm, .int .i64 cl, .int .i64 cb, .int .i64 room, .int .u64 (beg : Int)] 24 (0, 0))) := fun W U => (U.block _ (by simp)).trans (heap_alloc_new w _)
  have HT0 := Lib.hid T0
  have hr0 := HCW.out _ (Below.refl _ _)
  obtain ⟨z0, z1, z2, z3, z4, z5, z6⟩ := row7 hr0
  clear hR hlen T0 hce hcf hr0
  generalize huge24 l = hu at *
  by_cases hrr : ce = 0
  · subst hrr
    have G1 := Lib.hid (fun W => G1y.out W rfl)
    have HF9 := Lib.hid (HF0.out rfl)
    clear HF0 G1n G1y
    cases hu with
    | true =>
      go_enter Try.func4, Try.ntmps4
      go_wp2_with (fail)
      refine (G1.out _).mono ?_
      rintro e w2 ⟨ga, X0, rfl, q2, x2, T2⟩
      have T2 := nxt HT0.out T2
      clear q2 x2 z0 z1 z2 z3 z4 z5 z6
      go_wp2_with (fail)
      refine (HU.out _ T2).mono ?_
      rintro e w3 ⟨rfl, T3⟩
      have T3 := nxt T2 T3
      go_wp2_with (fail)
      refine (HL.out _).mono ?_
      rintro e w4 ⟨rfl, T4⟩
      have T4 := nxt T3 T4
      go_wp2
      go_ret
      exact ⟨rfl, T4⟩
    | false =>
      have hn100 : n ≤ 100 := by have := HFW.out rfl; rw [HLN.out] at this; exact this
      clear HFW
      go_enter Try.func4, Try.ntmps4
      go_wp2_with (fail)
      refine (G1.out _).mono ?_
      rintro e w2 ⟨ga, X0, rfl, q2, x2, T2⟩
      have T2w := nxt HT0.out T2
      have O2 : Hid (OneAt (w.alloc (.cells #[.int .i64 eng, .int .i64 cw, .int .i64 cm, .int .i64 cl, .int .i64 cb, .int .i64 room, .int .u64 (beg : Int)] 24)).heap.size (F ga ⟨⟨eng, cw, cm, cl, cb, room, beg⟩, [], 0, 0, []⟩) X0 w2) := ⟨q2, x2, T2.size⟩
      clear q2 x2 z0 z1 z2 z3 z4 z5 z6
      go_wp2_with (fail)
      refine (HU.out _ T2w).mono ?_
      rintro e w3 ⟨rfl, T3⟩
      have O3 := Lib.hid (O2.out.below (C.holds _ _) T3)
      have B3 : Below (w.alloc (.cells #[.int .i64 eng, .int .i64 cw, .int .i64 cm, .int .i64 cl, .int .i64 cb, .int .i64 room, .int .u64 (beg : Int)] 24)).heap.size (w.alloc (.cells #[.int .i64 eng, .int .i64 cw, .int .i64 cm, .int .i64 cl, .int .i64 cb, .int .i64 room, .int .u64 (beg : Int)] 24)) w3 := nxt T2 T3
      clear T2w T2 T3
      go_wp2_with (fail)
      refine (HN.out _ _).mono ?_
      rintro e w4 ⟨rfl, rfl⟩
      go_wp2_with (fail)
      generalize hwB0 : w.alloc (.cells #[.int .i64 eng, .int .i64 cw, .int .i64 cm, .int .i64 cl, .int .i64 cb, .int .i64 room, .int .u64 (beg : Int)] 24) = wB at *
      go_loopw [7] (fun i wr => ∃ (j : Nat) (s : Pus) (X : Nat → Prop), j ≤ n ∧ i = .int .i64 (j : Int) ∧ PsFew j s ∧ Hid (s.c = ⟨eng, cw, cm, cl, cb, room, beg⟩) ∧ Hid (OneAt wB.heap.size (F ga s) X wr) ∧ Below wB.heap.size wB wr) (fun i _ => n - (intOf i).toNat)
      case atStart => exact ⟨0, _, X0, Nat.zero_le _, rfl, HF9.out, rfl, O3, B3⟩
      case round =>
        clear O3 B3 O2 HF9
        obtain ⟨j, s, X, hj, rfl, hF, HCC, HO, hbel⟩ := hrel
        have hwB := HT0.out
        have hws : w.heap.size ≤ wr.heap.size := Nat.le_trans hwB.size hbel.size
        have hwr := hwB.trans (hbel.mono hwB.size)
        by_cases hlt : j < n
        · have d0 : decide ((j : Int) < (n : Int)) = true := by simp; omega
          have hjl : j < l.length := by rw [HLN.out]; exact hlt
          obtain ⟨b, o, rfl, hb, hc⟩ := HC.out (by omega)
          obtain ⟨⟨hxk, hxn, hps, hpu⟩, A', c', D', d', q0, q1, q2, q3, q4, q5, q6, qB, qD⟩ := hc j hjl
          have c0 := (hwr.cell (p := ⟨b, o + j * 7, none⟩) hb).trans q0
          have c1 := (hwr.cell (p := ⟨b, o + j * 7 + 1, none⟩) hb).trans q1
          have c2 := (hwr.cell (p := ⟨b, o + j * 7 + 2, none⟩) hb).trans q2
          have c3 := (hwr.cell (p := ⟨b, o + j * 7 + 3, none⟩) hb).trans q3
          have c4 := (hwr.cell (p := ⟨b, o + j * 7 + 4, none⟩) hb).trans q4
          have c5 := (hwr.cell (p := ⟨b, o + j * 7 + 5, none⟩) hb).trans q5
          have c6 := (hwr.cell (p := ⟨b, o + j * 7 + 6, none⟩) hb).trans q6
          have hjn : (j : Int) < (n : Int) := by omega
          have hj0 : (0 : Int) ≤ (j : Int) := by omega
          clear hc q0 q1 q2 q3 q4 q5 q6
          generalize l[j] = x at *
          obtain ⟨xk, xn, xm, pa, ps, pu, pd⟩ := x
          simp only at hxk hxn hps hpu c0 c1 c2 c3 c4 c5 c6 qB qD
          obtain ⟨L, hL⟩ : ∃ L, xm.length = L := ⟨_, rfl⟩
          obtain ⟨M, hM⟩ : ∃ M, pd.length = M := ⟨_, rfl⟩
          rw [hL] at c2 qB
          rw [hM] at c6 qD
          clear hL hM
          have BM := Lib.hid (fun W (U : Below w.heap.size w W) => qB.below U)
          have DM := Lib.hid (fun W (U : Below w.heap.size w W) => qD.below U)
          have HAV : Hid (Av X L A') := fun hn p e hx => by
            obtain ⟨b9, o9, e', hb9, _⟩ := qB.at_ hn
            rw [e] at e'
            injection e' with e'
            subst e'
            have h1 : wB.heap.size ≤ b9 := HO.out.2.1 _ hx
            have h2 := hwB.size
            omega
          clear qB qD
          have HF := Lib.hid hF
          have hF2 := hF.do_ (by omega) (xk, xn, xm, pa, ps, pu, pd)
          have hmono := puDo_on hF.1 (by have := hF.2; omega) (xk, xn, xm, pa, ps, pu, pd)
          have HST := Lib.hid (fun W h => C.state ga s W X h hF.1 (by have := hF.2; omega))
          have HDO := Lib.hid (fun W (U : Below w.heap.size w W) h hA => do24_any C ga j s xk xn xm pa ps pu pd A' D' L c' M d' W X h hF (by omega) hps hpu (BM.out W U) (DM.out W U) hA)
          generalize puDoL s (xk, xn, xm, pa, ps, pu, pd) = out at *
          generalize puDo s (xk, xn, xm, pa, ps, pu, pd) = s2 at *
          obtain ⟨hc2, hmb, hmn, hmo⟩ := hmono
          have HC2 : Hid (s2.c = ⟨eng, cw, cm, cl, cb, room, beg⟩) := hc2.trans HCC.out
          have HST2 := Lib.hid (fun W X h => C.state ga s2 W X h hF2.1 (by have := hF2.2; omega))
          have HTI2 := Lib.hid (fun W X h => C.timers ga s2 W X h hF2.1 (by have := hF2.2; omega))
          have hK := hF2.1.keys
          have hob := hF2.1.2.1
          have how := hF2.1.2.2.1
          have hlen2 := hF2.2
          rw [HC2.out] at how
          simp only at how
          have HF2 := Lib.hid hF2
          generalize hnl1 : s.ls.length = nl1 at *
          generalize hnb1 : s.base = nb1 at *
          generalize hnn1 : s.next = nn1 at *
          generalize hnl2 : s2.ls.length = nl2 at *
          generalize hnb2 : s2.base = nb2 at *
          generalize hnn2 : s2.next = nn2 at *
          generalize hno : out.length = no at *
          have hcf2 := (HF2.out.1).1
          rw [HC2.out] at hcf2
          have hcw := hcf2.1
          have hrm := hcf2.2.2.2.2
          simp only at hcw hrm
          clear hF hF2 hnl1 hnb1 hnn1 hnl2 hnb2 hnn2 hno hc2 hcf2
          have HKY := Lib.hid hK
          clear hK
          go_wp2_with (fail)
          refine (HST.out _ HO.out.p).mono ?_
          rintro e w5 ⟨rfl, T5⟩
          have T6 := T5.alloc T5.size (.cells #[.int .i64 (nl1 : Int), .int .i64 (nb1 : Int), .int .i64 (nn1 : Int)] 54)
          have HO6 := Lib.hid (HO.out.below (C.holds _ _) T6)
          have hb6 := nxt hbel T6
          have r6 := heap_alloc_new w5 (.cells #[.int .i64 (nl1 : Int), .int .i64 (nb1 : Int), .int .i64 (nn1 : Int)] 54)
          have hx6 : ¬ X w5.heap.size := fun h => by have := (C.holds _ _).lt HO.out.p _ h; have := T5.size; omega
          have hc6 := fun (r : Nat) (v : Value) (h : wr.cell? ⟨b, o + j * 7 + r, none⟩ = some v) => (T6.cell (p := ⟨b, o + j * 7 + r, none⟩) (Nat.lt_of_lt_of_le hb hws)).trans h
          have c0 := hc6 0 _ c0
          have c1 := hc6 1 _ c1
          have c2 := hc6 2 _ c2
          have c3 := hc6 3 _ c3
          have c4 := hc6 4 _ c4
          have c5 := hc6 5 _ c5
          have c6 := hc6 6 _ c6
          simp only [Nat.add_zero] at c0
          have h6 : w5.heap.size < (w5.alloc (.cells #[.int .i64 (nl1 : Int), .int .i64 (nb1 : Int), .int .i64 (nn1 : Int)] 54)).heap.size := by simp
          clear hc6
          go_wp2_with (fail)
          generalize hw6 : w5.alloc (.cells #[.int .i64 (nl1 : Int), .int .i64 (nb1 : Int), .int .i64 (nn1 : Int)] 54) = w6 at *
          refine (HDO.out _ (hwB.trans (hb6.mono hwB.size)) HO6.out.p HAV.out).mono ?_
          rintro e w7 ⟨A7, n7, c7, X7, z7, rfl, hn7, hf7, t7⟩
          have hn7 := hn7.symm
          subst hn7
          obtain ⟨o7, b7⟩ := HO6.out.turn (P' := F ga s2) hf7 t7
          have HO7 := Lib.hid o7
          have hb7 := hb6.trans b7
          have r7 := (t7.off.block w5.heap.size h6 hx6).trans r6
          clear hf7 t7 o7 b7 c0 c1 c2 c3 c4 c5 c6 r6
          go_wp2_with (fail)
          refine (HST2.out _ _ HO7.out.p).mono ?_
          rintro e w8 ⟨rfl, T8⟩
          go_wp2_with (fail)
          refine (HTI2.out _ _ ((C.holds _ _).below HO7.out.p T8)).mono ?_
          rintro e w9 ⟨At, nt, ct, rfl, hZ, T9⟩
          have T9a := nxt T8 T9
          have T12 := T9a.alloc T9a.size (.cells #[.int .i64 (nl2 : Int), .int .i64 (nb2 : Int), .int .i64 (nn2 : Int)] 54)
          have r12 := heap_alloc_new w9 (.cells #[.int .i64 (nl2 : Int), .int .i64 (nb2 : Int), .int .i64 (nn2 : Int)] 54)
          obtain ⟨t0, t1, t2, -, -, -⟩ := row3 r12
          have HZ12 : Hid (Zs (w9.alloc (.cells #[.int .i64 (nl2 : Int), .int .i64 (nb2 : Int), .int .i64 (nn2 : Int)] 54)) At nt ct (tmKeys s2.tm)) := hZ.alloc (.cells #[.int .i64 (nl2 : Int), .int .i64 (nb2 : Int), .int .i64 (nn2 : Int)] 54)
          have hzl : (tmKeys s2.tm).length = nt := hZ.len
          have HZL := Lib.hid hzl
          have hzc : nt ≤ ct ∧ ct ≤ 9223372036854775807 := ⟨hZ.le, by have := hZ.cap; unfold maxLen at this; omega⟩
          have HO13 := Lib.hid (HO7.out.below (C.holds _ _) T12)
          have HB13 := Lib.hid (nxt hb7 T12)
          have r7b := (T12.block w5.heap.size (lt_row r7)).trans r7
          obtain ⟨u0, u1, u2, -, -, -⟩ := row3 r7b
          obtain ⟨-, z1, -, -, -, z5, -⟩ := row7 (HCW.out _ HB13.out)
          clear hZ T9 T8 r12 hzl T9a r7 r7b
          have g1 : decide ((nb2 : Int) < (nb1 : Int)) = false := by simp; omega
          have g1' : decide (nb2 < nb1) = false := by simp; omega
          have g2 : decide ((nn2 : Int) < (nn1 : Int)) = false := by simp; omega
          have g2' : decide (nn2 < nn1) = false := by simp; omega
          have g3 : IntKind.i64.wrap ((nn2 : Int) - (nb2 : Int)) = (nn2 : Int) - (nb2 : Int) := IntWalk.i64_in _ (by omega)
          have g4 : decide (cw < (nn2 : Int) - (nb2 : Int)) = false := by simp; omega
          have g5 : decide ((nn2 : Int) < (nb2 : Int)) = false := by simp; omega
          have g5' : decide (nn2 < nb2) = false := by simp; omega
          have g6 : decide ((nl2 : Int) < (nn2 : Int)) = false := by simp; omega
          have g6' : decide (nl2 < nn2) = false := by simp; omega
          have g7 : IntKind.i64.wrap ((nl2 : Int) - (nb2 : Int)) = (nl2 : Int) - (nb2 : Int) := IntWalk.i64_in _ (by omega)
          have g8 : decide (room < (nl2 : Int) - (nb2 : Int)) = false := by simp; omega
          by_cases hnx : nn1 < nn2
          · have g9 : decide ((nn1 : Int) < (nn2 : Int)) = true := by simp; omega
            have g9' : decide (nn1 < nn2) = true := by simp; omega
            have g10 : IntKind.i64.wrap ((nn2 : Int) - (nn1 : Int)) = (nn2 : Int) - (nn1 : Int) := IntWalk.i64_in _ (by omega)
            have g11 : ((no : Int) != (nn2 : Int) - (nn1 : Int)) = false := by have := hmo hnx; simp; omega
            clear hmo
            go_wp2_with (fail)
            by_cases hbn : nb2 < nn2
            · have ha0 : decide ((nb2 : Int) < (nn2 : Int)) = true := by simp; omega
              have ha0' : decide (nb2 < nn2) = true := by simp; omega
              obtain ⟨m, hm⟩ : ∃ m, nt = m + 1 := ⟨nt - 1, by have := (HKY.out.1 hbn).1; have := HZL.out; omega⟩
              subst hm
              obtain ⟨bz, oz, rfl, hbz, hcz⟩ := HZ12.out.cell (by omega)
              have cz0 := hcz 0 (by have := HZL.out; omega)
              have czm := hcz m (by have := HZL.out; omega)
              have ek0 := (HKY.out.1 hbn).2 (by have := HZL.out; omega)
              have ekm := HKY.out.2 m (by have := HZL.out; omega)
              rw [ek0] at cz0
              simp only [Nat.add_zero] at cz0
              generalize (tmKeys s2.tm)[m]'(by have := HZL.out; omega) = km at *
              have hn0 : ((((m + 1 : Nat) : Int)) == 0) = false := by simp <;> omega
              have hn0' : (((m : Int) + 1) == 0) = false := by simp <;> omega
              have hnb : ((nb2 : Int) != (nb2 : Int)) = false := by simp
              have hi0 : (0 : Int) < ((m + 1 : Nat) : Int) := by omega
              have hi1 : (0 : Int) < (m : Int) + 1 := by omega
              have hd0 : decide ((0 : Int) < (m : Int) + 1) = true := by simp <;> omega
              have hd1 : decide (0 < m + 1) = true := by simp
              have hwm : IntKind.i64.wrap (m : Int) = (m : Int) := IntWalk.i64_in _ (by omega)
              have him : (0 : Int) ≤ (m : Int) := by omega
              have him2 : (m : Int) < (m : Int) + 1 := by omega
              have hk1 : decide (km < (nb2 : Int)) = false := by simp; omega
              have hk2 : decide ((nn2 : Int) ≤ km) = false := by simp; omega
              have hnbl : decide ((nb2 : Int) < (nb2 : Int)) = false := by simp
              clear hcz ek0 ekm
              go_wp2_with (fail)
              go_quiet (fail)
              generalize nq = nq1 at *
              go_wp2_with (fail)
              go_quiet (fail)
              have HB15 := Lib.hid (below_drewN' HB13.out (nq1 + nq))
              have HO15 := Lib.hid (HO13.out.below (C.holds _ _) (below_drewN' (Below.refl _ _) (nq1 + nq)))
              go_wp2
              go_roundw
              case rel => exact ⟨j + 1, _, _, by omega, by go_num, HF2.out, HC2.out, HO15.out, HB15.out⟩
              case measure => simp [intOf]; omega
            · have ha0 : decide ((nb2 : Int) < (nn2 : Int)) = false := by simp; omega
              have ha0' : decide (nb2 < nn2) = false := by simp; omega
              have hnt : nt = 0 := by
                rcases Nat.eq_zero_or_pos nt with e | e
                · exact e
                · have := HKY.out.2 0 (by have := HZL.out; omega)
                  omega
              subst hnt
              go_wp2_with (fail)
              go_quiet (fail)
              generalize nq = nq1 at *
              go_wp2_with (fail)
              go_quiet (fail)
              have HB15 := Lib.hid (below_drewN' HB13.out (nq1 + nq))
              have HO15 := Lib.hid (HO13.out.below (C.holds _ _) (below_drewN' (Below.refl _ _) (nq1 + nq)))
              go_wp2
              go_roundw
              case rel => exact ⟨j + 1, _, _, by omega, by go_num, HF2.out, HC2.out, HO15.out, HB15.out⟩
              case measure => simp [intOf]; omega
          · have g9 : decide ((nn1 : Int) < (nn2 : Int)) = false := by simp; omega
            have g9' : decide (nn1 < nn2) = false := by simp; omega
            clear hmo
            go_wp2_with (fail)
            by_cases hbn : nb2 < nn2
            · have ha0 : decide ((nb2 : Int) < (nn2 : Int)) = true := by simp; omega
              have ha0' : decide (nb2 < nn2) = true := by simp; omega
              obtain ⟨m, hm⟩ : ∃ m, nt = m + 1 := ⟨nt - 1, by have := (HKY.out.1 hbn).1; have := HZL.out; omega⟩
              subst hm
              obtain ⟨bz, oz, rfl, hbz, hcz⟩ := HZ12.out.cell (by omega)
              have cz0 := hcz 0 (by have := HZL.out; omega)
              have czm := hcz m (by have := HZL.out; omega)
              have ek0 := (HKY.out.1 hbn).2 (by have := HZL.out; omega)
              have ekm := HKY.out.2 m (by have := HZL.out; omega)
              rw [ek0] at cz0
              simp only [Nat.add_zero] at cz0
              generalize (tmKeys s2.tm)[m]'(by have := HZL.out; omega) = km at *
              have hn0 : ((((m + 1 : Nat) : Int)) == 0) = false := by simp <;> omega
              have hn0' : (((m : Int) + 1) == 0) = false := by simp <;> omega
              have hnb : ((nb2 : Int) != (nb2 : Int)) = false := by simp
              have hi0 : (0 : Int) < ((m + 1 : Nat) : Int) := by omega
              have hi1 : (0 : Int) < (m : Int) + 1 := by omega
              have hd0 : decide ((0 : Int) < (m : Int) + 1) = true := by simp <;> omega
              have hd1 : decide (0 < m + 1) = true := by simp
              have hwm : IntKind.i64.wrap (m : Int) = (m : Int) := IntWalk.i64_in _ (by omega)
              have him : (0 : Int) ≤ (m : Int) := by omega
              have him2 : (m : Int) < (m : Int) + 1 := by omega
              have hk1 : decide (km < (nb2 : Int)) = false := by simp; omega
              have hk2 : decide ((nn2 : Int) ≤ km) = false := by simp; omega
              have hnbl : decide ((nb2 : Int) < (nb2 : Int)) = false := by simp
              clear hcz ek0 ekm
              go_wp2_with (fail)
              go_quiet (fail)
              generalize nq = nq1 at *
              go_wp2_with (fail)
              go_quiet (fail)
              have HB15 := Lib.hid (below_drewN' HB13.out (nq1 + nq))
              have HO15 := Lib.hid (HO13.out.below (C.holds _ _) (below_drewN' (Below.refl _ _) (nq1 + nq)))
              go_wp2
              go_roundw
              case rel => exact ⟨j + 1, _, _, by omega, by go_num, HF2.out, HC2.out, HO15.out, HB15.out⟩
              case measure => simp [intOf]; omega
            · have ha0 : decide ((nb2 : Int) < (nn2 : Int)) = false := by simp; omega
              have ha0' : decide (nb2 < nn2) = false := by simp; omega
              have hnt : nt = 0 := by
                rcases Nat.eq_zero_or_pos nt with e | e
                · exact e
                · have := HKY.out.2 0 (by have := HZL.out; omega)
                  omega
              subst hnt
              go_wp2_with (fail)
              go_quiet (fail)
              generalize nq = nq1 at *
              go_wp2_with (fail)
              go_quiet (fail)
              have HB15 := Lib.hid (below_drewN' HB13.out (nq1 + nq))
              have HO15 := Lib.hid (HO13.out.below (C.holds _ _) (below_drewN' (Below.refl _ _) (nq1 + nq)))
              go_wp2
              go_roundw
              case rel => exact ⟨j + 1, _, _, by omega, by go_num, HF2.out, HC2.out, HO15.out, HB15.out⟩
              case measure => simp [intOf]; omega
        · have d0 : decide ((j : Int) < (n : Int)) = false := by simp; omega
          go_wp2_with (fail)
          refine (HL.out _).mono ?_
          rintro e w4 ⟨rfl, T4⟩
          have T4 := nxt hwr T4
          go_wp2
          go_ret
          exact ⟨rfl, T4⟩
  · have G1 := Lib.hid (fun W => G1n.out W hrr)
    have dce : (ce != 0) = true := by simpa using hrr
    clear hrr G1n G1y HF0
    cases hu with
    | true =>
      go_enter Try.func4, Try.ntmps4
      go_wp2_with (fail)
      refine (G1.out _).mono ?_
      rintro e w2 ⟨rfl, T2⟩
      have T2 := nxt HT0.out T2
      clear z0 z1 z2 z3 z4 z5 z6
      go_wp2_with (fail)
      refine (HU.out _ T2).mono ?_
      rintro e w3 ⟨rfl, T3⟩
      have T3 := nxt T2 T3
      go_wp2_with (fail)
      refine (HL.out _).mono ?_
      rintro e w4 ⟨rfl, T4⟩
      have T4 := nxt T3 T4
      go_wp2
      go_ret
      exact ⟨rfl, T4⟩
    | false =>
      go_enter Try.func4, Try.ntmps4
      go_wp2_with (fail)
      refine (G1.out _).mono ?_
      rintro e w2 ⟨rfl, T2⟩
      have T2 := nxt HT0.out T2
      clear z0 z1 z2 z3 z4 z5 z6
      go_wp2_with (fail)
      refine (HU.out _ T2).mono ?_
      rintro e w3 ⟨rfl, T3⟩
      have T3 := nxt T2 T3
      go_wp2_with (fail)
      refine (HN.out _ _).mono ?_
      rintro e w4 ⟨rfl, rfl⟩
      go_wp2_with (fail)
      refine (HL.out _).mono ?_
      rintro e w4 ⟨rfl, T4⟩
      have T4 := nxt T3 T4
      go_wp2
      go_ret
      exact ⟨rfl, T4⟩
end Go.Proofs.Ytncpabnmdofomaa
