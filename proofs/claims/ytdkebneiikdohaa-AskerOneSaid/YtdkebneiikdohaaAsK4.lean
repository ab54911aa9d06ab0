/- Package asker, as landed: send, outcome; Send, Take, Tick, Poll, State. -/
import Derived.Test.YtdkebneiikdohaaAsK3
namespace Go.Proofs.Ytdkebneiikdohaa
open Go.RowKit
set_option maxRecDepth 20000

def zSend (z : Ens) (m : List UInt8) : Ens := if quPushE z.room z.ls m.length = 0 then (if z.ls = [] then zBegin { z with ls := [m] } else { z with ls := z.ls ++ [m] }) else z
def zSendL (z : Ens) (n : Nat) : List Tok := if quPushE z.room z.ls n = 0 ∧ z.ls = [] then [(0, nx z.l z.k, 0, 0, [])] else []
def zSendN (z : Ens) (n : Nat) : Nat := if quPushE z.room z.ls n = 0 then z.done + z.ls.length else 0
set_option maxHeartbeats 4000000 in
theorem assend_any (p : Enp) (z : Ens) (A : Option Addr) (n c : Nat) (m : List UInt8) (w : World) (Y : Nat → Prop) (h : EnP p z w Y) (hd : z.done ≤ 1000000) (hk : z.k < 1000000) (hto : TmOk z.most z.tm) (htl : z.tm.length < 1000) (hB : Bys w A n c m) :
    Calls Try.prog 20 #[.pointer (some ⟨p.ge, 0, none⟩), .slice A n c] w (GivesSdT (EnP p (zSend z m)) Y (zSendN z n) (quPushE z.room z.ls n) (zSendL z n) w) := by
  have hml := hB.len
  have hlc := h.queue.1.2.2.1
  have hlr := h.queue.1.2.1
  obtain ⟨N, hN⟩ : ∃ N, z.done + z.ls.length = N := ⟨_, rfl⟩
  obtain ⟨⟨c0, -, -, -, -, -, c6, -⟩, -, hge⟩ := h.cells
  have HAC := asaccepted_any p.ge p.gq z.done z.ls.length w c0 c6 h.queue.2 hd (by omega)
  rw [hN] at HAC
  have HAC := Lib.hid HAC
  have HPU := Lib.hid (fun W (U : Below w.heap.size w W) => (h.below U).turn 0 rfl)
  have HPC := Lib.hid (fun W (U : Below w.heap.size w W) (X : Nat → Prop) (hq : QuP p.gq z.room z.ls W X) => quC.push p.gq z.room z.ls A n c m W X hq (hB.below U))
  have HH := Lib.hid h
  have HM := Lib.hid hml
  clear hB hml h
  go_enter Try.func20, Try.ntmps20
  go_wp2_with (fail)
  refine HAC.out.mono ?_
  rintro e w1 ⟨rfl, T1⟩
  have b0 := (T1.cell (p := ⟨p.ge, 0, none⟩) hge).trans c0
  obtain ⟨Xq, hq, -, hT⟩ := HPU.out _ T1
  have HP := Lib.hid (HPC.out _ T1 Xq hq)
  have HT := Lib.hid hT
  have HT1 := Lib.hid T1
  clear hq hT T1 c0 c6 HAC HPU HPC
  go_wp2_with (fail)
  refine HP.out.mono ?_
  rintro e w2 ⟨rfl, X2, s2, t2⟩
  obtain ⟨Y2, E2, U2⟩ := HT.out _ { z with ls := quPush z.room z.ls m } w2 X2 rfl rfl s2 t2
  have HE2 := Lib.hid (And.intro E2 ((Turns.of_below (X := Y) HT1.out).trans U2))
  clear s2 t2 E2 U2 HP HT
  obtain ⟨E, hE⟩ : ∃ E, quPushE z.room z.ls n = E := ⟨_, rfl⟩
  have HQ : Hid (quPushE z.room z.ls m.length = E) := HM.out ▸ hE
  have HQn := Lib.hid hE
  simp only [hE]
  clear hE
  by_cases h0 : E = 0
  · subst h0
    obtain ⟨⟨-, -, -, -, -, -, d6, -⟩, -, -⟩ := HE2.out.1.cells
    have x0 : (((0 : Nat) : Int) != 0) = false := by decide
    have HSN : Hid (zSendN z n = N) := by show _ = _; unfold zSendN; rw [if_pos HQn.out, hN]
    by_cases h1 : z.ls = []
    · have x1 : decide (z.done < N) = false := by rw [← hN, h1]; simp
      have x2 : decide ((z.done : Int) < (N : Int)) = false := by rw [← hN, h1]; simp
      have x3 : ¬ z.done < N := by simpa using x1
      have HS : Hid (zSend z m = zBegin { z with ls := quPush z.room z.ls m } ∧ zSendL z n = [(0, nx z.l z.k, 0, 0, [])]) := by
        refine ⟨?_, ?_⟩
        · unfold zSend quPush
          rw [if_pos HQ.out, if_pos HQ.out, if_pos h1, h1]
          rfl
        · unfold zSendL
          rw [if_pos ⟨HQn.out, h1⟩]
      have HBG := Lib.hid (asbegin_any p _ w2 Y2 HE2.out.1 hk hto htl)
      clear h1 hN hlc
      go_wp2_with (fail)
      refine HBG.out.mono ?_
      rintro e w4 hG
      have HG := Lib.hid (gives_then HE2.out.2 hG HS.out.1 HS.out.2)
      obtain ⟨B, a, d, Y4, rfl, -⟩ := hG
      go_wp2
      go_ret3
      rw [HSN.out, HQn.out]
      obtain ⟨B', a', d', Y5, e5, h5⟩ := HG.out
      injection e5 with e5
      injection e5 with e5 e6 e7
      subst e5 e6 e7
      exact ⟨B, a, d, Y5, rfl, h5⟩
    · have hl0 : z.ls.length ≠ 0 := fun e => h1 (List.eq_nil_of_length_eq_zero e)
      have x1 : decide (z.done < N) = true := by rw [← hN]; simp; omega
      have x2 : decide ((z.done : Int) < (N : Int)) = true := by rw [← hN]; simp; omega
      have x3 : z.done < N := by omega
      have HS : Hid (zSend z m = { z with ls := quPush z.room z.ls m } ∧ zSendL z n = []) := by
        refine ⟨?_, ?_⟩
        · unfold zSend quPush
          rw [if_pos HQ.out, if_pos HQ.out, if_neg h1]
        · unfold zSendL
          rw [if_neg (fun e => h1 e.2)]
      clear h1 hl0 hN hlc
      go_wp2
      go_ret3
      rw [HSN.out, HQn.out]
      exact ⟨none, 0, 0, Y2, rfl, by rw [HS.out.2]; exact Tks.nil _ _, by rw [HS.out.1]; exact HE2.out.1, HE2.out.2⟩
  · have x0 : ((E : Int) != 0) = true := by simp; omega
    have HSN : Hid (zSendN z n = 0) := by show _ = _; unfold zSendN; rw [if_neg (by rw [HQn.out]; exact h0)]
    have HS : Hid (zSend z m = { z with ls := quPush z.room z.ls m } ∧ zSendL z n = []) := by
      refine ⟨?_, ?_⟩
      · unfold zSend quPush
        rw [if_neg (by rw [HQ.out]; exact h0), if_neg (by rw [HQ.out]; exact h0)]
      · unfold zSendL
        rw [if_neg (fun e => h0 (by rw [← HQn.out]; exact e.1))]
    clear h0 hN hlc
    go_wp2
    go_ret3
    rw [HSN.out, HQn.out]
    exact ⟨none, 0, 0, Y2, rfl, by rw [HS.out.2]; exact Tks.nil _ _, by rw [HS.out.1]; exact HE2.out.1, HE2.out.2⟩
theorem asSend_any (p : Enp) (z : Ens) (A : Option Addr) (n c : Nat) (m : List UInt8) (w : World) (Y : Nat → Prop) (h : EnP p z w Y) (hd : z.done ≤ 1000000) (hk : z.k < 1000000) (hto : TmOk z.most z.tm) (htl : z.tm.length < 1000) (hB : Bys w A n c m) :
    Calls Try.prog 10 #[.pointer (some ⟨p.g, 0, none⟩), .slice A n c] w (GivesSdT (EnP p (zSend z m)) Y (zSendN z n) (quPushE z.room z.ls n) (zSendL z n) w) := by
  have HS := Lib.hid (assend_any p z A n c m w Y h hd hk hto htl hB)
  have c0 := h.head
  have HM := Lib.hid (asmade_any p.g ⟨p.ge, 0, none⟩ w c0)
  clear h hB
  go_enter Try.func10, Try.ntmps10
  go_wp2_with (fail)
  refine HM.out.mono ?_
  rintro e w1 ⟨rfl, rfl⟩
  go_wp2_with (fail)
  refine HS.out.mono ?_
  rintro e w4 ⟨B, a, d, Y4, rfl, k4⟩
  have HK := Lib.hid k4
  clear k4
  go_wp2
  go_ret3
  exact ⟨B, a, d, Y4, rfl, HK.out⟩
set_option maxHeartbeats 4000000 in
theorem asTake_any (p : Enp) (z : Ens) (kd : Int) (T C R : Nat) (P : Option Addr) (n c : Nat) (w : World) (Y : Nat → Prop) (h : EnP p z w Y) (hd : z.done < 1000000) (hk : z.k < 1000000) (hto : TmOk z.most z.tm) (htl : z.tm.length < 1000) (hn : z.n ≤ 1000000) :
    Calls Try.prog 12 #[.pointer (some ⟨p.g, 0, none⟩), .agg #[.int .i64 kd, .int .u64 (T : Int), .int .u64 (C : Int), .int .u64 (R : Int), .slice P n c]] w (GivesTks (EnP p (zTake z kd T R)) Y (zTakeL z kd T C R) w) := by
  have hb := (Below.refl _ w).alloc (Nat.le_refl _) (.cells #[.int .i64 kd, .int .u64 (T : Int), .int .u64 (C : Int), .int .u64 (R : Int), .slice P n c] 41)
  have E0 := h.below hb
  have U0 := Turns.of_below (X := Y) hb
  have hr := heap_alloc_new w (.cells #[.int .i64 kd, .int .u64 (T : Int), .int .u64 (C : Int), .int .u64 (R : Int), .slice P n c] 41)
  have q : ∀ j : Nat, (w.alloc (.cells #[.int .i64 kd, .int .u64 (T : Int), .int .u64 (C : Int), .int .u64 (R : Int), .slice P n c] 41)).cell? ⟨w.heap.size, j, none⟩ = #[Value.int .i64 kd, .int .u64 (T : Int), .int .u64 (C : Int), .int .u64 (R : Int), .slice P n c][j]? := fun j => cell_of_row _ _ _ _ _ _ hr
  have q0 := q 0
  have q1 := q 1
  have q2 := q 2
  have q3 := q 3
  have q4 := q 4
  simp only [List.getElem?_toArray, List.getElem?_cons_zero, List.getElem?_cons_succ] at q0 q1 q2 q3 q4
  have HM := Lib.hid (asmade_any p.g ⟨p.ge, 0, none⟩ _ E0.head)
  have c0 := E0.head
  have HE := Lib.hid (And.intro E0 U0)
  clear h hb hr E0 U0 q
  go_enter Try.func12, Try.ntmps12
  go_wp2_with (fail)
  refine HM.out.mono ?_
  rintro e w1 ⟨rfl, rfl⟩
  generalize w.alloc (.cells #[.int .i64 kd, .int .u64 (T : Int), .int .u64 (C : Int), .int .u64 (R : Int), .slice P n c] 41) = w0 at *
  go_wp2_with (fail)
  go_region_with ((go_at_call 23; (with_reducible refine (astake_any p z kd T C R P n c _ Y (by first | exact HE.out.1 | exact HE.out.1.drew) hd hk hto htl hn).mono ?_); rintro e w2 ⟨A2, n2, c2, X2, rfl, hp, hF, ht⟩; have HG := Lib.hid (And.intro hp (And.intro hF ht))))
  all_goals
    go_wp2
    go_ret
    exact gives_then (by first | exact HE.out.2 | exact tu_drew HE.out.2) ⟨_, _, _, _, rfl, HG.out⟩ rfl rfl
def zTick (z : Ens) : Ens := { z with tm := tmTick z.most z.tm }
def zTickL (z : Ens) : List Tok := if tmDue z.tm = [] then [] else [(0, z.t, 0, 0, [])]
set_option maxHeartbeats 4000000 in
theorem asTick_any (p : Enp) (z : Ens) (w : World) (Y : Nat → Prop) (h : EnP p z w Y) (hto : TmOk z.most z.tm) (htl : z.tm.length ≤ 1000) :
    Calls Try.prog 11 #[.pointer (some ⟨p.g, 0, none⟩)] w (GivesTks (EnP p (zTick z)) Y (zTickL z) w) := by
  have c0 := h.head
  have HM := Lib.hid (asmade_any p.g ⟨p.ge, 0, none⟩ w c0)
  obtain ⟨Xt, ht, -, hT⟩ := h.turn 1 rfl
  have HT := Lib.hid (tmC.tick p.gt z.most z.tm w Xt ht hto htl)
  have HR := Lib.hid hT
  obtain ⟨⟨-, -, -, -, c4, -, -, -⟩, -, -⟩ := h.cells
  clear h ht hT
  go_enter Try.func11, Try.ntmps11
  go_wp2_with (fail)
  refine HM.out.mono ?_
  rintro e w1 ⟨rfl, rfl⟩
  go_wp2_with (fail)
  refine HT.out.mono ?_
  rintro e w2 ⟨A, n, c, X2, rfl, hz, -, s2, t2⟩
  obtain ⟨Y2, E2, U2⟩ := HR.out _ (zTick z) w2 X2 rfl rfl s2 t2
  have hln := hz.len
  have c0' := E2.head
  obtain ⟨⟨-, d1, -, -, -, -, -, -⟩, -, -⟩ := E2.cells
  have HE := Lib.hid (And.intro E2 U2)
  have HLN := Lib.hid hln
  clear s2 t2 E2 U2 hz hln HR HT HM
  by_cases h0 : n = 0
  · subst h0
    have HS : Hid (zTickL z = []) := by show _ = _; unfold zTickL; rw [if_pos (List.eq_nil_of_length_eq_zero HLN.out)]
    go_wp2
    go_ret
    exact ⟨none, 0, 0, Y2, rfl, by rw [HS.out]; exact Tks.nil _ _, HE.out⟩
  · have x0 : ((n : Int) == 0) = false := by simp; omega
    have HS : Hid (zTickL z = [(0, z.t, 0, 0, [])]) := by show _ = _; unfold zTickL; rw [if_neg (fun e => by have := HLN.out; rw [e] at this; simp at this; omega)]
    have HA := Lib.hid (asask_any p.ge _ w2 d1)
    clear h0
    go_wp2_with (fail)
    refine HA.out.mono ?_
    rintro e w4 ⟨A', a, d, rfl, k4, T4⟩
    have HK := Lib.hid (And.intro k4 T4)
    clear k4 T4
    go_wp2
    go_ret
    obtain ⟨k4, T4⟩ := HK.out
    have hs := HE.out.2.off.size
    have hl := (EnP.holds p (zTick z)).lt HE.out.1
    exact ⟨A', a, d, Y2, rfl, by rw [HS.out]; exact k4.imp (fun k _ hk => by rcases hk with hk | hk; exact hl k hk; omega), HE.out.1.below T4, HE.out.2.next T4⟩
/-- what became of the i'th message -/
def zPoll (z : Ens) (i : Int) : Int := if i < 0 ∨ ((z.done + z.ls.length : Nat) : Int) ≤ i then 0 else if (z.done : Int) ≤ i then 0 else if z.lost i then 2 else 1
def zPollE (z : Ens) (i : Int) : Int := if i < 0 ∨ ((z.done + z.ls.length : Nat) : Int) ≤ i then 4 else 0
set_option maxHeartbeats 4000000 in
theorem asoutcome_any (p : Enp) (z : Ens) (i : Int) (w : World) (Y : Nat → Prop) (h : EnP p z w Y) (hi : I64k i) :
    Calls Try.prog 24 #[.pointer (some ⟨p.ge, 0, none⟩), .int .i64 i] w fun e w' => e = .returned (.int .i64 (if (z.done : Int) ≤ i then 0 else if z.lost i then 2 else 1)) ∧ w = w' := by
  obtain ⟨Xl, ⟨hS, -⟩, -, -⟩ := h.turn 2 rfl
  have hl := hS.look i hi
  obtain ⟨⟨-, -, -, -, -, -, c6, c7⟩, -, -⟩ := h.cells
  clear h hS
  by_cases h1 : (z.done : Int) ≤ i
  · have d1 : decide ((z.done : Int) ≤ i) = true := by simpa using h1
    rw [if_pos h1]
    clear h1
    go_enter Try.func24, Try.ntmps24
    go_wp2
    go_ret
    exact ⟨rfl, rfl⟩
  · have d1 : decide ((z.done : Int) ≤ i) = false := by simpa using h1
    rw [if_neg h1]
    cases hb : z.lost i with
    | true =>
      rw [hb] at hl
      clear h1
      go_enter Try.func24, Try.ntmps24
      go_wp2
      go_ret
      exact ⟨rfl, rfl⟩
    | false =>
      rw [hb] at hl
      clear h1
      go_enter Try.func24, Try.ntmps24
      go_wp2
      go_ret
      exact ⟨rfl, rfl⟩
set_option maxHeartbeats 4000000 in
theorem asPoll_any (p : Enp) (z : Ens) (i : Int) (w : World) (Y : Nat → Prop) (h : EnP p z w Y) (hd : z.done ≤ 1000000) (hi : I64k i) :
    Calls Try.prog 13 #[.pointer (some ⟨p.g, 0, none⟩), .int .i64 i] w fun e w' => e = .returned (.tuple #[.int .i64 (zPoll z i), .int .i64 (zPollE z i)]) ∧ Below w.heap.size w w' := by
  have c0 := h.head
  have HM := Lib.hid (asmade_any p.g ⟨p.ge, 0, none⟩ w c0)
  have hlc := h.queue.1.2.2.1
  have hlr := h.queue.1.2.1
  obtain ⟨N, hN⟩ : ∃ N, z.done + z.ls.length = N := ⟨_, rfl⟩
  obtain ⟨⟨b0, -, -, -, -, -, b6, -⟩, -, hge⟩ := h.cells
  have HAC := asaccepted_any p.ge p.gq z.done z.ls.length w b0 b6 h.queue.2 hd (by omega)
  rw [hN] at HAC
  have HAC := Lib.hid HAC
  have hg : p.g < w.heap.size := by
    obtain ⟨X, hr, -, -⟩ := h.turn 3 rfl
    exact obrow_lt hr.1
  have HO := Lib.hid (fun W (U : Below w.heap.size w W) => asoutcome_any p z i W Y (h.below U) hi)
  clear h b0 b6
  by_cases h1 : i < 0
  · have d1 : decide (i < 0) = true := by simpa using h1
    have H1 : Hid (zPoll z i = 0 ∧ zPollE z i = 4) := ⟨by unfold zPoll; rw [if_pos (.inl h1)], by unfold zPollE; rw [if_pos (.inl h1)]⟩
    clear h1 hN
    go_enter Try.func13, Try.ntmps13
    go_wp2_with (fail)
    refine HM.out.mono ?_
    rintro e w1 ⟨rfl, rfl⟩
    go_wp2
    go_ret2
    exact ⟨by rw [H1.out.1, H1.out.2]; rfl, Below.refl _ _⟩
  · have d1 : decide (i < 0) = false := by simpa using h1
    by_cases h2 : (N : Int) ≤ i
    · have d2 : decide ((N : Int) ≤ i) = true := by simpa using h2
      have H1 : Hid (zPoll z i = 0 ∧ zPollE z i = 4) := ⟨by unfold zPoll; rw [hN, if_pos (.inr h2)], by unfold zPollE; rw [hN, if_pos (.inr h2)]⟩
      clear h1 h2 hN
      go_enter Try.func13, Try.ntmps13
      go_wp2_with (fail)
      refine HM.out.mono ?_
      rintro e w1 ⟨rfl, rfl⟩
      go_wp2_with (fail)
      refine HAC.out.mono ?_
      rintro e w2 ⟨rfl, T2⟩
      go_wp2
      go_ret2
      exact ⟨by rw [H1.out.1, H1.out.2]; rfl, T2⟩
    · have d2 : decide ((N : Int) ≤ i) = false := by simpa using h2
      have H1 : Hid (zPoll z i = (if (z.done : Int) ≤ i then 0 else if z.lost i then 2 else 1) ∧ zPollE z i = 0) := ⟨by unfold zPoll; rw [hN, if_neg (by omega)], by unfold zPollE; rw [hN, if_neg (by omega)]⟩
      obtain ⟨r, hr⟩ : ∃ r : Int, (if (z.done : Int) ≤ i then (0 : Int) else if z.lost i then 2 else 1) = r := ⟨_, rfl⟩
      rw [hr] at H1 HO
      clear h1 h2 hN hr
      go_enter Try.func13, Try.ntmps13
      go_wp2_with (fail)
      refine HM.out.mono ?_
      rintro e w1 ⟨rfl, rfl⟩
      go_wp2_with (fail)
      refine HAC.out.mono ?_
      rintro e w2 ⟨rfl, T2⟩
      have c0' := (T2.cell (p := ⟨p.g, 0, none⟩) hg).trans c0
      have HO2 := Lib.hid (HO.out _ T2)
      go_wp2_with (fail)
      refine HO2.out.mono ?_
      rintro e w3 ⟨rfl, rfl⟩
      go_wp2
      go_ret2
      exact ⟨by rw [H1.out.1, H1.out.2]; rfl, T2⟩
set_option maxHeartbeats 8000000 in
theorem asState_any (p : Enp) (z : Ens) (w : World) (Y : Nat → Prop) (h : EnP p z w Y) (hd : z.done ≤ 1000000) :
    Calls Try.prog 9 #[.pointer (some ⟨p.g, 0, none⟩)] w fun e w' => e = .returned (.agg #[.int .i64 ((z.done + z.ls.length : Nat) : Int), .int .i64 (z.done : Int), .int .u64 (z.t : Int), .int .u64 (z.r : Int), .bool z.bound]) ∧ Below w.heap.size w w' := by
  have hlc := h.queue.1.2.2.1
  have hlr := h.queue.1.2.1
  have HC : Hid (∀ W, Below w.heap.size w W → W.cell? ⟨p.g, 0, none⟩ = some (.pointer (some ⟨p.ge, 0, none⟩)) ∧ W.cell? ⟨p.ge, 1, none⟩ = some (.int .u64 (z.t : Int)) ∧ W.cell? ⟨p.ge, 2, none⟩ = some (.int .u64 (z.r : Int)) ∧ W.cell? ⟨p.ge, 3, none⟩ = some (.bool z.bound) ∧ W.cell? ⟨p.ge, 6, none⟩ = some (.int .i64 (z.done : Int))) := fun W U => by
    have h' := h.below U
    obtain ⟨⟨-, a1, a2, a3, -, -, a6, -⟩, -, -⟩ := h'.cells
    exact ⟨h'.head, a1, a2, a3, a6⟩
  have HAC := Lib.hid (fun W (U : Below w.heap.size w W) => by
    have h' := h.below U
    obtain ⟨⟨b0, -, -, -, -, -, b6, -⟩, -, -⟩ := h'.cells
    exact asaccepted_any p.ge p.gq z.done z.ls.length W b0 b6 h'.queue.2 hd (by omega))
  have T0 := (Below.refl _ w).alloc (Nat.le_refl _) (.cells #[.int .i64 0, .int .i64 0, .int .u64 0, .int .u64 0, .bool false] 37)
  have n0 := heap_alloc_new w (.cells #[.int .i64 0, .int .i64 0, .int .u64 0, .int .u64 0, .bool false] 37)
  have HM := Lib.hid (asmade_any p.g ⟨p.ge, 0, none⟩ _ (HC.out _ T0).1)
  obtain ⟨N, hN⟩ : ∃ N, z.done + z.ls.length = N := ⟨_, rfl⟩
  rw [hN] at HAC
  rw [hN]
  have c0 := (HC.out _ T0).1
  have HT0 := Lib.hid T0
  have HN0 := Lib.hid n0
  clear h T0 n0 hN
  generalize z.t = zt at *
  generalize z.r = zr at *
  generalize z.bound = zb at *
  generalize z.done = zd at *
  go_enter Try.func9, Try.ntmps9
  go_wp2_with (fail)
  refine HM.out.mono ?_
  rintro e w1 ⟨rfl, rfl⟩
  generalize w.alloc (.cells #[.int .i64 0, .int .i64 0, .int .u64 0, .int .u64 0, .bool false] 37) = W1 at *
  go_wp2_with (fail)
  have P0 := Lib.hid (Below.refl W1.heap.size W1)
  have hW1 := obrow_lt HN0.out
  clear c0
  go_region_held3 (fun w' => w'.cell? ⟨p.ge, 1, none⟩ = some (.int .u64 (zt : Int)) ∧ w'.cell? ⟨p.ge, 2, none⟩ = some (.int .u64 (zr : Int)) ∧ w'.cell? ⟨p.ge, 3, none⟩ = some (.bool zb) ∧ w'.cell? ⟨p.ge, 6, none⟩ = some (.int .i64 (zd : Int))) (first | (with_reducible exact (HC.out _ HT0.out).2) | (with_reducible exact (HC.out _ HT1.out).2) | (with_reducible exact (HC.out _ HT2.out).2) | exact (HC.out _ HT0.out.drew).2 | (have q := (HC.out _ HT0.out).2; exact q))
    (first
      | (go_at_call 19; (with_reducible refine (HAC.out _ (by first | exact HT0.out | exact HT0.out.drew)).mono ?_); rintro e w2 ⟨rfl, U2⟩; have P1 : Hid (Below W1.heap.size W1 w2) := (by first | exact U2 | exact undrew U2); have HT1 := Lib.hid (HT0.out.trans (P1.out.mono HT0.out.size)); have HN1 := Lib.hid ((P1.out.block _ hW1).trans HN0.out); obtain ⟨⟨k0, k1, k2, k3, k4⟩, f0, f1, f2, f3, f4⟩ := row5 HN1.out; have HT2 := Lib.hid (below5 HT1.out (Nat.le_refl _) (.int .i64 (N : Int)) (.int .i64 (zd : Int)) (.int .u64 (zt : Int)) (.int .u64 (zr : Int)) (.bool zb))))
  all_goals
    go_wp2_with (fail)
    refine bodyPost_ret (v := .agg #[.int .i64 (N : Int), .int .i64 (zd : Int), .int .u64 (zt : Int), .int .u64 (zr : Int), .bool zb]) (results_cell_row rfl _ _ w.heap.size 37 #[.int .i64 (N : Int), .int .i64 (zd : Int), .int .u64 (zt : Int), .int .u64 (zr : Int), .bool zb] (0, 0) _ rfl (stored5 HN1.out _ _ _ _ _) Try.underlying37 rfl (by kernel_rfl)) rfl ?_
    exact ⟨rfl, HT2.out⟩
end Go.Proofs.Ytdkebneiikdohaa
