/- Package giver, as landed: New; what all of it answers, in plain words. -/
import Derived.Test.YtoajbocpebfjoaaGiK3
namespace Go.Proofs.Ytoajbocpebfjoaa
open Go.RowKit
set_option maxRecDepth 20000

/-- how a giver's state lies in its engine -/
def zGi (s : Gvs) (t c last : Nat) : Gis := ⟨s.room, s.ls, s.l, s.k, s.r, s.opn, t, c, last, s.ent⟩
def GiOk (s : Gvs) (t c last : Nat) : Prop := (s.opn = true → t = s.t ∧ c = s.c) ∧ (s.has = true → last = s.last) ∧ s.has = decide (0 < s.ent) ∧ s.ent = s.ret + s.ls.length ∧ s.ent ≤ 1000000
def GiP (g gs : Nat) (s : Gvs) (w : World) (X : Nat → Prop) : Prop := ∃ p t c last, p.g = g ∧ p.gs = gs ∧ GeP p (zGi s t c last) w X ∧ GiOk s t c last
theorem GiP.holds (g gs : Nat) (s : Gvs) : Holds (GiP g gs s) where
  lt := fun ⟨_, _, _, _, _, _, h, _⟩ => (GeP.holds _ _).lt h
  off := fun ⟨p, t, c, last, h1, h2, h, h3⟩ o hd => ⟨p, t, c, last, h1, h2, (GeP.holds _ _).off h o hd, h3⟩
theorem GivesTks.imp' {F F' : World → (Nat → Prop) → Prop} {X : Nat → Prop} {l : List Tok} {w w' : World} {e : Ending} (h : GivesTks F X l w e w') (hF : ∀ w X, F w X → F' w X) : GivesTks F' X l w e w' := by
  obtain ⟨A, n, c, X', h1, h2, h3, h4⟩ := h
  exact ⟨A, n, c, X', h1, h2, hF _ _ h3, h4⟩
theorem zGi_old {s : Gvs} {t c last : Nat} (h : GiOk s t c last) (T : Nat) : giOld (zGi s t c last) T = true ↔ (s.has = true ∧ T = s.last) := by
  unfold giOld
  show (decide (0 < s.ent) && decide (T = last)) = true ↔ _
  rw [← h.2.2.1]
  cases hh : s.has with
  | false => simp
  | true =>
    rw [h.2.1 hh]
    simp
theorem zGi_open {s : Gvs} {t c last : Nat} (h : GiOk s t c last) (T : Nat) : ∃ t' c', giOpen (zGi s t c last) T = zGi (gvOpen s T) t' c' last ∧ GiOk (gvOpen s T) t' c' last ∧ (giOpen (zGi s t c last) T).c = (gvOpen s T).c := by
  unfold giOpen gvOpen
  show ∃ t' c', (if s.opn = true ∧ t = T then _ else _) = _ ∧ _
  by_cases ho : s.opn = true ∧ s.t = T
  · have e := (h.1 ho.1)
    have ho' : s.opn = true ∧ t = T := ⟨ho.1, by rw [e.1]; exact ho.2⟩
    rw [if_pos ho, if_pos ho', if_pos (show (zGi s t c last).opn = true ∧ (zGi s t c last).t = T from ho')]
    exact ⟨t, c, rfl, h, e.2⟩
  · have ho' : ¬ (s.opn = true ∧ t = T) := fun e => ho ⟨e.1, by rw [← (h.1 e.1).1]; exact e.2⟩
    rw [if_neg ho, if_neg ho', if_neg (show ¬ ((zGi s t c last).opn = true ∧ (zGi s t c last).t = T) from ho')]
    exact ⟨T, nx s.l s.k, rfl, ⟨fun _ => ⟨rfl, rfl⟩, h.2.1, h.2.2⟩, rfl⟩
theorem zGi_ack {s : Gvs} {t c last : Nat} (h : GiOk s t c last) (hh : s.has = true) : giAck (zGi s t c last) = gvAck s := by
  unfold giAck gvAck
  show (if s.ls = [] then [(3, last, 0, s.r, [])] else []) = _
  rw [h.2.1 hh]
/-- an answer to who asks -/
theorem zGi_ans {s : Gvs} {t c last : Nat} (h : GiOk s t c last) (T : Nat) :
    ∃ t' c', giAns (zGi s t c last) T = zGi (if s.has = true ∧ T = s.last then s else gvOpen s T) t' c' last ∧ GiOk (if s.has = true ∧ T = s.last then s else gvOpen s T) t' c' last ∧ giAnsL (zGi s t c last) T = if s.has = true ∧ T = s.last then gvAck s else [(1, T, (gvOpen s T).c, s.r, [])] := by
  unfold giAns giAnsL
  by_cases ho : s.has = true ∧ T = s.last
  · rw [if_pos ((zGi_old h T).2 ho), if_pos ((zGi_old h T).2 ho), if_pos ho, if_pos ho]
    exact ⟨t, c, rfl, h, zGi_ack h ho.1⟩
  · have hn : ¬ giOld (zGi s t c last) T = true := fun e => ho ((zGi_old h T).1 e)
    rw [if_neg hn, if_neg hn, if_neg ho, if_neg ho]
    obtain ⟨t', c', e1, e2, e3⟩ := zGi_open h T
    exact ⟨t', c', e1, e2, by rw [e3]; rfl⟩
theorem zGi_enter {s : Gvs} {t c last : Nat} (h : GiOk s t c last) (T : Nat) (hT : t = T) (d : List UInt8) (he : s.ent < 1000000) : ∃ t' c' last', giEnter (zGi s t c last) d = zGi (gvPush s T d) t' c' last' ∧ GiOk (gvPush s T d) t' c' last' := by
  unfold giEnter gvPush
  show ∃ t' c' last', (if quPushE s.room s.ls d.length = 0 then _ else _) = _ ∧ _
  split
  · refine ⟨0, 0, T, ?_, ⟨fun e => (by cases e), fun _ => rfl, ?_, ?_, ?_⟩⟩
    · subst hT
      rfl
    · show true = decide (0 < s.ent + 1)
      simp
    · have := h.2.2.2.1
      show s.ent + 1 = s.ret + (s.ls ++ [d]).length
      simp
      omega
    · show s.ent + 1 ≤ 1000000
      omega
  · exact ⟨t, c, last, rfl, h⟩
/-- what comes, as the giver's own state tells it -/
theorem zGi_take {s : Gvs} {t c last : Nat} (h : GiOk s t c last) (he : s.ent < 1000000) (kd : Int) (T C : Nat) (d : List UInt8) : ∃ t' c' last', giTake (zGi s t c last) kd T C d = zGi (gvTake s kd T C d) t' c' last' ∧ GiOk (gvTake s kd T C d) t' c' last' ∧ giTakeL (zGi s t c last) kd T C = gvTakeL s kd T C := by
  unfold giTake giTakeL gvTake gvTakeL
  show ∃ t' c' last', (if kd = 2 then (if s.opn = true ∧ t = T ∧ c = C then _ else _) else _) = _ ∧ _ ∧ (if kd = 2 then (if s.opn = true ∧ t = T ∧ c = C then _ else _) else _) = _
  by_cases k2 : kd = 2
  · rw [if_pos k2, if_pos k2]
    by_cases ho : s.opn = true ∧ t = T ∧ c = C
    · have e := h.1 ho.1
      have hi : gvIn s kd T C := ⟨k2, ho.1, by rw [← e.1]; exact ho.2.1.symm, by rw [← e.2]; exact ho.2.2.symm⟩
      rw [if_pos ho, if_pos ho, if_pos hi, if_pos hi]
      obtain ⟨t', c', last', e1, e2⟩ := zGi_enter h T ho.2.1 d he
      exact ⟨t', c', last', e1, e2, rfl⟩
    · have hi : ¬ gvIn s kd T C := fun ⟨_, a, b, c'⟩ => ho ⟨a, by rw [(h.1 a).1]; exact b.symm, by rw [(h.1 a).2]; exact c'.symm⟩
      rw [if_neg ho, if_neg ho, if_neg hi, if_neg hi]
      by_cases hl : s.has = true ∧ T = s.last
      · have hg : gvOld s kd T := ⟨.inr k2, hl⟩
        have hz := (zGi_old h T).2 hl
        rw [if_pos hz, if_pos hz, if_pos hg, if_pos hg]
        unfold giAns giAnsL
        rw [if_pos hz, if_pos hz]
        exact ⟨t, c, last, rfl, h, zGi_ack h hl.1⟩
      · have hg : ¬ gvOld s kd T := fun e => hl e.2
        have hz : ¬ giOld (zGi s t c last) T = true := fun e => hl ((zGi_old h T).1 e)
        have k0 : ¬ kd = 0 := by omega
        rw [if_neg hz, if_neg hz, if_neg hg, if_neg hg, if_neg k0, if_neg k0]
        exact ⟨t, c, last, rfl, h, rfl⟩
  · have hi : ¬ gvIn s kd T C := fun e => k2 e.1
    rw [if_neg k2, if_neg k2, if_neg hi, if_neg hi]
    by_cases k0 : kd = 0
    · rw [if_pos k0, if_pos k0, if_pos k0, if_pos k0]
      obtain ⟨t', c', e1, e2, e3⟩ := zGi_ans h T
      by_cases hl : s.has = true ∧ T = s.last
      · have hg : gvOld s kd T := ⟨.inl k0, hl⟩
        rw [if_pos hl] at e1 e2 e3
        rw [if_pos hg, if_pos hg]
        exact ⟨t', c', last, e1, e2, e3⟩
      · have hg : ¬ gvOld s kd T := fun e => hl e.2
        rw [if_neg hl] at e1 e2 e3
        rw [if_neg hg, if_neg hg]
        exact ⟨t', c', last, e1, e2, e3⟩
    · have hg : ¬ gvOld s kd T := fun e => e.1.elim k0 k2
      rw [if_neg k0, if_neg k0, if_neg k0, if_neg k0, if_neg hg, if_neg hg]
      exact ⟨t, c, last, rfl, h, rfl⟩
theorem zGi_recv {s : Gvs} {t c last : Nat} (h : GiOk s t c last) : giRecv (zGi s t c last) = zGi (gvRecv s) t c last ∧ GiOk (gvRecv s) t c last ∧ giRecvL (zGi s t c last) = gvRecvL s := by
  unfold giRecvL gvRecv gvRecvL
  show _ ∧ _ ∧ (if s.ls = [] then _ else _) = _
  by_cases hl : s.ls = []
  · rw [if_pos hl, if_pos hl, if_pos hl]
    refine ⟨?_, h, rfl⟩
    unfold giRecv zGi
    simp [hl]
  · have hp : 0 < s.ls.length := List.length_pos_iff.2 hl
    have hk : GiOk (gvPop s) t c last := ⟨h.1, h.2.1, h.2.2.1, by have := h.2.2.2.1; show s.ent = s.ret + 1 + s.ls.tail.length; simp; omega, h.2.2.2.2⟩
    have hh : s.has = true := by
      rw [h.2.2.1]
      have := h.2.2.2.1
      simp
      omega
    rw [if_neg hl, if_neg hl, if_neg hl]
    exact ⟨rfl, hk, zGi_ack hk hh⟩
/-- what is the giver's own, without the source -/
def GiQ (g gs : Nat) (s : Gvs) (w : World) (X : Nat → Prop) : Prop := ∃ p t c last Xs, p.g = g ∧ p.gs = gs ∧ ObL p.ge 77 (giCells p (zGi s t c last)) (giOwn p (zGi s t c last)) Xs w ∧ X = ObB p.ge Xs ∧ GiOk s t c last
theorem giownHolds (p : Gip) (z : Gis) : HoldsL (giOwn p z) := fun i P h => by
  rcases i with _ | _ | i
  · rw [← Option.some.inj h]; exact QuP.holds _ _ _
  · rw [← Option.some.inj h]; exact GirP.holds _ _
  · cases h
theorem GiQ.holds (g gs : Nat) (s : Gvs) : Holds (GiQ g gs s) where
  lt := fun ⟨p, _, _, _, Xs, _, _, h, e, _⟩ k hk => by subst e; exact h.lt (giownHolds p _) k hk
  off := fun ⟨p, t, c, last, Xs, h1, h2, h, e, h3⟩ o hd => by subst e; exact ⟨p, t, c, last, Xs, h1, h2, h.off (giownHolds p _) o hd, rfl, h3⟩
theorem gisplit (g gs : Nat) (s : Gvs) (w : World) (X : Nat → Prop) (h : GiP g gs s w X) : ∃ Xo Xs, GiQ g gs s w Xo ∧ NoP gs s.l s.k w Xs ∧ (∀ k, Xo k → ¬ Xs k) ∧ X = fun k => Xo k ∨ Xs k := by
  obtain ⟨p, t, c, last, h1, rfl, ⟨Xl, h, rfl⟩, h3⟩ := h
  rw [giParts_eq] at h
  obtain ⟨Xs0, Xs, rfl, h4, h5, h6⟩ := h.unsnoc
  exact ⟨ObB p.ge Xs0, Xs, ⟨p, t, c, last, Xs0, h1, rfl, h4, rfl, h3⟩, h5, h6, ObB_snoc⟩
theorem gijoin (g gs : Nat) (s : Gvs) (w : World) (Xo Xs : Nat → Prop) (k' : Nat) (h : GiQ g gs s w Xo) (hS : NoP gs s.l k' w Xs) (hd : ∀ k, Xo k → ¬ Xs k) : GiP g gs { s with k := k' } w (fun k => Xo k ∨ Xs k) := by
  obtain ⟨p, t, c, last, Xs0, h1, rfl, h4, rfl, h3⟩ := h
  exact ⟨p, t, c, last, h1, rfl, ⟨Xs0 ++ [Xs], h4.snoc hS hd, ObB_snoc.symm⟩, h3⟩
set_option maxHeartbeats 2000000 in
theorem ginew_no (r : Int) (v : Option Addr) (w : World) (hi : I64 r) (hr : r < 1 ∨ 16 < r) :
    Calls Try.prog 8 #[.int .i64 r, .pointer v] w fun e w' => e = .returned (.tuple #[.pointer none, .int .i64 1]) ∧ Below w.heap.size w w' := by
  have HQ := Lib.hid (quC.new_no r w hi hr)
  clear hi hr
  go_enter Try.func8, Try.ntmps8
  go_wp2_with (fail)
  refine HQ.out.mono ?_
  rintro e w1 ⟨rfl, T1⟩
  have HT := Lib.hid T1
  clear T1
  go_wp2
  go_ret2
  exact ⟨rfl, HT.out⟩
set_option maxHeartbeats 2000000 in
theorem ginew_nil (r : Int) (w : World) (hi : I64 r) :
    Calls Try.prog 8 #[.int .i64 r, .pointer none] w fun e w' => e = .returned (.tuple #[.pointer none, .int .i64 1]) ∧ Below w.heap.size w w' := by
  by_cases hr : r < 1 ∨ 16 < r
  · exact ginew_no r none w hi hr
  · obtain ⟨R, rfl⟩ : ∃ R : Nat, r = (R : Int) := ⟨r.toNat, by omega⟩
    have HQ := Lib.hid (quC.new_yes R w (by omega) (by omega))
    clear hi hr
    go_enter Try.func8, Try.ntmps8
    go_wp2_with (fail)
    refine HQ.out.mono ?_
    rintro e w1 ⟨gq, Xq, rfl, -, -, T1⟩
    have HT := Lib.hid T1
    clear T1
    go_wp2
    go_ret2
    exact ⟨rfl, HT.out⟩
/-- a giver in new blocks -/
theorem ginew_of {gq gs room r : Nat} {l : List Nat} {k : Nat} {Xq Xs : Nat → Prop} {w : World} (hq : QuP gq room [] w Xq) (hs : NoP gs l k w Xs) (d1 : ∀ k, Xq k → ¬ Xs k) (w2 : World) (e2 : w2 = ((w.alloc (.cells (giCells ⟨w.heap.size + 1, w.heap.size, gq, gs⟩ ⟨room, [], l, k, r, false, 0, 0, 0, 0⟩) 77)).alloc (.cells #[.pointer (some ⟨w.heap.size, 0, none⟩)] 79))) :
    ∃ X, GiP (w.heap.size + 1) gs ⟨room, [], l, k, r, false, false, 0, 0, 0, 0, 0⟩ w2 X ∧ Below w.heap.size w w2 ∧ ∀ j, X j → Xq j ∨ Xs j ∨ w.heap.size ≤ j := by
  have lq := (QuP.holds _ _ _).lt hq
  have ls := (NoP.holds _ _ _).lt hs
  have T1 := (Below.refl _ w).alloc (Nat.le_refl _) (.cells (giCells ⟨w.heap.size + 1, w.heap.size, gq, gs⟩ ⟨room, [], l, k, r, false, 0, 0, 0, 0⟩) 77)
  have T2 := T1.alloc T1.size (.cells #[.pointer (some ⟨w.heap.size, 0, none⟩)] 79)
  have s1 : (w.alloc (.cells (giCells ⟨w.heap.size + 1, w.heap.size, gq, gs⟩ ⟨room, [], l, k, r, false, 0, 0, 0, 0⟩) 77)).heap.size = w.heap.size + 1 := by simp
  have r1 := heap_alloc_new w (.cells (giCells ⟨w.heap.size + 1, w.heap.size, gq, gs⟩ ⟨room, [], l, k, r, false, 0, 0, 0, 0⟩) 77)
  generalize w.alloc (.cells (giCells ⟨w.heap.size + 1, w.heap.size, gq, gs⟩ ⟨room, [], l, k, r, false, 0, 0, 0, 0⟩) 77) = w1 at *
  have r2 := heap_alloc_new w1 (.cells #[.pointer (some ⟨w.heap.size, 0, none⟩)] 79)
  have U2 := (Below.refl _ w1).alloc (Nat.le_refl _) (.cells #[.pointer (some ⟨w.heap.size, 0, none⟩)] 79)
  rw [s1] at r2
  rw [← e2] at T2 r2 U2
  have r1' := (U2.block w.heap.size (by omega)).trans r1
  refine ⟨ObB w.heap.size [Xq, (· = w.heap.size + 1), Xs], ⟨⟨w.heap.size + 1, w.heap.size, gq, gs⟩, 0, 0, 0, rfl, rfl, ⟨_, ⟨r1', rfl, fun i P X hP hX => ?_, fun i X hX => ?_, fun i j A B hA hB hij k hk hk' => ?_⟩, rfl⟩, ⟨fun e => (by cases e), fun e => (by cases e), rfl, rfl, Nat.zero_le _⟩⟩, T2, fun j hj => ?_⟩
  · rcases i with _ | _ | _ | i
    · rw [← Option.some.inj hP, ← Option.some.inj hX]; exact (QuP.holds _ _ _).below hq T2
    · rw [← Option.some.inj hP, ← Option.some.inj hX]; exact ⟨r2, rfl⟩
    · rw [← Option.some.inj hP, ← Option.some.inj hX]; exact (NoP.holds _ _ _).below hs T2
    · cases hP
  · rcases i with _ | _ | _ | i
    · rw [← Option.some.inj hX]; intro h; have : w.heap.size < w.heap.size := lq _ h; omega
    · rw [← Option.some.inj hX]; intro h; simp at h
    · rw [← Option.some.inj hX]; intro h; have : w.heap.size < w.heap.size := ls _ h; omega
    · cases hX
  · rcases i with _ | _ | _ | i <;> cases hA
    all_goals
      rcases j with _ | _ | _ | j <;> first | (exact absurd rfl hij) | cases hB
    all_goals
      first
      | exact d1 k hk hk'
      | exact d1 k hk' hk
      | (have := lq k (by first | exact hk | exact hk'); omega)
      | (have := ls k (by first | exact hk | exact hk'); omega)
      | (omega)
  · rcases hj with rfl | ⟨i, X, hX, hj⟩
    · exact .inr (.inr (Nat.le_refl _))
    · rcases i with _ | _ | _ | i
      · rw [← Option.some.inj hX] at hj; exact .inl hj
      · rw [← Option.some.inj hX] at hj; exact .inr (.inr (by omega))
      · rw [← Option.some.inj hX] at hj; exact .inr (.inl hj)
      · cases hX
set_option maxHeartbeats 4000000 in
theorem ginew_yes (room gs : Nat) (l : List Nat) (k : Nat) (w : World) (Xs : Nat → Prop) (h1 : 1 ≤ room) (h2 : room ≤ 16) (hS : NoP gs l k w Xs) (hk : k < 1000000) :
    Calls Try.prog 8 #[.int .i64 (room : Int), .pointer (some ⟨gs, 0, none⟩)] w fun e w' => ∃ g X, e = .returned (.tuple #[.pointer (some ⟨g, 0, none⟩), .int .i64 0]) ∧ GiP g gs ⟨room, [], l, k + 1, nx l k, false, false, 0, 0, 0, 0, 0⟩ w' X ∧ Turns Xs X w w' := by
  have HQ := Lib.hid (quC.new_yes room w h1 h2)
  have HS := Lib.hid hS
  clear h1 h2 hS
  go_enter Try.func8, Try.ntmps8
  go_wp2_with (fail)
  refine HQ.out.mono ?_
  rintro e w1 ⟨gq, Xq, rfl, q1, y1, T1⟩
  have HN := Lib.hid (nonext_any gs l k w1 Xs ((NoP.holds _ _ _).below HS.out T1) hk)
  have HF := Lib.hid (And.intro q1 (And.intro y1 T1))
  clear q1 y1 T1
  go_wp2_with (fail)
  refine HN.out.mono ?_
  rintro e w2 ⟨rfl, X2, s2, t2⟩
  have HG := Lib.hid (And.intro s2 t2)
  clear s2 t2
  go_wp2
  go_ret2
  obtain ⟨q1, y1, T1⟩ := HF.out
  obtain ⟨s2, t2⟩ := HG.out
  have ls0 := (NoP.holds _ _ _).lt HS.out
  have lq1 := (QuP.holds _ _ _).lt q1
  have q2 := (QuP.holds _ _ _).off q1 t2.off (fun j hj hx => by have := y1 j hj; have := ls0 j hx; omega)
  have dd : ∀ j, Xq j → ¬ X2 j := fun j hj hx => by
    rcases t2.grow j hx with h | h
    · have := y1 j hj
      have := ls0 j h
      omega
    · have := lq1 j hj
      omega
  obtain ⟨X, hX, TX, hin⟩ := ginew_of (r := nx l k) q2 s2 dd _ rfl
  refine ⟨w2.heap.size + 1, X, rfl, hX, ⟨(((Turns.of_below (X := Xs) T1).trans t2).next TX).off, fun j hj => ?_⟩⟩
  have hs1 := T1.size
  have hs2 := t2.off.size
  rcases hin j hj with h | h | h
  · exact .inr (y1 j h)
  · rcases t2.grow j h with h | h
    · exact .inl h
    · exact .inr (by omega)
  · exact .inr (by omega)
theorem giC : GiC NoP GiP where
  holds := GiP.holds
  src := fun g gs s w X h => by
    obtain ⟨Xo, Xs, -, h2, -, e⟩ := gisplit g gs s w X h
    exact ⟨Xs, h2, fun k hk => by rw [e]; exact .inr hk⟩
  split := fun g gs s => ⟨GiQ g gs s, GiQ.holds g gs s, fun w X h => gisplit g gs s w X h, fun w Xo Xs k' h hS hd => gijoin g gs s w Xo Xs k' h hS hd⟩
  new_no := fun r gs _ _ w _ hi hr _ => ginew_no r _ w hi hr
  new_yes := fun room gs l k w Xs h1 h2 hS _ hk => ginew_yes room gs l k w Xs h1 h2 hS hk
  new_nil := ginew_nil
  take := fun g gs s kd T C R P n c d w X h hok hk he hkd hT hC hR hB _ => by
    obtain ⟨p, t, cc, last, rfl, rfl, hE, hG⟩ := h
    obtain ⟨t', c', last', e1, e2, e3⟩ := zGi_take hG he kd T C d
    have := giTake_any p _ kd T C R P n c d w X hE hk he hB
    rw [e1, e3] at this
    exact this.mono fun _ _ h => h.imp' fun w X h => ⟨p, t', c', last', rfl, rfl, h, e2⟩
  recv := fun g gs s w X h hok hr => by
    obtain ⟨p, t, cc, last, rfl, rfl, hE, hG⟩ := h
    obtain ⟨e1, e2, e3⟩ := zGi_recv hG
    have := giRecv_any p _ w X hE
    rw [e1, e3] at this
    refine this.mono ?_
    rintro e w' ⟨A, n, c, B, m, d, X', h1, h2, h3, h4, h5, h6, h7⟩
    exact ⟨A, n, c, B, m, d, X', h1, h2, h3, h4, h5, ⟨p, t, cc, last, rfl, rfl, h6, e2⟩, h7⟩
  state := fun g gs s w X h => by
    obtain ⟨p, t, cc, last, rfl, rfl, hE, hG⟩ := h
    exact giState_any p _ s.ret w X hE hG.2.2.2.1 hG.2.2.2.2
  kept := fun g gs s w X h => by
    obtain ⟨p, t, cc, last, rfl, rfl, hE, hG⟩ := h
    exact giKept_any p _ w X hE
  ntake := fun kd T C R A n c d w _ _ => ginTake_any kd T C R A n c w
  nrecv := ginRecv_any
  nstate := ginState_any
  nkept := ginKept_any
end Go.Proofs.Ytoajbocpebfjoaa
