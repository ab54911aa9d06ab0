/- The document's own window transmitter (kedgeref24) as an object of three parts: its own cells, timers, a list of messages; New, slide, Poll. -/
import Derived.Test.YtncpabnmdofomaaSlR
import Derived.Test.YtncpabnmdofomaaRtm
import Derived.Test.YtncpabnmdofomaaRrg
import Derived.Test.YtncpabnmdofomaaRcopy
import Derived.Deep.QuietTactic
import Derived.BigQuiet
namespace Go.Proofs.Ytncpabnmdofomaa
open Go.RowKit
set_option maxRecDepth 20000

def pcells (v : Value) (gt : Nat) (s : Pus) : Array Value := #[.int .i64 s.c.eng, .int .i64 s.c.w, .int .i64 s.c.m, .int .i64 s.c.l, .int .i64 s.c.b, .int .i64 s.c.room, .int .u64 (s.c.beg : Int), v, .int .i64 (s.base : Int), .int .i64 (s.next : Int), .pointer (some ⟨gt, 0, none⟩)]
/-- the blocks: its own, the timers', the list's -/
def Tri (g : Nat) (Xt Xl : Nat → Prop) : Nat → Prop := fun k => k = g ∨ Xt k ∨ Xl k
def RPv (g gt : Nat) (v : Value) (s : Pus) (Xt Xl : Nat → Prop) (w : World) : Prop :=
  w.heap[g]? = some (.cells (pcells v gt s) 61 (0, 0)) ∧ RT gt s.c.b s.tm w Xt ∧ OwnY w 0 (fun k => ¬ Xl k) v s.ls ∧ (∀ k, Xl k → k < w.heap.size) ∧ (∀ k, v.ownBlock = some k → Xl k) ∧ ¬ Xt g ∧ ¬ Xl g ∧ ∀ k, Xl k → ¬ Xt k
def RP (g : Nat) (s : Pus) (w : World) (X : Nat → Prop) : Prop := PsOk s ∧ ∃ gt v Xt Xl, RPv g gt v s Xt Xl w ∧ X = Tri g Xt Xl
section
variable {g gt : Nat} {v : Value} {s : Pus} {Xt Xl : Nat → Prop} {w w1 : World}
theorem RPv.lt (h : RPv g gt v s Xt Xl w) : ∀ k, Tri g Xt Xl k → k < w.heap.size := fun k hk => by
  rcases hk with rfl | hk | hk
  · exact lt_row h.1
  · exact h.2.1.2.1 k hk
  · exact h.2.2.2.1 k hk
theorem RPv.off {Y : Nat → Prop} (h : RPv g gt v s Xt Xl w) (o : Off Y w w1) (hd : ∀ k, Tri g Xt Xl k → ¬ Y k) : RPv g gt v s Xt Xl w1 := by
  obtain ⟨h1, h2, h3, h4, h5, h6, h7, h8⟩ := h
  exact ⟨(o.block g (lt_row h1) (hd g (.inl rfl))).trans h1, (RT.holds _ _ _).off h2 o (fun k hk => hd k (.inr (.inl hk))), h3.off o (fun k _ hy hx => hd k (.inr (.inr hx)) hy) (fun k hk => hd k (.inr (.inr (h5 k hk)))), fun k hk => Nat.lt_of_lt_of_le (h4 k hk) o.size, h5, h6, h7, h8⟩
theorem RPv.below (h : RPv g gt v s Xt Xl w) (T : Below w.heap.size w w1) : RPv g gt v s Xt Xl w1 := h.off (Y := fun _ => False) (Off.of_below T) (fun _ _ h => h)
theorem RP.holds (g : Nat) (s : Pus) : Holds (RP g s) where
  lt := fun ⟨_, _, _, _, _, h, e⟩ k hk => h.lt k (e ▸ hk)
  off := fun ⟨h0, gt, v, Xt, Xl, h, e⟩ o hd => ⟨h0, gt, v, Xt, Xl, h.off o (fun k hk => hd k (e ▸ hk)), e⟩
/-- the timers are turned -/
theorem RPv.t (h : RPv g gt v s Xt Xl w) {tm' : List Tmr} {Xt' : Nat → Prop} (ht : RT gt s.c.b tm' w1 Xt') (T : Turns Xt Xt' w w1) : RPv g gt v { s with tm := tm' } Xt' Xl w1 ∧ Turns (Tri g Xt Xl) (Tri g Xt' Xl) w w1 := by
  obtain ⟨h1, h2, h3, h4, h5, h6, h7, h8⟩ := h
  have l1 := lt_row h1
  have no : ∀ k, k < w.heap.size → ¬ Xt k → ¬ Xt' k := fun k hk hx hy => by
    rcases T.grow k hy with h | h
    · exact hx h
    · omega
  refine ⟨⟨(T.off.block g l1 h6).trans h1, ht, h3.off T.off (fun k _ hx hl => h8 k hl hx) (fun k hk => h8 k (h5 k hk)), fun k hk => Nat.lt_of_lt_of_le (h4 k hk) T.off.size, h5, no g l1 h6, h7, fun k hk => no k (h4 k hk) (h8 k hk)⟩, ⟨T.off.more (fun k hk => .inr (.inl hk)), fun k hk => ?_⟩⟩
  rcases hk with hk | hk | hk
  · exact .inl (.inl hk)
  · exact (T.grow k hk).imp (fun h => .inr (.inl h)) id
  · exact .inl (.inr (.inr hk))
/-- a number of its own is stored -/
theorem RPv.c (h : RPv g gt v s Xt Xl w) {s' : Pus} (j : Nat) (x : Value) (hc : (pcells v gt s).setIfInBounds j x = pcells v gt s') (e1 : s'.c = s.c) (e2 : s'.ls = s.ls) (e3 : s'.tm = s.tm) : RPv g gt v s' Xt Xl (w.setCell ⟨g, j, none⟩ x) ∧ Turns (Tri g Xt Xl) (Tri g Xt Xl) w (w.setCell ⟨g, j, none⟩ x) := by
  obtain ⟨h1, h2, h3, h4, h5, h6, h7, h8⟩ := h
  have O : Off (· = g) w (w.setCell ⟨g, j, none⟩ x) := (Off.refl (· = g) w).setCell (p := ⟨g, j, none⟩) (.inl rfl) x
  refine ⟨⟨by rw [← hc]; exact heap_setCell_same w g j _ _ x h1, ?_, ?_, fun k hk => Nat.lt_of_lt_of_le (h4 k hk) O.size, h5, h6, h7, h8⟩, ⟨O.more (fun k hk => .inl hk), fun k hk => .inl hk⟩⟩
  · rw [e1, e3]
    exact (RT.holds _ _ _).off h2 O (fun k hk e => h6 (e ▸ hk))
  · rw [e2]
    exact h3.off O (fun k _ e hl => h7 (e ▸ hl)) (fun k hk e => h7 (e ▸ h5 k hk))
theorem RPv.cells (h : RPv g gt v s Xt Xl w) : (w.cell? ⟨g, 1, none⟩ = some (.int .i64 s.c.w) ∧ w.cell? ⟨g, 2, none⟩ = some (.int .i64 s.c.m) ∧ w.cell? ⟨g, 5, none⟩ = some (.int .i64 s.c.room)) ∧ w.cell? ⟨g, 7, none⟩ = some v ∧ w.cell? ⟨g, 8, none⟩ = some (.int .i64 (s.base : Int)) ∧ w.cell? ⟨g, 9, none⟩ = some (.int .i64 (s.next : Int)) ∧ w.cell? ⟨g, 10, none⟩ = some (.pointer (some ⟨gt, 0, none⟩)) ∧ ∀ j, w.frozen? ⟨g, j, none⟩ = false :=
  ⟨⟨cell_of_row _ _ _ _ _ _ h.1, cell_of_row _ _ _ _ _ _ h.1, cell_of_row _ _ _ _ _ _ h.1⟩, cell_of_row _ _ _ _ _ _ h.1, cell_of_row _ _ _ _ _ _ h.1, cell_of_row _ _ _ _ _ _ h.1, cell_of_row _ _ _ _ _ _ h.1, fun _ => frozen_of_row _ _ _ _ _ h.1⟩
theorem RPv.lst (h : RPv g gt v s Xt Xl w) : ∃ P c, v = .slice P s.ls.length c ∧ s.ls.length ≤ c ∧ c ≤ 9223372036854775807 ∧ Rws w P s.ls.length c s.ls := by
  obtain ⟨P, c, h1, h2, h3, h4, _⟩ := h.2.2.1.shape
  exact ⟨P, c, h1, h2, h3, h4⟩
end
/-- numbers as they come -/
def CfIn (c : Cfg) : Prop := J64 c.w ∧ J64 c.m ∧ J64 c.l
set_option maxHeartbeats 4000000 in
theorem rpnew_no (c : Cfg) (w : World) (hi : CfIn c) (h : puNew c ≠ 0) :
    Calls Try.prog 9 #[cfgV c] w fun e w' => e = .returned (.tuple #[.pointer none, .int .i64 (puNew c)]) ∧ Below w.heap.size w w' := by
  unfold cfgV
  obtain ⟨eng, cw, cm, cl, cb, room, beg⟩ := c
  simp only at *
  have T0 := (Below.refl _ w).alloc (Nat.le_refl _) (.cells #[.int .i64 eng, .int .i64 cw, .int .i64 cm, .int .i64 cl, .int .i64 cb, .int .i64 room, .int .u64 (beg : Int)] 24)
  have hn := heap_alloc_new w (.cells #[.int .i64 eng, .int .i64 cw, .int .i64 cm, .int .i64 cl, .int .i64 cb, .int .i64 room, .int .u64 (beg : Int)] 24)
  obtain ⟨c0, c1, c2, c3, c4, c5, c6⟩ := row7 hn
  have HK := Lib.hid (fun W => rrcheck_any cw cm cl W hi.1 hi.2.1 hi.2.2)
  unfold puNew at *
  simp only at *
  have HT0 := Lib.hid T0
  clear hn T0 hi
  by_cases h1 : rgCheck cw cm cl = 0
  · rw [h1] at HK h
    rw [h1]
    simp only [ne_eq, not_true_eq_false, if_false] at h ⊢
    by_cases h2 : cb < 1 ∨ 64 < cb
    · rw [if_pos h2]
      have HN := Lib.hid (fun W => rtnew_no cb W h2)
      clear h h2 h1
      go_enter Try.func9, Try.ntmps9
      go_wp2_with (fail)
      refine (HK.out _).mono ?_
      rintro e w1 ⟨rfl, rfl⟩
      go_wp2_with (fail)
      refine (HN.out _).mono ?_
      rintro e w1 ⟨rfl, rfl⟩
      go_wp2
      go_ret2
      exact ⟨rfl, HT0.out⟩
    · rw [if_neg h2] at h ⊢
      by_cases h3 : room < 1 ∨ 16 < room
      · rw [if_pos h3]
        have HN := Lib.hid (fun W => rtnew_yes cb W (by omega) (by omega))
        have HB := Lib.hid (lt_row (w := w.alloc (.cells #[.int .i64 eng, .int .i64 cw, .int .i64 cm, .int .i64 cl, .int .i64 cb, .int .i64 room, .int .u64 (beg : Int)] 24)) (heap_alloc_new w _))
        by_cases h4 : room < 1
        · have d4 : decide (room < 1) = true := by simpa using h4
          clear h h2 h1 h3 h4
          go_enter Try.func9, Try.ntmps9
          go_wp2_with (fail)
          refine (HK.out _).mono ?_
          rintro e w1 ⟨rfl, rfl⟩
          go_wp2_with (fail)
          refine (HN.out _).mono ?_
          rintro e w1 ⟨gt, X, rfl, -, -, T1⟩
          have c5 := (T1.cell (p := ⟨w.heap.size, 5, none⟩) HB.out).trans c5
          have T2 := nxt HT0.out T1
          clear T1 c0 c1 c2 c3 c4 c6
          go_wp2
          go_ret2
          exact ⟨rfl, T2⟩
        · have d4 : decide (room < 1) = false := by simpa using h4
          have d5 : decide (16 < room) = true := by simp; omega
          clear h h2 h1 h3 h4
          go_enter Try.func9, Try.ntmps9
          go_wp2_with (fail)
          refine (HK.out _).mono ?_
          rintro e w1 ⟨rfl, rfl⟩
          go_wp2_with (fail)
          refine (HN.out _).mono ?_
          rintro e w1 ⟨gt, X, rfl, -, -, T1⟩
          have c5 := (T1.cell (p := ⟨w.heap.size, 5, none⟩) HB.out).trans c5
          have T2 := nxt HT0.out T1
          clear T1 c0 c1 c2 c3 c4 c6
          go_wp2
          go_ret2
          exact ⟨rfl, T2⟩
      · exact absurd (if_neg h3) h
  · rw [if_pos h1]
    have d1 : (rgCheck cw cm cl != 0) = true := by simpa using h1
    generalize rgCheck cw cm cl = z at *
    clear h h1
    go_enter Try.func9, Try.ntmps9
    go_wp2_with (fail)
    refine (HK.out _).mono ?_
    rintro e w1 ⟨rfl, rfl⟩
    go_wp2
    go_ret2
    exact ⟨rfl, HT0.out⟩
set_option maxHeartbeats 4000000 in
theorem rpnew_yes (c : Cfg) (w : World) (hi : CfIn c) (h : puNew c = 0) :
    Calls Try.prog 9 #[cfgV c] w fun e w' => ∃ g X, e = .returned (.tuple #[.pointer (some ⟨g, 0, none⟩), .int .i64 0]) ∧ RP g ⟨c, [], 0, 0, []⟩ w' X ∧ (∀ k, X k → w.heap.size ≤ k) ∧ Below w.heap.size w w' := by
  have HOK := Lib.hid (PsOk.new h)
  have hok := puNew_ok h
  unfold cfgV
  obtain ⟨eng, cw, cm, cl, cb, room, beg⟩ := c
  have T0 := (Below.refl _ w).alloc (Nat.le_refl _) (.cells #[.int .i64 eng, .int .i64 cw, .int .i64 cm, .int .i64 cl, .int .i64 cb, .int .i64 room, .int .u64 (beg : Int)] 24)
  have hn := heap_alloc_new w (.cells #[.int .i64 eng, .int .i64 cw, .int .i64 cm, .int .i64 cl, .int .i64 cb, .int .i64 room, .int .u64 (beg : Int)] 24)
  obtain ⟨c0, c1, c2, c3, c4, c5, c6⟩ := row7 hn
  have HK := Lib.hid (fun W => rrcheck_any cw cm cl W hi.1 hi.2.1 hi.2.2)
  have hz : rgCheck cw cm cl = 0 := by
    unfold puNew at h
    simp only at h
    by_cases e : rgCheck cw cm cl = 0
    · exact e
    · rw [if_pos e] at h; exact h
  rw [hz] at HK
  obtain ⟨k1, k2, k3, k4, k5⟩ := hok
  simp only at k4 k5
  have HN := Lib.hid (fun W => rtnew_yes cb W k4.1 k4.2)
  have d4 : decide (room < 1) = false := by simp; omega
  have d5 : decide (16 < room) = false := by simp; omega
  have HT0 := Lib.hid T0
  have HH := Lib.hid hn
  clear hn T0 hi h hz k1 k2 k3 k4 k5 c0 c1 c2 c3 c4 c5 c6
  have hr := HH.out
  obtain ⟨c0, c1, c2, c3, c4, c5, c6⟩ := row7 hr
  clear hr
  go_enter Try.func9, Try.ntmps9
  go_wp2_with (fail)
  refine (HK.out _).mono ?_
  rintro e w1 ⟨rfl, rfl⟩
  go_wp2_with (fail)
  refine (HN.out _).mono ?_
  rintro e w1 ⟨gt, Xt, rfl, q1, x1, T1⟩
  have Q1 := Lib.hid q1
  have hr := (T1.block _ (lt_row HH.out)).trans HH.out
  clear c0 c1 c2 c3 c4 c5 c6
  obtain ⟨c0, c1, c2, c3, c4, c5, c6⟩ := row7 hr
  have T2 := nxt HT0.out T1
  have hlt := q1.2.1
  have hs0 := HT0.out.size
  clear q1 hr
  go_wp2
  go_ret2
  have T3 := (Below.refl _ w1).alloc (Nat.le_refl _) (.cells (pcells (.slice none 0 0) gt ⟨⟨eng, cw, cm, cl, cb, room, beg⟩, [], 0, 0, []⟩) 61)
  refine ⟨w1.heap.size, Tri w1.heap.size Xt (fun _ => False), rfl, ⟨HOK.out, gt, .slice none 0 0, Xt, fun _ => False, ⟨heap_alloc_new w1 _, (RT.holds _ _ _).below Q1.out T3, OwnY.nil _ _ _, (fun _ h => False.elim h), (fun k hk => by cases hk), (fun h => by have := hlt _ h; omega), (fun h => h), (fun _ h => False.elim h)⟩, rfl⟩, fun k hk => ?_, nxt T2 T3⟩
  rcases hk with hk | hk | hk
  · have := T2.size; omega
  · have := x1 k hk; omega
  · exact hk.elim
set_option maxHeartbeats 2000000 in
theorem rppoll_any (g gt : Nat) (v : Value) (s : Pus) (Xt Xl : Nat → Prop) (i : Int) (w : World) (h : RPv g gt v s Xt Xl w) :
    Calls Try.prog 19 #[.pointer (some ⟨g, 0, none⟩), .int .i64 i] w fun e w' => e = .returned (.tuple #[.int .i64 (puPoll s i : Nat), .int .i64 (puPollE s i : Nat)]) ∧ w = w' := by
  obtain ⟨_, c7, c8, _, _, _⟩ := h.cells
  obtain ⟨P, c, rfl, hp1, hp2, _⟩ := h.lst
  clear h
  obtain ⟨N, hN⟩ : ∃ N, s.ls.length = N := ⟨_, rfl⟩
  rw [hN] at c7 hp1
  by_cases h1 : i < 0
  · have d1 : decide (i < 0) = true := by simpa using h1
    have H1 : Hid (puPoll s i = 0 ∧ puPollE s i = 4) := ⟨by unfold puPoll; rw [if_pos (.inl h1)], by unfold puPollE; rw [if_pos (.inl h1)]⟩
    clear h1 hN
    go_enter Try.func19, Try.ntmps19
    go_wp2
    go_ret2
    exact ⟨by rw [H1.out.1, H1.out.2]; rfl, rfl⟩
  · have d1 : decide (i < 0) = false := by simpa using h1
    by_cases h2 : (N : Int) ≤ i
    · have d2 : decide ((N : Int) ≤ i) = true := by simpa using h2
      have H1 : Hid (puPoll s i = 0 ∧ puPollE s i = 4) := ⟨by unfold puPoll; rw [hN, if_pos (.inr h2)], by unfold puPollE; rw [hN, if_pos (.inr h2)]⟩
      clear h1 h2 hN
      go_enter Try.func19, Try.ntmps19
      go_wp2
      go_ret2
      exact ⟨by rw [H1.out.1, H1.out.2]; rfl, rfl⟩
    · have d2 : decide ((N : Int) ≤ i) = false := by simpa using h2
      have hE : puPollE s i = 0 := by unfold puPollE; rw [hN, if_neg (by omega)]
      by_cases h3 : i < (s.base : Int)
      · have d3 : decide (i < (s.base : Int)) = true := by simpa using h3
        have H1 : Hid (puPoll s i = 1 ∧ puPollE s i = 0) := ⟨by unfold puPoll; rw [hN, if_neg (by omega), if_pos h3], hE⟩
        clear h1 h2 h3 hE hN
        go_enter Try.func19, Try.ntmps19
        go_wp2
        go_ret2
        exact ⟨by rw [H1.out.1, H1.out.2]; rfl, rfl⟩
      · have d3 : decide (i < (s.base : Int)) = false := by simpa using h3
        have H1 : Hid (puPoll s i = 0 ∧ puPollE s i = 0) := ⟨by unfold puPoll; rw [hN, if_neg (by omega), if_neg h3], hE⟩
        clear h1 h2 h3 hE hN
        go_enter Try.func19, Try.ntmps19
        go_wp2
        go_ret2
        exact ⟨by rw [H1.out.1, H1.out.2]; rfl, rfl⟩
end Go.Proofs.Ytncpabnmdofomaa
