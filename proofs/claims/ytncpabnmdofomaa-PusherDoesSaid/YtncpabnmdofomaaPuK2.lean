/- Package pusher, as landed: made, accepted, New, Poll, State, Timers, and what a nil one answers. -/
import Derived.Test.YtncpabnmdofomaaPuK1
namespace Go.Proofs.Ytncpabnmdofomaa
open Go.RowKit
set_option maxRecDepth 20000

set_option maxHeartbeats 1000000 in
theorem pumade_any (g : Nat) (p : Addr) (w : World) (h : w.cell? ⟨g, 0, none⟩ = some (.pointer (some p))) :
    Calls Try.prog 27 #[.pointer (some ⟨g, 0, none⟩)] w fun e w' => e = .returned (.bool true) ∧ w = w' := by
  go_enter Try.func27, Try.ntmps27
  go_wp2
  go_ret
  exact ⟨rfl, rfl⟩
theorem punmade_any (w : World) :
    Calls Try.prog 27 #[.pointer none] w fun e w' => e = .returned (.bool false) ∧ w = w' := by
  go_enter Try.func27, Try.ntmps27
  go_wp2
  go_ret
  exact ⟨rfl, rfl⟩
set_option maxHeartbeats 2000000 in
theorem puaccepted_any (x base n c N : Nat) (P : Option Addr) (w : World) (h4 : w.cell? ⟨x, 4, none⟩ = some (.int .i64 (base : Int))) (h6 : w.cell? ⟨x, 6, none⟩ = some (.slice P n c)) (hN : base + n = N) (hb : N ≤ 1000000) :
    Calls Try.prog 42 #[.pointer (some ⟨x, 0, none⟩)] w fun e w' => e = .returned (.int .i64 (N : Int)) ∧ ∃ m, w' = w.drewN m := by
  have es : ((base : Int) + (n : Int)) = (N : Int) := by omega
  have ew : IntKind.i64.wrap ((base : Int) + (n : Int)) = (N : Int) := by rw [es]; exact IntWalk.i64_in _ (by omega)
  clear es hN
  go_enter Try.func42, Try.ntmps42
  go_wp2_with (fail)
  go_quiet (fail)
  go_wp2
  go_ret
  exact ⟨rfl, nq, rfl⟩
/-- .. of the whole -/
theorem puacc_any {T : Nat → Int → List Tmr → World → (Nat → Prop) → Prop} {x gt : Nat} {P : Option Addr} {n c : Nat} {vs : List Value} {s : Pus} {Xt Xc : Nat → Prop} {w : World} (h : EnV T x gt P n c vs s s.base Xt Xc w) (hb : s.ls.length ≤ 1000000) :
    Calls Try.prog 42 #[.pointer (some ⟨x, 0, none⟩)] w fun e w' => e = .returned (.int .i64 (s.ls.length : Int)) ∧ ∃ m, w' = w.drewN m :=
  puaccepted_any x s.base n c s.ls.length P w h.cells.1.2.2.2.2.1 h.cells.1.2.2.2.2.2.2 h.cnt hb
theorem below_of_drewN {w w' : World} (h : ∃ m, w' = w.drewN m) : Below w.heap.size w w' := by
  obtain ⟨m, rfl⟩ := h
  exact below_drewN' (Below.refl _ _) m
theorem row3f {w : World} {g : Nat} {t : TypeId} {a b c : Value} (h : w.heap[g]? = some (.cells #[a, b, c] t (0, 0))) : (w.cell? ⟨g, 0, none⟩ = some a ∧ w.cell? ⟨g, 1, none⟩ = some b ∧ w.cell? ⟨g, 2, none⟩ = some c) ∧ w.frozen? ⟨g, 0, none⟩ = false ∧ w.frozen? ⟨g, 1, none⟩ = false ∧ w.frozen? ⟨g, 2, none⟩ = false :=
  ⟨⟨cell_of_row _ _ _ _ _ _ h, cell_of_row _ _ _ _ _ _ h, cell_of_row _ _ _ _ _ _ h⟩, frozen_of_row _ _ _ _ _ h, frozen_of_row _ _ _ _ _ h, frozen_of_row _ _ _ _ _ h⟩
theorem below3 {B : Nat} {u w : World} (U : Below B u w) {g : Nat} (hg : B ≤ g) (a' b' c' : Value) : Below B u (((w.setCell ⟨g, 0, none⟩ a').setCell ⟨g, 1, none⟩ b').setCell ⟨g, 2, none⟩ c') :=
  ((U.setCell (p := ⟨g, 0, none⟩) hg a').setCell (p := ⟨g, 1, none⟩) hg b').setCell (p := ⟨g, 2, none⟩) hg c'
section
variable {T : Nat → Int → List Tmr → World → (Nat → Prop) → Prop}
set_option maxHeartbeats 8000000 in
theorem pustate_any (C : TmC T) (g : Nat) (s : Pus) (w : World) (X : Nat → Prop) (hF : PuP T g s w X) (hb : s.ls.length < 100000) :
    Calls Try.prog 20 #[.pointer (some ⟨g, 0, none⟩)] w fun e w' => e = .returned (.agg #[.int .i64 (s.ls.length : Int), .int .i64 (s.base : Int), .int .i64 (s.next : Int)]) ∧ Below w.heap.size w w' := by
  obtain ⟨x, Y, h1, ⟨gt, P, n, c, vs, Xt, Xc, h2, rfl⟩, h3, rfl⟩ := hF
  have HAC : Hid (∀ W, Below w.heap.size w W → Calls Try.prog 42 #[.pointer (some ⟨x, 0, none⟩)] W fun e w' => e = .returned (.int .i64 (s.ls.length : Int)) ∧ Below W.heap.size W w') := fun W U =>
    (puacc_any (h2.below C U) (by omega)).mono fun _ _ ⟨e, h⟩ => ⟨e, below_of_drewN h⟩
  have HC : Hid (∀ W, Below w.heap.size w W → W.cell? ⟨g, 0, none⟩ = some (.pointer (some ⟨x, 0, none⟩)) ∧ W.cell? ⟨x, 4, none⟩ = some (.int .i64 (s.base : Int)) ∧ W.cell? ⟨x, 5, none⟩ = some (.int .i64 (s.next : Int))) := fun W U => by
    have h := (h2.below C U).cells.1
    exact ⟨cell_of_row _ _ _ _ _ _ ((U.block g (lt_row h1)).trans h1), h.2.2.2.2.1, h.2.2.2.2.2.1⟩
  have T0 := (Below.refl _ w).alloc (Nat.le_refl _) (.cells #[.int .i64 0, .int .i64 0, .int .i64 0] 54)
  have n0 := heap_alloc_new w (.cells #[.int .i64 0, .int .i64 0, .int .i64 0] 54)
  have HM := Lib.hid (pumade_any g ⟨x, 0, none⟩ _ (HC.out _ T0).1)
  have HT0 := Lib.hid T0
  have HN0 := Lib.hid n0
  clear h1 h2 h3 T0 n0
  obtain ⟨N, hN⟩ : ∃ N, s.ls.length = N := ⟨_, rfl⟩
  rw [hN] at HAC
  rw [hN]
  clear hN
  go_enter Try.func20, Try.ntmps20
  go_wp2_with (fail)
  refine HM.out.mono ?_
  rintro e w1 ⟨rfl, rfl⟩
  generalize w.alloc (.cells #[.int .i64 0, .int .i64 0, .int .i64 0] 54) = W1 at *
  go_wp2_with (fail)
  have P0 := Lib.hid (Below.refl W1.heap.size W1)
  have hW1 := lt_row HN0.out
  go_region_held3 (fun w' => w'.cell? ⟨g, 0, none⟩ = some (.pointer (some ⟨x, 0, none⟩)) ∧ w'.cell? ⟨x, 4, none⟩ = some (.int .i64 (s.base : Int)) ∧ w'.cell? ⟨x, 5, none⟩ = some (.int .i64 (s.next : Int))) (first | (with_reducible exact HC.out _ HT0.out) | (with_reducible exact HC.out _ HT1.out) | (with_reducible exact HC.out _ HT2.out) | exact HC.out _ HT0.out.drew | (have q := HC.out _ HT0.out; exact q))
    (first
      | (go_at_call 42; (with_reducible refine (HAC.out _ (by first | exact HT0.out | exact HT0.out.drew)).mono ?_); rintro e w2 ⟨rfl, U2⟩; have P1 : Hid (Below W1.heap.size W1 w2) := (by first | exact U2 | exact undrew U2); have HT1 := Lib.hid (HT0.out.trans (P1.out.mono HT0.out.size)); have HN1 := Lib.hid ((P1.out.block _ hW1).trans HN0.out); obtain ⟨⟨k0, k1, k2⟩, f0, f1, f2⟩ := row3f HN1.out; have HT2 := Lib.hid (below3 HT1.out (Nat.le_refl _) (.int .i64 (N : Int)) (.int .i64 (s.base : Int)) (.int .i64 (s.next : Int)))))
  all_goals
    go_wp2_with (fail)
    refine bodyPost_ret (v := .agg #[.int .i64 (N : Int), .int .i64 (s.base : Int), .int .i64 (s.next : Int)]) (results_cell_row rfl _ _ w.heap.size 54 #[.int .i64 (N : Int), .int .i64 (s.base : Int), .int .i64 (s.next : Int)] (0, 0) _ rfl (stored3 HN1.out _ _ _) Try.underlying54 rfl (by kernel_rfl)) rfl ?_
    exact ⟨rfl, HT2.out⟩
set_option maxHeartbeats 4000000 in
theorem pupoll_any (C : TmC T) (g : Nat) (s : Pus) (i : Int) (w : World) (X : Nat → Prop) (hF : PuP T g s w X) (hb : s.ls.length < 100000) :
    Calls Try.prog 18 #[.pointer (some ⟨g, 0, none⟩), .int .i64 i] w fun e w' => e = .returned (.tuple #[.int .i64 (puPoll s i : Nat), .int .i64 (puPollE s i : Nat)]) ∧ Below w.heap.size w w' := by
  obtain ⟨x, Y, h1, ⟨gt, P, n, c, vs, Xt, Xc, h2, rfl⟩, h3, rfl⟩ := hF
  have c0 : w.cell? ⟨g, 0, none⟩ = some (.pointer (some ⟨x, 0, none⟩)) := cell_of_row _ _ _ _ _ _ h1
  have HM := Lib.hid (pumade_any g ⟨x, 0, none⟩ w c0)
  have HAC := Lib.hid ((puacc_any h2 (by omega)).mono (R' := fun e w' => e = .returned (.int .i64 (s.ls.length : Int)) ∧ Below w.heap.size w w') fun _ _ ⟨e, h⟩ => ⟨e, below_of_drewN h⟩)
  have HC : Hid (∀ W, Below w.heap.size w W → W.cell? ⟨g, 0, none⟩ = some (.pointer (some ⟨x, 0, none⟩)) ∧ W.cell? ⟨x, 4, none⟩ = some (.int .i64 (s.base : Int))) := fun W U => ⟨cell_of_row _ _ _ _ _ _ ((U.block g (lt_row h1)).trans h1), (h2.below C U).cells.1.2.2.2.2.1⟩
  clear h1 h2 h3
  obtain ⟨N, hN⟩ : ∃ N, s.ls.length = N := ⟨_, rfl⟩
  rw [hN] at HAC
  by_cases h1 : i < 0
  · have d1 : decide (i < 0) = true := by simpa using h1
    have H1 : Hid (puPoll s i = 0 ∧ puPollE s i = 4) := ⟨by unfold puPoll; rw [if_pos (.inl h1)], by unfold puPollE; rw [if_pos (.inl h1)]⟩
    clear h1 hN
    go_enter Try.func18, Try.ntmps18
    go_wp2_with (fail)
    refine HM.out.mono ?_
    rintro e w1 ⟨rfl, rfl⟩
    go_wp2
    go_ret2
    exact ⟨by rw [H1.out.1, H1.out.2]; rfl, Below.refl _ _⟩
  · have d1 : decide (i < 0) = false := by simpa using h1
    by_cases h2 : (N : Int) ≤ i
    · have d2 : decide ((N : Int) ≤ i) = true := by simpa using h2
      have H1 : Hid (puPoll s i = 0 ∧ puPollE s i = 4) := ⟨by unfold puPoll; rw [hN, if_pos (.inr h2)], by unfold puPollE; rw [hN, if_pos (.inr h2)]⟩
      clear h1 h2 hN
      go_enter Try.func18, Try.ntmps18
      go_wp2_with (fail)
      refine HM.out.mono ?_
      rintro e w1 ⟨rfl, rfl⟩
      go_wp2_with (fail)
      refine HAC.out.mono ?_
      rintro e w2 ⟨rfl, T2⟩
      go_wp2
      go_ret2
      exact ⟨by rw [H1.out.1, H1.out.2]; rfl, T2⟩
    · have d2 : decide ((N : Int) ≤ i) = false := by simpa using h2
      have hE : puPollE s i = 0 := by unfold puPollE; rw [hN, if_neg (by omega)]
      by_cases h3 : i < (s.base : Int)
      · have d3 : decide (i < (s.base : Int)) = true := by simpa using h3
        have H1 : Hid (puPoll s i = 1 ∧ puPollE s i = 0) := ⟨by unfold puPoll; rw [hN, if_neg (by omega), if_pos h3], hE⟩
        clear h1 h2 h3 hE hN
        go_enter Try.func18, Try.ntmps18
        go_wp2_with (fail)
        refine HM.out.mono ?_
        rintro e w1 ⟨rfl, rfl⟩
        go_wp2_with (fail)
        refine HAC.out.mono ?_
        rintro e w2 ⟨rfl, T2⟩
        obtain ⟨e0, e2⟩ := HC.out _ T2
        go_wp2
        go_ret2
        exact ⟨by rw [H1.out.1, H1.out.2]; rfl, T2⟩
      · have d3 : decide (i < (s.base : Int)) = false := by simpa using h3
        have H1 : Hid (puPoll s i = 0 ∧ puPollE s i = 0) := ⟨by unfold puPoll; rw [hN, if_neg (by omega), if_neg h3], hE⟩
        clear h1 h2 h3 hE hN
        go_enter Try.func18, Try.ntmps18
        go_wp2_with (fail)
        refine HM.out.mono ?_
        rintro e w1 ⟨rfl, rfl⟩
        go_wp2_with (fail)
        refine HAC.out.mono ?_
        rintro e w2 ⟨rfl, T2⟩
        obtain ⟨e0, e2⟩ := HC.out _ T2
        go_wp2
        go_ret2
        exact ⟨by rw [H1.out.1, H1.out.2]; rfl, T2⟩
set_option maxHeartbeats 4000000 in
theorem putimers_any (C : TmC T) (g : Nat) (s : Pus) (w : World) (X : Nat → Prop) (hF : PuP T g s w X) (hok : PsOk s) :
    Calls Try.prog 21 #[.pointer (some ⟨g, 0, none⟩)] w fun e w' => ∃ A n c, e = .returned (.slice A n c) ∧ Zs w' A n c (tmKeys s.tm) ∧ Below w.heap.size w w' := by
  obtain ⟨x, Y, h1, ⟨gt, P, n, c, vs, Xt, Xc, h2, rfl⟩, h3, rfl⟩ := hF
  have c0 : w.cell? ⟨g, 0, none⟩ = some (.pointer (some ⟨x, 0, none⟩)) := cell_of_row _ _ _ _ _ _ h1
  have HM := Lib.hid (pumade_any g ⟨x, 0, none⟩ w c0)
  have HK := Lib.hid (C.keys gt s.c.b s.tm w Xt h2.tm hok.2.2.2.2.1 (by have := hok.tlen; omega))
  have c3 := h2.cells.1.2.2.2.1
  clear h1 h2 h3 hok
  go_enter Try.func21, Try.ntmps21
  go_wp2_with (fail)
  refine HM.out.mono ?_
  rintro e w1 ⟨rfl, rfl⟩
  go_wp2_with (fail)
  refine HK.out.mono ?_
  rintro e w1 ⟨A, n', c', rfl, hz, T1⟩
  go_wp2
  go_ret
  exact ⟨A, n', c', rfl, hz, T1⟩
end
set_option maxHeartbeats 1000000 in
theorem punsend_any (A : Option Addr) (n c : Nat) (w : World) : Calls Try.prog 11 #[.pointer none, .slice A n c] w fun e w' => ∃ z P k, e = .returned (.tuple #[.int .i64 z, .slice P 0 k, .int .i64 5]) ∧ Below w.heap.size w w' := by
  have HM := Lib.hid (fun W => punmade_any W)
  go_enter Try.func11, Try.ntmps11
  go_wp2_with (fail)
  refine (HM.out _).mono ?_
  rintro e w1 ⟨rfl, rfl⟩
  go_wp2
  go_ret3
  exact ⟨_, _, _, rfl, Below.refl _ _⟩
set_option maxHeartbeats 1000000 in
theorem punpoll_any (i : Int) (w : World) : Calls Try.prog 18 #[.pointer none, .int .i64 i] w fun e w' => ∃ z, e = .returned (.tuple #[.int .i64 z, .int .i64 5]) ∧ Below w.heap.size w w' := by
  have HM := Lib.hid (fun W => punmade_any W)
  go_enter Try.func18, Try.ntmps18
  go_wp2_with (fail)
  refine (HM.out _).mono ?_
  rintro e w1 ⟨rfl, rfl⟩
  go_wp2
  go_ret2
  exact ⟨_, rfl, Below.refl _ _⟩
set_option maxHeartbeats 1000000 in
theorem puntick_any (w : World) : Calls Try.prog 14 #[.pointer none] w fun e w' => ∃ P k, e = .returned (.slice P 0 k) ∧ Below w.heap.size w w' := by
  have HM := Lib.hid (fun W => punmade_any W)
  go_enter Try.func14, Try.ntmps14
  go_wp2_with (fail)
  refine (HM.out _).mono ?_
  rintro e w1 ⟨rfl, rfl⟩
  go_wp2
  go_ret
  exact ⟨_, _, rfl, Below.refl _ _⟩
set_option maxHeartbeats 1000000 in
theorem puntake_any (a : Bool) (sq : Int) (u : Nat) (A : Option Addr) (n c : Nat) (w : World) : Calls Try.prog 16 #[.pointer none, .agg #[.bool a, .int .i64 sq, .int .u64 (u : Int), .slice A n c]] w fun e w' => ∃ P k, e = .returned (.slice P 0 k) ∧ Below w.heap.size w w' := by
  have HM := Lib.hid (fun W => punmade_any W)
  have HT0 := Lib.hid ((Below.refl _ w).alloc (Nat.le_refl _) (.cells #[.bool a, .int .i64 sq, .int .u64 (u : Int), .slice A n c] 38))
  go_enter Try.func16, Try.ntmps16
  go_wp2_with (fail)
  refine (HM.out _).mono ?_
  rintro e w1 ⟨rfl, rfl⟩
  go_wp2
  go_ret
  exact ⟨_, _, rfl, HT0.out⟩
set_option maxHeartbeats 1000000 in
theorem puntimers_any (w : World) : Calls Try.prog 21 #[.pointer none] w fun e w' => ∃ P k, e = .returned (.slice P 0 k) ∧ Below w.heap.size w w' := by
  have HM := Lib.hid (fun W => punmade_any W)
  go_enter Try.func21, Try.ntmps21
  go_wp2_with (fail)
  refine (HM.out _).mono ?_
  rintro e w1 ⟨rfl, rfl⟩
  go_wp2
  go_ret
  exact ⟨_, _, rfl, Below.refl _ _⟩
end Go.Proofs.Ytncpabnmdofomaa
