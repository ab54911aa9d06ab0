/- What layer 8's law's own live answers over the contracts of phase and corr. -/
import Derived.Test.YtmpelpmgpklidaaCorrC
namespace Go.Proofs.Ytmpelpmgpklidaa
open Go.RowKit

theorem near_mid {p : Pt} (h : Near p) : Mid p := by unfold Near at h; unfold Mid; omega
/-- Of's call, as a place of its own: the slice and what it reads as -/
theorem of_at (C : PhC) (A : Option Addr) (n c : Nat) (l : List Pt) (w : World) (hP : Ps w A n c l) (hn : n ≤ 1000000) (hM : ∀ p ∈ l, Near p) :
    Calls Try.prog 10 #[.slice A n c] w fun e w' => ∃ A' c', e = .returned (.slice A' n c') ∧ Cs w' A' n c' l ∧ Below w.heap.size w w' := by
  refine (lof_any C A n c l w hP hn (fun p hp => near_mid (hM p hp))).mono ?_
  rintro e w' ⟨v, rfl, hown, T⟩
  obtain ⟨A', c', hv, hcs⟩ := hown.shape
  rw [hP.len] at hv hcs
  exact ⟨A', c', by rw [hv], hcs, T⟩
theorem live_find : FindR [(5, 0), (1, 1), (1, -1)] [(-1, 1), (1, 1)] 1 3 true :=
  .inl ⟨rfl, by decide, by decide, by decide, by unfold St; decide +kernel, by unfold St; decide +kernel, by unfold St; decide +kernel⟩
theorem live_dot : dotP [(1, 1)] [(1, 1)] = (2, 0) := by decide +kernel
set_option maxHeartbeats 4000000 in
theorem live08_any (C : PhC) (D : CoC) (w : World) : Calls Try.prog 8 #[] w fun e w' => e = .returned (.bool true) ∧ Below w.heap.size w w' := by
  have HP1 : Hid (∀ (W : World), Ps (W.alloc (.cells #[.int .i64 1, .int .i64 1] 30)) (some ⟨W.heap.size, 0, none⟩) 1 1 [(1, 1)]) := fun W => Ps.lit W [(1, 1)] _ (by decide)
  have HP3 : Hid (∀ (W : World) (g : Nat), W.heap.size = g → Ps (W.alloc (.cells #[.int .i64 5, .int .i64 0, .int .i64 1, .int .i64 1, .int .i64 1, .int .i64 (-1)] 30)) (some ⟨g, 0, none⟩) 3 3 [(5, 0), (1, 1), (1, -1)]) := fun W g h => by subst h; exact Ps.lit W [(5, 0), (1, 1), (1, -1)] _ (by decide)
  have HP2 : Hid (∀ (W : World), Ps (W.alloc (.cells #[.int .i64 (-1), .int .i64 1, .int .i64 1, .int .i64 1] 30)) (some ⟨W.heap.size, 0, none⟩) 2 2 [(-1, 1), (1, 1)]) := fun W => Ps.lit W [(-1, 1), (1, 1)] _ (by decide)
  have N1 : Hid (∀ p ∈ [((1, 1) : Pt)], Near p) := by intro p hp; simp only [List.mem_cons, List.not_mem_nil, or_false] at hp; rcases hp with rfl; unfold Near; decide
  have N2 : Hid (∀ p ∈ [((-1, 1) : Pt), (1, 1)], Near p) := by intro p hp; simp only [List.mem_cons, List.not_mem_nil, or_false] at hp; rcases hp with rfl | rfl <;> (unfold Near; decide)
  have N3 : Hid (∀ p ∈ [((5, 0) : Pt), (1, 1), (1, -1)], Near p) := by intro p hp; simp only [List.mem_cons, List.not_mem_nil, or_false] at hp; rcases hp with rfl | rfl | rfl <;> (unfold Near; decide)
  have H1 := Lib.hid (HP1.out w)
  have T0 : Below w.heap.size w (w.alloc (.cells #[.int .i64 1, .int .i64 1] 30)) := (Below.refl _ _).alloc (Nat.le_refl _) _
  go_enter Try.func8, Try.ntmps8
  go_wp2_with (fail)
  refine (of_at C (some ⟨w.heap.size + 1, 0, none⟩) 3 3 [(5, 0), (1, 1), (1, -1)] _ (HP3.out (w.alloc (.cells #[.int .i64 1, .int .i64 1] 30)) (w.heap.size + 1) (by simp)) (by decide) N3.out).mono ?_
  rintro e w1 ⟨A1, c1, rfl, hc1, T1⟩
  have K1 := (((Below.refl (w.alloc (.cells #[.int .i64 1, .int .i64 1] 30)).heap.size (w.alloc (.cells #[.int .i64 1, .int .i64 1] 30))).alloc (Nat.le_refl _) (.cells #[.int .i64 5, .int .i64 0, .int .i64 1, .int .i64 1, .int .i64 1, .int .i64 (-1)] 30))).trans (T1.mono (by simp))
  have T1 := nxt T0 K1
  have HO1 := Lib.hid (H1.out.below K1)
  have HC1 := Lib.hid hc1
  clear hc1 K1
  go_wp2_with (fail)
  refine (of_at C (some ⟨w1.heap.size, 0, none⟩) 2 2 [(-1, 1), (1, 1)] _ (HP2.out w1) (by decide) N2.out).mono ?_
  rintro e w2 ⟨A2, c2, rfl, hc2, T2⟩
  have K2 := ((Below.refl w1.heap.size w1).alloc (Nat.le_refl _) (.cells #[.int .i64 (-1), .int .i64 1, .int .i64 1, .int .i64 1] 30)).trans (T2.mono (by simp))
  have T2 := nxt T1 K2
  have HC2 := Lib.hid (HC1.out.below K2)
  have HM2 := Lib.hid hc2
  have HO2 := Lib.hid (HO1.out.below K2)
  clear hc2 K2
  go_wp2_with (fail)
  refine (D.find A1 3 c1 [(5, 0), (1, 1), (1, -1)] A2 2 c2 [(-1, 1), (1, 1)] w2 HC2.out HM2.out N3.out N2.out (by decide) (by decide)).mono ?_
  rintro e w3 ⟨a, t, ok, rfl, hf, T3⟩
  obtain ⟨rfl, rfl, rfl⟩ := hf.unique live_find
  have HO3 := Lib.hid (HO2.out.below T3)
  have T3 := nxt T2 T3
  clear hf
  go_wp2_with (fail)
  refine (of_at C (some ⟨w.heap.size, 0, none⟩) 1 1 [(1, 1)] w3 HO3.out (by decide) N1.out).mono ?_
  rintro e w4 ⟨A4, c4, rfl, hc4, T4⟩
  have HO4 := Lib.hid (HO3.out.below T4)
  have HC4 := Lib.hid hc4
  have T4 := nxt T3 T4
  clear hc4
  go_wp2_with (fail)
  refine (of_at C (some ⟨w.heap.size, 0, none⟩) 1 1 [(1, 1)] w4 HO4.out (by decide) N1.out).mono ?_
  rintro e w5 ⟨A5, c5, rfl, hc5, T5⟩
  have HC5 := Lib.hid (HC4.out.below T5)
  have HD5 := Lib.hid hc5
  have T5 := nxt T4 T5
  clear hc5
  go_wp2_with (fail)
  refine (D.dot A4 1 c4 [(1, 1)] A5 1 c5 [(1, 1)] w5 HC5.out HD5.out N1.out N1.out (by decide) (by decide)).mono ?_
  rintro e w6 ⟨x, y, rfl, hx, hy, T6⟩
  rw [live_dot] at hx hy
  have HPA := Lib.hid (fun W => C.parts x y (2, 0) W hx hy ⟨by decide, by decide, by decide, by decide⟩)
  have T6 := nxt T5 T6
  clear hx hy
  go_wp2_with (fail)
  refine (HPA.out _).mono ?_
  rintro e w7 ⟨rfl, T7⟩
  have T7 := nxt T6 T7
  go_wp2
  go_ret
  exact ⟨rfl, T7⟩
end Go.Proofs.Ytmpelpmgpklidaa
