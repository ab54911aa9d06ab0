/- What kedgeref16's At answers. -/
import Derived.Test.YtgppoapdpgblmaaRfl1
namespace Go.Proofs.Ytgppoapdpgblmaa
open Go.RowKit
set_option maxRecDepth 20000

/-- no frame is told -/
theorem gives_none {r : Frm × Nat} {c : Nat} (w : World) (Y : Nat → Prop) (hr : r = ((0, [], []), c)) : GivesFr w Y r (.returned (.tuple #[.agg #[.int .i64 0, .slice none 0 0, .slice none 0 0], .int .i64 (c : Int)])) (w.alloc (.cells #[.int .i64 0, .slice none 0 0, .slice none 0 0] 40)) := by
  subst hr
  refine ⟨_, _, rfl, tx_nil _ _, tx_nil _ _, ?_⟩
  exact (Below.refl _ w).alloc (Nat.le_refl _) _
set_option maxHeartbeats 4000000 in
theorem rfat_any (g : Nat) (s : Fs) (v0 v1 : Value) (d i : Int) (w : World) (X : Nat → Prop) (h : RFv g s v0 v1 w X) :
    Calls Try.prog 28 #[.pointer (some ⟨g, 0, none⟩), .int .i64 d, .int .i64 i] w (GivesFr w (Yn X g v0 v1) (fsAt s d i)) := by
  by_cases h1 : d < 0
  · have d1 : decide (d < 0) = true := by simpa using h1
    have HZ := Lib.hid (gives_none w (Yn X g v0 v1) (show fsAt s d i = ((0, [], []), 1) by unfold fsAt; rw [if_neg (by omega), if_neg (by omega)]))
    clear h h1
    go_enter Try.func28, Try.ntmps28
    go_wp2_with (fail)
    (try simp only [Exit.inBlock, Exit.then])
    refine bodyPost_ret (v := .tuple #[.agg #[.int .i64 0, .slice none 0 0, .slice none 0 0], .int .i64 1]) (res_cell_tmp rfl _ _ w.heap.size 40 #[.int .i64 0, .slice none 0 0, .slice none 0 0] (0, 0) _ _ rfl rfl (heap_alloc_new w _) Try.underlying40 rfl (by kernel_rfl)) rfl ?_
    exact HZ.out
  by_cases h2 : 1 < d
  · have d1 : decide (d < 0) = false := by simpa using h1
    have d2 : decide (1 < d) = true := by simpa using h2
    have HZ := Lib.hid (gives_none w (Yn X g v0 v1) (show fsAt s d i = ((0, [], []), 1) by unfold fsAt; rw [if_neg (by omega), if_neg (by omega)]))
    clear h h1 h2
    go_enter Try.func28, Try.ntmps28
    go_wp2_with (fail)
    (try simp only [Exit.inBlock, Exit.then])
    refine bodyPost_ret (v := .tuple #[.agg #[.int .i64 0, .slice none 0 0, .slice none 0 0], .int .i64 1]) (res_cell_tmp rfl _ _ w.heap.size 40 #[.int .i64 0, .slice none 0 0, .slice none 0 0] (0, 0) _ _ rfl rfl (heap_alloc_new w _) Try.underlying40 rfl (by kernel_rfl)) rfl ?_
    exact HZ.out
  have hd : d = 0 ∨ d = 1 := by omega
  clear h1 h2
  have hg := h.2.1 g h.1
  have hcs := h.cells
  rcases hd with rfl | rfl
  · have hf : fsAt s 0 i = flAt s.l0 i := rfl
    obtain ⟨P, c, hv, hk1, hk2, hrow⟩ := h.2.2.2.2.1.1.shape
    obtain ⟨c0, c1, c2, c3, c4, c5, -, -⟩ := hcs
    have cc := ((Below.refl _ w).alloc (Nat.le_refl _) (.cells #[.int .i64 0, .slice none 0 0, .slice none 0 0] 40)).cell (p := ⟨g, 2, none⟩) hg |>.trans c2
    rw [hv] at cc
    obtain ⟨n, hn⟩ : ∃ n, s.l0.length = n := ⟨_, rfl⟩
    rw [hn] at cc hk1
    unfold maxLen at hk2
    clear c0 c1 c2 c3 c4 c5
    by_cases h3 : i < 0
    · have d3 : decide (i < 0) = true := by simpa using h3
      have HZ := Lib.hid (gives_none w (Yn X g v0 v1) (show fsAt s 0 i = ((0, [], []), 4) by rw [hf]; unfold flAt; rw [if_neg (by omega)]))
      clear h h3 hrow hv hf
      go_enter Try.func28, Try.ntmps28
      go_wp2_with (fail)
      (try simp only [Exit.inBlock, Exit.then])
      refine bodyPost_ret (v := .tuple #[.agg #[.int .i64 0, .slice none 0 0, .slice none 0 0], .int .i64 4]) (res_cell_tmp rfl _ _ w.heap.size 40 #[.int .i64 0, .slice none 0 0, .slice none 0 0] (0, 0) _ _ rfl rfl (heap_alloc_new w _) Try.underlying40 rfl (by kernel_rfl)) rfl ?_
      exact HZ.out
    by_cases h4 : (n : Int) ≤ i
    · have d3 : decide (i < 0) = false := by simpa using h3
      have d4 : decide ((n : Int) ≤ i) = true := by simpa using h4
      have HZ := Lib.hid (gives_none w (Yn X g v0 v1) (show fsAt s 0 i = ((0, [], []), 4) by rw [hf]; unfold flAt; rw [if_neg (by omega)]))
      clear h h3 h4 hrow hv hf
      go_enter Try.func28, Try.ntmps28
      go_wp2_with (fail)
      (try simp only [Exit.inBlock, Exit.then])
      refine bodyPost_ret (v := .tuple #[.agg #[.int .i64 0, .slice none 0 0, .slice none 0 0], .int .i64 4]) (res_cell_tmp rfl _ _ w.heap.size 40 #[.int .i64 0, .slice none 0 0, .slice none 0 0] (0, 0) _ _ rfl rfl (heap_alloc_new w _) Try.underlying40 rfl (by kernel_rfl)) rfl ?_
      exact HZ.out
    obtain ⟨j, rfl⟩ := Int.eq_ofNat_of_zero_le (show 0 ≤ i by omega)
    have hjl : j < s.l0.length := by omega
    obtain ⟨b, rfl, hob, hb, -, hel⟩ := hrow (by omega)
    obtain ⟨u1, u2, q0, q1, q2, x1, x2⟩ := hel j hjl
    obtain ⟨A1, k1, rfl, _, _⟩ := id x1
    obtain ⟨A2, k2, rfl, _, _⟩ := id x2
    have he : fsAt s 0 (j : Int) = (s.l0[j], 0) := by
      rw [hf]
      unfold flAt
      rw [if_pos (by omega), Int.toNat_natCast, List.getD_eq_getElem?_getD, List.getElem?_eq_getElem hjl]
      rfl
    rw [he]
    have T0 := (Below.refl _ w).alloc (Nat.le_refl _) (.cells #[.int .i64 0, .slice none 0 0, .slice none 0 0] 40)
    have e0 := (T0.cell (p := ⟨b, j * 3, none⟩) hb).trans q0
    have e1 := (T0.cell (p := ⟨b, j * 3 + 1, none⟩) hb).trans q1
    have e2 := (T0.cell (p := ⟨b, j * 3 + 2, none⟩) hb).trans q2
    have d3 : decide ((j : Int) < 0) = false := by simp
    have d4 : decide ((n : Int) ≤ (j : Int)) = false := by simp; omega
    have hjn : (j : Int) < (n : Int) := by omega
    have hbX := (h.2.2.2.2.1.2 b hob)
    have hY : ∀ k, Yn X g v0 v1 k → ((¬ X k ∨ k = g ∨ v1.ownBlock = some k) ∨ k = b) := fun k hk => by
      rcases hk with hk | hk | hk | hk
      · exact .inl (.inl hk)
      · exact .inl (.inr (.inl hk))
      · exact .inr (Option.some.inj (hob.symm.trans hk)).symm
      · exact .inl (.inr (.inr hk))
    have HX := Lib.hid (And.intro (x1.imp (fun k _ hk => hY k hk)) (x2.imp (fun k _ hk => hY k hk)))
    clear h hrow hel x1 x2 hf he q0 q1 q2 T0 hY hbX hob hv
    generalize s.l0[j] = f at *
    obtain ⟨m1, hm1⟩ : ∃ m, f.2.1.length = m := ⟨_, rfl⟩
    obtain ⟨m2, hm2⟩ : ∃ m, f.2.2.length = m := ⟨_, rfl⟩
    rw [hm1] at e1 HX
    rw [hm2] at e2 HX
    clear hm1 hm2
    go_enter Try.func28, Try.ntmps28
    go_wp2_with (fail)
    (try simp only [Exit.inBlock, Exit.then])
    refine bodyPost_ret (v := .tuple #[.agg #[.int .i64 (f.1 : Int), (.slice A1 m1 k1), (.slice A2 m2 k2)], .int .i64 0]) (res_cell_tmp rfl _ _ w.heap.size 40 #[.int .i64 (f.1 : Int), (.slice A1 m1 k1), (.slice A2 m2 k2)] (0, 0) _ _ rfl rfl (heap_alloc_new w _) Try.underlying40 rfl (by kernel_rfl)) rfl ?_
    have T1 := (Below.refl _ w).alloc (Nat.le_refl _) (.cells #[.int .i64 (f.1 : Int), (.slice A1 m1 k1), (.slice A2 m2 k2)] 40)
    exact ⟨_, _, rfl, HX.out.1.below T1, HX.out.2.below T1, T1⟩
  · have hf : fsAt s 1 i = flAt s.l1 i := rfl
    obtain ⟨P, c, hv, hk1, hk2, hrow⟩ := h.2.2.2.2.2.1.shape
    obtain ⟨c0, c1, c2, c3, c4, c5, -, -⟩ := hcs
    have cc := ((Below.refl _ w).alloc (Nat.le_refl _) (.cells #[.int .i64 0, .slice none 0 0, .slice none 0 0] 40)).cell (p := ⟨g, 4, none⟩) hg |>.trans c4
    rw [hv] at cc
    obtain ⟨n, hn⟩ : ∃ n, s.l1.length = n := ⟨_, rfl⟩
    rw [hn] at cc hk1
    unfold maxLen at hk2
    clear c0 c1 c2 c3 c4 c5
    by_cases h3 : i < 0
    · have d3 : decide (i < 0) = true := by simpa using h3
      have HZ := Lib.hid (gives_none w (Yn X g v0 v1) (show fsAt s 1 i = ((0, [], []), 4) by rw [hf]; unfold flAt; rw [if_neg (by omega)]))
      clear h h3 hrow hv hf
      go_enter Try.func28, Try.ntmps28
      go_wp2_with (fail)
      (try simp only [Exit.inBlock, Exit.then])
      refine bodyPost_ret (v := .tuple #[.agg #[.int .i64 0, .slice none 0 0, .slice none 0 0], .int .i64 4]) (res_cell_tmp rfl _ _ w.heap.size 40 #[.int .i64 0, .slice none 0 0, .slice none 0 0] (0, 0) _ _ rfl rfl (heap_alloc_new w _) Try.underlying40 rfl (by kernel_rfl)) rfl ?_
      exact HZ.out
    by_cases h4 : (n : Int) ≤ i
    · have d3 : decide (i < 0) = false := by simpa using h3
      have d4 : decide ((n : Int) ≤ i) = true := by simpa using h4
      have HZ := Lib.hid (gives_none w (Yn X g v0 v1) (show fsAt s 1 i = ((0, [], []), 4) by rw [hf]; unfold flAt; rw [if_neg (by omega)]))
      clear h h3 h4 hrow hv hf
      go_enter Try.func28, Try.ntmps28
      go_wp2_with (fail)
      (try simp only [Exit.inBlock, Exit.then])
      refine bodyPost_ret (v := .tuple #[.agg #[.int .i64 0, .slice none 0 0, .slice none 0 0], .int .i64 4]) (res_cell_tmp rfl _ _ w.heap.size 40 #[.int .i64 0, .slice none 0 0, .slice none 0 0] (0, 0) _ _ rfl rfl (heap_alloc_new w _) Try.underlying40 rfl (by kernel_rfl)) rfl ?_
      exact HZ.out
    obtain ⟨j, rfl⟩ := Int.eq_ofNat_of_zero_le (show 0 ≤ i by omega)
    have hjl : j < s.l1.length := by omega
    obtain ⟨b, rfl, hob, hb, -, hel⟩ := hrow (by omega)
    obtain ⟨u1, u2, q0, q1, q2, x1, x2⟩ := hel j hjl
    obtain ⟨A1, k1, rfl, _, _⟩ := id x1
    obtain ⟨A2, k2, rfl, _, _⟩ := id x2
    have he : fsAt s 1 (j : Int) = (s.l1[j], 0) := by
      rw [hf]
      unfold flAt
      rw [if_pos (by omega), Int.toNat_natCast, List.getD_eq_getElem?_getD, List.getElem?_eq_getElem hjl]
      rfl
    rw [he]
    have T0 := (Below.refl _ w).alloc (Nat.le_refl _) (.cells #[.int .i64 0, .slice none 0 0, .slice none 0 0] 40)
    have e0 := (T0.cell (p := ⟨b, j * 3, none⟩) hb).trans q0
    have e1 := (T0.cell (p := ⟨b, j * 3 + 1, none⟩) hb).trans q1
    have e2 := (T0.cell (p := ⟨b, j * 3 + 2, none⟩) hb).trans q2
    have d3 : decide ((j : Int) < 0) = false := by simp
    have d4 : decide ((n : Int) ≤ (j : Int)) = false := by simp; omega
    have hjn : (j : Int) < (n : Int) := by omega
    have hbX := (h.2.2.2.2.2.2 b hob)
    have hY : ∀ k, Yn X g v0 v1 k → ((¬ X k ∨ k = g ∨ v0.ownBlock = some k) ∨ k = b) := fun k hk => by
      rcases hk with hk | hk | hk | hk
      · exact .inl (.inl hk)
      · exact .inl (.inr (.inl hk))
      · exact .inl (.inr (.inr hk))
      · exact .inr (Option.some.inj (hob.symm.trans hk)).symm
    have HX := Lib.hid (And.intro (x1.imp (fun k _ hk => hY k hk)) (x2.imp (fun k _ hk => hY k hk)))
    clear h hrow hel x1 x2 hf he q0 q1 q2 T0 hY hbX hob hv
    generalize s.l1[j] = f at *
    obtain ⟨m1, hm1⟩ : ∃ m, f.2.1.length = m := ⟨_, rfl⟩
    obtain ⟨m2, hm2⟩ : ∃ m, f.2.2.length = m := ⟨_, rfl⟩
    rw [hm1] at e1 HX
    rw [hm2] at e2 HX
    clear hm1 hm2
    go_enter Try.func28, Try.ntmps28
    go_wp2_with (fail)
    (try simp only [Exit.inBlock, Exit.then])
    refine bodyPost_ret (v := .tuple #[.agg #[.int .i64 (f.1 : Int), (.slice A1 m1 k1), (.slice A2 m2 k2)], .int .i64 0]) (res_cell_tmp rfl _ _ w.heap.size 40 #[.int .i64 (f.1 : Int), (.slice A1 m1 k1), (.slice A2 m2 k2)] (0, 0) _ _ rfl rfl (heap_alloc_new w _) Try.underlying40 rfl (by kernel_rfl)) rfl ?_
    have T1 := (Below.refl _ w).alloc (Nat.le_refl _) (.cells #[.int .i64 (f.1 : Int), (.slice A1 m1 k1), (.slice A2 m2 k2)] 40)
    exact ⟨_, _, rfl, HX.out.1.below T1, HX.out.2.below T1, T1⟩
end Go.Proofs.Ytgppoapdpgblmaa
