/- Contracts of the landed flight (at d887268): At. -/
import Derived.Test.YtgppoapdpgblmaaFlkK1
import Derived.Test.YtgppoapdpgblmaaFliC
namespace Go.Proofs.Ytgppoapdpgblmaa
open Go.RowKit
set_option maxRecDepth 20000

theorem three_off {W : World} {b j S : Nat} {u0 u1 u2 : Value} (h : W.cell? ⟨b, j, none⟩ = some u0 ∧ W.cell? ⟨b, j + 1, none⟩ = some u1 ∧ W.cell? ⟨b, j + 2, none⟩ = some u2) (hb : b ≠ S) (x y z : Value) :
    (((W.setCell ⟨S, 0, none⟩ x).setCell ⟨S, 1, none⟩ y).setCell ⟨S, 2, none⟩ z).cell? ⟨b, j, none⟩ = some u0 ∧ (((W.setCell ⟨S, 0, none⟩ x).setCell ⟨S, 1, none⟩ y).setCell ⟨S, 2, none⟩ z).cell? ⟨b, j + 1, none⟩ = some u1 ∧ (((W.setCell ⟨S, 0, none⟩ x).setCell ⟨S, 1, none⟩ y).setCell ⟨S, 2, none⟩ z).cell? ⟨b, j + 2, none⟩ = some u2 := by
  have o := off3 W S x y z
  have hlt : b < W.heap.size := by
    rcases Nat.lt_or_ge b W.heap.size with h1 | h1
    · exact h1
    · have := h.1
      simp [World.cell?, Array.getElem?_eq_none h1] at this
  exact ⟨(o.cell (p := ⟨b, j, none⟩) hlt hb).trans h.1, (o.cell (p := ⟨b, j + 1, none⟩) hlt hb).trans h.2.1, (o.cell (p := ⟨b, j + 2, none⟩) hlt hb).trans h.2.2⟩
set_option maxHeartbeats 2000000 in
theorem kat_no (g : Nat) (s : Fs) (v0 v1 : Value) (d i : Int) (w : World) (X : Nat → Prop) (h : KPv g s v0 v1 w X) (hno : (fsAt s d i).2 ≠ 0) :
    Calls Try.prog 22 #[.pointer (some ⟨g, 0, none⟩), .int .i64 d, .int .i64 i] w (GivesFn w (fsAt s d i)) := by
  have HF := Lib.hid (fun W (U : Below w.heap.size w W) => kframe_no g s v0 v1 d i W X ((KPv.holds g s v0 v1).below h U) hno)
  have hde : (((fsAt s d i).2 : Int) == 0) = false := by simp; omega
  have hz : (fsAt s d i).1 = (0, [], []) := by
    unfold fsAt flAt at hno ⊢
    repeat' split
    all_goals first | rfl | (rename_i h1 h2; simp_all) | skip
    all_goals (simp_all)
  generalize fsAt s d i = r at *
  obtain ⟨rf, re⟩ := r
  simp only at hde hz
  subst hz
  clear h hno
  go_enter Try.func22, Try.ntmps22
  go_wp2_with (fail)
  refine (HF.out _ ((Below.refl _ w).alloc (Nat.le_refl _) _)).mono ?_
  rintro e w1 ⟨rfl, rfl⟩
  simp only
  go_wp2_with (fail)
  (try simp only [Exit.inBlock, Exit.then])
  refine bodyPost_ret (v := .tuple #[.agg #[.int .i64 0, .slice none 0 0, .slice none 0 0], .int .i64 (re : Int)]) (res_cell_tmp rfl _ _ w.heap.size 40 #[.int .i64 0, .slice none 0 0, .slice none 0 0] (0, 0) _ _ rfl rfl (heap_alloc_new w _) Try.underlying40 rfl (by kernel_rfl)) rfl ?_
  exact ⟨_, _, _, _, rfl, Fre.nil _ _, Fre.nil _ _, (Below.refl _ w).alloc (Nat.le_refl _) _⟩
set_option maxHeartbeats 8000000 in
theorem kat_yes (g : Nat) (s : Fs) (v0 v1 : Value) (d : Int) (i q : Nat) (v o : Value) (l : List Frm) (sent : Nat) (w : World) (X : Nat → Prop) (h : KPv g s v0 v1 w X) (D : Dir s v0 v1 d q v o l sent) (hi : i < l.length) :
    Calls Try.prog 22 #[.pointer (some ⟨g, 0, none⟩), .int .i64 d, .int .i64 (i : Int)] w (GivesFn w (l[i], 0)) := by
  obtain ⟨-, -, hr, -, -, hmem⟩ := h.dir D
  obtain ⟨P, c, rfl, -, -, hrow⟩ := hr.1.shape
  obtain ⟨b, of, rfl, -, hb, -, hel⟩ := hrow (by omega)
  obtain ⟨u1, u2, q0, q1, q2, x1, x2⟩ := hel i hi
  obtain ⟨A1, k1, rfl, B1, -⟩ := x1
  obtain ⟨A2, k2, rfl, B2, -⟩ := x2
  have hm := hmem _ (List.getElem_mem hi)
  have HF := Lib.hid (fun W (U : Below w.heap.size w W) => kframe_yes g s v0 v1 d i q b of l.length c o l sent W X ((KPv.holds g s v0 v1).below h U) D hi)
  have T0 := (Below.refl _ w).alloc (Nat.le_refl _) (.cells #[.int .i64 0, .slice none 0 0, .slice none 0 0] 40)
  generalize l[i] = f at *
  obtain ⟨m1, hm1⟩ : ∃ m, f.2.1.length = m := ⟨_, rfl⟩
  obtain ⟨m2, hm2⟩ : ∃ m, f.2.2.length = m := ⟨_, rfl⟩
  obtain ⟨j, hj⟩ : ∃ j, of + i * 3 = j := ⟨_, rfl⟩
  rw [hm1] at B1 hm q1
  rw [hm2] at B2 hm q2
  rw [hj] at q0 q1 q2 HF
  have HM := Lib.hid (And.intro hm1 hm2)
  have hw1 : (w.alloc (.cells #[.int .i64 0, .slice none 0 0, .slice none 0 0] 40)).heap.size = w.heap.size + 1 := by simp
  have hn0 := heap_alloc_new w (.cells #[.int .i64 0, .slice none 0 0, .slice none 0 0] 40)
  have HW : Hid (∀ W, Below (w.alloc (.cells #[.int .i64 0, .slice none 0 0, .slice none 0 0] 40)).heap.size (w.alloc (.cells #[.int .i64 0, .slice none 0 0, .slice none 0 0] 40)) W →
      (W.cell? ⟨b, j, none⟩ = some (.int .i64 (f.1 : Int)) ∧ W.cell? ⟨b, j + 1, none⟩ = some (.slice A1 m1 k1) ∧ W.cell? ⟨b, j + 2, none⟩ = some (.slice A2 m2 k2)) ∧ Bys W A1 m1 k1 f.2.1 ∧ Bys W A2 m2 k2 f.2.2 ∧ W.heap[w.heap.size]? = some (.cells #[.int .i64 0, .slice none 0 0, .slice none 0 0] 40 (0, 0)) ∧ w.heap.size + 1 ≤ W.heap.size ∧ Below w.heap.size w W) := fun W U => by
    have U' := nxt T0 U
    have := U.size
    exact ⟨⟨(U'.cell (p := ⟨b, j, none⟩) hb).trans q0, (U'.cell (p := ⟨b, j + 1, none⟩) hb).trans q1, (U'.cell (p := ⟨b, j + 2, none⟩) hb).trans q2⟩, B1.below U', B2.below U', (U.block _ (by omega)).trans hn0, by omega, U'⟩
  have HC1 : Hid (∀ W, Bys W A1 m1 k1 f.2.1 → Calls Try.prog 34 #[.slice A1 m1 k1] W (GivesW W f.2.1)) := fun W U => kcopied_any A1 m1 k1 f.2.1 W U (by omega)
  have HC2 : Hid (∀ W, Bys W A2 m2 k2 f.2.2 → Calls Try.prog 34 #[.slice A2 m2 k2] W (GivesW W f.2.2)) := fun W U => kcopied_any A2 m2 k2 f.2.2 W U (by omega)
  have HB := Lib.hid hb
  clear h D hr hrow hel B1 B2 hm q0 q1 q2 hj hi hmem hn0 hw1 hb hm1 hm2
  go_enter Try.func22, Try.ntmps22
  go_wp2_with (fail)
  refine (HF.out _ T0).mono ?_
  rintro e w1 ⟨rfl, rfl⟩
  clear HF T0
  generalize hW1 : w.alloc (.cells #[.int .i64 0, .slice none 0 0, .slice none 0 0] 40) = W1 at *
  have P0 := Below.refl W1.heap.size W1
  obtain ⟨Q0, -, -, R0, -, -⟩ := HW.out W1 P0
  have Q0 := Lib.hid Q0
  clear hW1 R0
  go_wp2_with (fail)
  go_region_held3 (fun w' => w'.cell? ⟨b, j, none⟩ = some (.int .i64 (f.1 : Int)) ∧ w'.cell? ⟨b, j + 1, none⟩ = some (.slice A1 m1 k1) ∧ w'.cell? ⟨b, j + 2, none⟩ = some (.slice A2 m2 k2)) (first | exact Q0.out | exact Q2.out | exact Q4.out | exact Q5.out _ _ _)
    (first
      | (go_at_call_of 34 (Value.slice A1 m1 k1); (with_reducible refine (HC1.out _ (HW.out _ (by first | exact P0 | exact P0.drew)).2.1).mono ?_); rintro e w2 ⟨v2, rfl, hw2, U2⟩; (rw [HM.out.1] at hw2); obtain ⟨C1, d1, rfl⟩ := own_shape hw2; have P2 := nxt (by first | exact P0 | exact P0.drew) U2; have Q2 := Lib.hid (HW.out _ P2).1; have F1 : Hid (Fre w2 (· < W1.heap.size) C1 m1 d1 f.2.1) := Fre.of_own hw2)
      | (go_at_call_of 34 (Value.slice A2 m2 k2); (with_reducible refine (HC2.out _ (HW.out _ (by first | exact P2 | exact P2.drew)).2.2.1).mono ?_); rintro e w4 ⟨v4, rfl, hw4, U4⟩; (rw [HM.out.2] at hw4); obtain ⟨C2, d2, rfl⟩ := own_shape hw4; have P4 := nxt (by first | exact P2 | exact P2.drew) U4; have Q4 := Lib.hid (HW.out _ P4).1; have F2 : Hid (Fre w4 (· < w2.heap.size) C2 m2 d2 f.2.2) := Fre.of_own hw4; have F3 := Lib.hid (F1.out.below U4); have B4 := Lib.hid (HW.out _ P4).2.2.2.1; obtain ⟨z0, z1, z2, y0, y1, y2⟩ := row3 B4.out; have Q5 := Lib.hid (three_off (HW.out _ P4).1 (Nat.ne_of_lt HB.out))))
  go_wp2_with (fail)
  (try simp only [Exit.inBlock, Exit.then])
  refine bodyPost_ret (v := .tuple #[.agg #[.int .i64 (f.1 : Int), .slice C1 m1 d1, .slice C2 m2 d2], .int .i64 0]) (res_cell_tmp rfl _ _ w.heap.size 40 #[.int .i64 (f.1 : Int), .slice C1 m1 d1, .slice C2 m2 d2] (0, 0) _ _ rfl rfl (stored3 B4.out _ _ _) Try.underlying40 rfl (by kernel_rfl)) rfl ?_
  obtain ⟨-, -, -, -, g4, T4⟩ := HW.out _ P4
  have g2 := P2.size
  have g1 : w.heap.size < W1.heap.size := by have := (HW.out _ (Below.refl W1.heap.size W1)).2.2.2.2.1; omega
  have o := off3 w4 w.heap.size (.int .i64 (f.1 : Int)) (.slice C1 m1 d1) (.slice C2 m2 d2)
  have T5 : Below w.heap.size w _ := T4.trans (o.below (fun k hk => by subst hk; exact Nat.le_refl _) (by omega))
  rw [← HM.out.1, ← HM.out.2] at *
  refine ⟨C1, d1, C2, d2, rfl, ?_, ?_, T5⟩
  · exact ((F3.out).off o (fun k hk => by subst hk; exact g1)).imp (fun k hk => by omega)
  · refine ((F2.out).off o (fun k hk => by subst hk; omega)).imp (fun k hk => ?_)
    rcases hk with hk | ⟨hk, p, rfl, rfl⟩
    · omega
    · obtain ⟨b1, o1, e1, hb1, -⟩ := F1.out.bys.at_ hk
      cases e1
      exact hb1
end Go.Proofs.Ytgppoapdpgblmaa
