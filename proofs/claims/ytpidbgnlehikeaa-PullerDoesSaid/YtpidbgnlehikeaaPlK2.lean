/- Package puller, as landed: made, New, State, Kept, and what a nil one answers. -/
import Derived.Test.YtpidbgnlehikeaaPlK1
namespace Go.Proofs.Ytpidbgnlehikeaa
open Go.RowKit
set_option maxRecDepth 20000

set_option maxHeartbeats 1000000 in
theorem plmade_any (g : Nat) (p : Addr) (w : World) (h : w.cell? ⟨g, 0, none⟩ = some (.pointer (some p))) :
    Calls Try.prog 26 #[.pointer (some ⟨g, 0, none⟩)] w fun e w' => e = .returned (.bool true) ∧ w = w' := by
  go_enter Try.func26, Try.ntmps26
  go_wp2
  go_ret
  exact ⟨rfl, rfl⟩
theorem plnmade_any (w : World) :
    Calls Try.prog 26 #[.pointer none] w fun e w' => e = .returned (.bool false) ∧ w = w' := by
  go_enter Try.func26, Try.ntmps26
  go_wp2
  go_ret
  exact ⟨rfl, rfl⟩
theorem row2f {w : World} {g : Nat} {t : TypeId} {a b : Value} (h : w.heap[g]? = some (.cells #[a, b] t (0, 0))) : (w.cell? ⟨g, 0, none⟩ = some a ∧ w.cell? ⟨g, 1, none⟩ = some b) ∧ w.frozen? ⟨g, 0, none⟩ = false ∧ w.frozen? ⟨g, 1, none⟩ = false :=
  ⟨⟨cell_of_row _ _ _ _ _ _ h, cell_of_row _ _ _ _ _ _ h⟩, frozen_of_row _ _ _ _ _ h, frozen_of_row _ _ _ _ _ h⟩
theorem below2 {B : Nat} {u w : World} (U : Below B u w) {g : Nat} (hg : B ≤ g) (a' b' : Value) : Below B u ((w.setCell ⟨g, 0, none⟩ a').setCell ⟨g, 1, none⟩ b') :=
  (U.setCell (p := ⟨g, 0, none⟩) hg a').setCell (p := ⟨g, 1, none⟩) hg b'
theorem stored2 {w : World} {g : Nat} {t : TypeId} {a b : Value} (h : w.heap[g]? = some (.cells #[a, b] t (0, 0))) (a' b' : Value) : ((w.setCell ⟨g, 0, none⟩ a').setCell ⟨g, 1, none⟩ b').heap[g]? = some (.cells #[a', b'] t (0, 0)) :=
  heap_setCell_same _ _ _ _ _ _ (heap_setCell_same _ _ _ _ _ _ h)
section
variable {Q : Nat → Nat → List (List UInt8) → World → (Nat → Prop) → Prop}
set_option maxHeartbeats 8000000 in
theorem plstate_any (C : QuC Q) (g : Nat) (s : Pls) (w : World) (X : Nat → Prop) (hF : PlP Q g s w X) :
    Calls Try.prog 17 #[.pointer (some ⟨g, 0, none⟩)] w fun e w' => e = .returned (.agg #[.int .i64 (s.ent : Int), .int .i64 (s.ret : Int)]) ∧ Below w.heap.size w w' := by
  obtain ⟨x, Y, h1, ⟨gq, m, Xq, Xl, h2, rfl⟩, h3, rfl, h4, h5⟩ := hF
  have HAC : Hid (∀ W, Below w.heap.size w W → Calls Try.prog 36 #[.pointer (some ⟨gq, 0, none⟩)] W fun e w' => e = .returned (.int .i64 (s.ls.length : Int)) ∧ Below W.heap.size W w') := fun W U =>
    C.len gq _ s.ls W Xq (h2.below C U).2.1
  have HC : Hid (∀ W, Below w.heap.size w W → W.cell? ⟨g, 0, none⟩ = some (.pointer (some ⟨x, 0, none⟩)) ∧ W.cell? ⟨x, 2, none⟩ = some (.pointer (some ⟨gq, 0, none⟩)) ∧ W.cell? ⟨x, 4, none⟩ = some (.int .i64 (s.ent : Int))) := fun W U => by
    have h := (h2.below C U).cells.1
    exact ⟨cell_of_row _ _ _ _ _ _ ((U.block g (lt_row h1)).trans h1), h.2.2.1, h.2.2.2.2⟩
  have T0 := (Below.refl _ w).alloc (Nat.le_refl _) (.cells #[.int .i64 0, .int .i64 0] 48)
  have n0 := heap_alloc_new w (.cells #[.int .i64 0, .int .i64 0] 48)
  have HM := Lib.hid (plmade_any g ⟨x, 0, none⟩ _ (HC.out _ T0).1)
  have HT0 := Lib.hid T0
  have HN0 := Lib.hid n0
  have ew : IntKind.i64.wrap ((s.ent : Int) - (s.ls.length : Int)) = (s.ret : Int) := by rw [show (s.ent : Int) - (s.ls.length : Int) = (s.ret : Int) by omega]; exact IntWalk.i64_in _ (by omega)
  clear h1 h2 h3 T0 n0
  obtain ⟨N, hN⟩ : ∃ N, s.ls.length = N := ⟨_, rfl⟩
  rw [hN] at HAC ew
  clear hN h4 h5
  go_enter Try.func17, Try.ntmps17
  go_wp2_with (fail)
  refine HM.out.mono ?_
  rintro e w1 ⟨rfl, rfl⟩
  generalize w.alloc (.cells #[.int .i64 0, .int .i64 0] 48) = W1 at *
  go_wp2_with (fail)
  have P0 := Lib.hid (Below.refl W1.heap.size W1)
  have hW1 := lt_row HN0.out
  go_region_held3 (fun w' => w'.cell? ⟨g, 0, none⟩ = some (.pointer (some ⟨x, 0, none⟩)) ∧ w'.cell? ⟨x, 2, none⟩ = some (.pointer (some ⟨gq, 0, none⟩)) ∧ w'.cell? ⟨x, 4, none⟩ = some (.int .i64 (s.ent : Int))) (first | (with_reducible exact HC.out _ HT0.out) | (with_reducible exact HC.out _ HT1.out) | (with_reducible exact HC.out _ HT2.out) | exact HC.out _ HT0.out.drew | (have q := HC.out _ HT0.out; exact q))
    (first
      | (go_at_call 36; (with_reducible refine (HAC.out _ (by first | exact HT0.out | exact HT0.out.drew)).mono ?_); rintro e w2 ⟨rfl, U2⟩; have P1 : Hid (Below W1.heap.size W1 w2) := (by first | exact U2 | exact undrew U2); have HT1 := Lib.hid (HT0.out.trans (P1.out.mono HT0.out.size)); have HN1 := Lib.hid ((P1.out.block _ hW1).trans HN0.out); obtain ⟨⟨k0, k1⟩, f0, f1⟩ := row2f HN1.out; have HT2 := Lib.hid (below2 HT1.out (Nat.le_refl _) (.int .i64 (s.ent : Int)) (.int .i64 (s.ret : Int)))))
  all_goals
    go_wp2_with (fail)
    refine bodyPost_ret (v := .agg #[.int .i64 (s.ent : Int), .int .i64 (s.ret : Int)]) (results_cell_row rfl _ _ w.heap.size 48 #[.int .i64 (s.ent : Int), .int .i64 (s.ret : Int)] (0, 0) _ rfl (stored2 HN1.out _ _) Try.underlying48 rfl (by kernel_rfl)) rfl ?_
    exact ⟨rfl, HT2.out⟩
set_option maxHeartbeats 4000000 in
theorem plkept_any (C : QuC Q) (g : Nat) (s : Pls) (w : World) (X : Nat → Prop) (hF : PlP Q g s w X) :
    Calls Try.prog 20 #[.pointer (some ⟨g, 0, none⟩)] w fun e w' => ∃ P n c, e = .returned (.slice P n c) ∧ RFre w' (· < w.heap.size) P n c s.ls ∧ Below w.heap.size w w' := by
  obtain ⟨x, Y, h1, ⟨gq, m, Xq, Xl, h2, rfl⟩, h3, rfl, -⟩ := hF
  have c0 : w.cell? ⟨g, 0, none⟩ = some (.pointer (some ⟨x, 0, none⟩)) := cell_of_row _ _ _ _ _ _ h1
  have HM := Lib.hid (plmade_any g ⟨x, 0, none⟩ w c0)
  have d2 := h2.cells.1.2.2.1
  have HA := Lib.hid (C.all gq _ s.ls w Xq h2.2.1)
  clear h1 h2 h3
  go_enter Try.func20, Try.ntmps20
  go_wp2_with (fail)
  refine HM.out.mono ?_
  rintro e w1 ⟨rfl, rfl⟩
  go_wp2_with (fail)
  refine HA.out.mono ?_
  rintro e w2 ⟨P, n, c, rfl, hr, T⟩
  have HE := Lib.hid (And.intro hr T)
  clear hr T
  go_wp2
  go_ret
  exact ⟨_, _, _, rfl, HE.out⟩
set_option maxHeartbeats 4000000 in
theorem plnew_no (C : QuC Q) (c : Cfg) (w : World) (hi : CfI c) (h : plNew c ≠ 0) :
    Calls Try.prog 8 #[cfgV c] w fun e w' => e = .returned (.tuple #[.pointer none, .int .i64 (plNew c)]) ∧ Below w.heap.size w w' := by
  unfold cfgV
  have hib := hi.2.2.2.2.2.1
  clear hi
  obtain ⟨eng, cw, cm, cl, cb, room, beg⟩ := c
  simp only at *
  have T0 := (Below.refl _ w).alloc (Nat.le_refl _) (.cells #[.int .i64 eng, .int .i64 cw, .int .i64 cm, .int .i64 cl, .int .i64 cb, .int .i64 room, .int .u64 (beg : Int)] 24)
  have hn := heap_alloc_new w (.cells #[.int .i64 eng, .int .i64 cw, .int .i64 cm, .int .i64 cl, .int .i64 cb, .int .i64 room, .int .u64 (beg : Int)] 24)
  obtain ⟨c0, c1, c2, c3, c4, c5, c6⟩ := row7 hn
  have HK := Lib.hid (fun W => rgcheck_any cw cm cl W)
  unfold plNew at *
  simp only at *
  have HT0 := Lib.hid T0
  have HB := Lib.hid (lt_row hn)
  clear hn T0
  by_cases h1 : rgCheck cw cm cl = 0
  · rw [h1] at HK h
    rw [h1]
    simp only [ne_eq, not_true_eq_false, if_false] at h ⊢
    by_cases h2 : room < 1 ∨ 16 < room
    · rw [if_pos h2]
      have HN := Lib.hid (fun W => C.new_no room W hib h2)
      clear h h2 h1
      go_enter Try.func8, Try.ntmps8
      go_wp2_with (fail)
      refine (HK.out _).mono ?_
      rintro e w1 ⟨rfl, rfl⟩
      go_wp2_with (fail)
      refine (HN.out _).mono ?_
      rintro e w1 ⟨rfl, T1⟩
      have T2 := nxt HT0.out T1
      go_wp2
      go_ret2
      exact ⟨rfl, T2⟩
    · exact absurd (if_neg h2) h
  · rw [if_pos h1]
    have d1 : (rgCheck cw cm cl != 0) = true := by simpa using h1
    generalize rgCheck cw cm cl = z at *
    clear h h1
    go_enter Try.func8, Try.ntmps8
    go_wp2_with (fail)
    refine (HK.out _).mono ?_
    rintro e w1 ⟨rfl, rfl⟩
    go_wp2
    go_ret2
    exact ⟨rfl, HT0.out⟩
set_option maxHeartbeats 4000000 in
theorem plnew_yes (C : QuC Q) (c : Cfg) (w : World) (h : plNew c = 0) :
    Calls Try.prog 8 #[cfgV c] w fun e w' => ∃ g X, e = .returned (.tuple #[.pointer (some ⟨g, 0, none⟩), .int .i64 0]) ∧ PlP Q g ⟨c, [], [], 0, 0⟩ w' X ∧ (∀ k, X k → w.heap.size ≤ k) ∧ Below w.heap.size w w' := by
  have hok := plNew_ok h
  unfold cfgV
  obtain ⟨eng, cw, cm, cl, cb, room, beg⟩ := c
  obtain ⟨k1, k2, k3, k4⟩ := hok
  simp only at k4
  obtain ⟨rm, rfl⟩ : ∃ rm : Nat, room = (rm : Int) := ⟨room.toNat, by omega⟩
  have T0 := (Below.refl _ w).alloc (Nat.le_refl _) (.cells #[.int .i64 eng, .int .i64 cw, .int .i64 cm, .int .i64 cl, .int .i64 cb, .int .i64 (rm : Int), .int .u64 (beg : Int)] 24)
  have hn := heap_alloc_new w (.cells #[.int .i64 eng, .int .i64 cw, .int .i64 cm, .int .i64 cl, .int .i64 cb, .int .i64 (rm : Int), .int .u64 (beg : Int)] 24)
  have HK := Lib.hid (fun W => rgcheck_any cw cm cl W)
  have hz : rgCheck cw cm cl = 0 := by
    unfold plNew at h
    simp only at h
    by_cases e : rgCheck cw cm cl = 0
    · exact e
    · rw [if_pos e] at h; exact h
  rw [hz] at HK
  have HN := Lib.hid (fun W => C.new_yes rm W (by omega) (by omega))
  have HT0 := Lib.hid T0
  have HH := Lib.hid hn
  have hmm := @run_makeMap Try.prog
  clear hn T0 h hz k1 k2 k3 k4
  have hr := HH.out
  obtain ⟨c0, c1, c2, c3, c4, c5, c6⟩ := row7 hr
  clear hr
  go_enter Try.func8, Try.ntmps8
  go_wp2_with (fail)
  refine (HK.out _).mono ?_
  rintro e w1 ⟨rfl, rfl⟩
  go_wp2_with (fail)
  refine (HN.out _).mono ?_
  rintro e w1 ⟨gq, Xq, rfl, q1, x1, T1⟩
  have Q1 := Lib.hid q1
  have hr := (T1.block _ (lt_row HH.out)).trans HH.out
  clear c0 c1 c2 c3 c4 c5 c6
  obtain ⟨c0, c1, c2, c3, c4, c5, c6⟩ := row7 hr
  have T2 := nxt HT0.out T1
  have hs0 := HT0.out.size
  clear q1 hr
  go_wp2
  go_ret2
  have hlt := (C.holds _ _ _).lt Q1.out
  have hsm : (w1.alloc (.map #[] 0)).heap.size = w1.heap.size + 1 := by simp
  have U0 := (Below.refl _ w1).alloc (Nat.le_refl _) (.map #[] 0)
  have U1 := (Below.refl _ (w1.alloc (.map #[] 0))).alloc (Nat.le_refl _) (.cells (plcells gq w1.heap.size ⟨⟨eng, cw, cm, cl, cb, (rm : Int), beg⟩, [], [], 0, 0⟩) 73)
  have hE : PeV Q (w1.heap.size + 1) gq w1.heap.size ⟨⟨eng, cw, cm, cl, cb, (rm : Int), beg⟩, [], [], 0, 0⟩ Xq (· = w1.heap.size) ((w1.alloc (.map #[] 0)).alloc (.cells (plcells gq w1.heap.size ⟨⟨eng, cw, cm, cl, cb, (rm : Int), beg⟩, [], [], 0, 0⟩) 73)) :=
    ⟨by have := heap_alloc_new (w1.alloc (.map #[] 0)) (.cells (plcells gq w1.heap.size ⟨⟨eng, cw, cm, cl, cb, (rm : Int), beg⟩, [], [], 0, 0⟩) 73); rw [hsm] at this; exact this, (C.holds _ _ _).below ((C.holds _ _ _).below Q1.out U0) U1, (LtP.holds _ _).below (LtP.made w1) U1, fun h => by have := hlt _ h; omega, fun h => by have h : w1.heap.size + 1 = w1.heap.size := h; omega, fun k hk h => by have := hlt _ hk; omega⟩
  have hse : ((w1.alloc (.map #[] 0)).alloc (.cells (plcells gq w1.heap.size ⟨⟨eng, cw, cm, cl, cb, (rm : Int), beg⟩, [], [], 0, 0⟩) 73)).heap.size = w1.heap.size + 2 := by simp
  have U2 := (Below.refl _ ((w1.alloc (.map #[] 0)).alloc (.cells (plcells gq w1.heap.size ⟨⟨eng, cw, cm, cl, cb, (rm : Int), beg⟩, [], [], 0, 0⟩) 73))).alloc (Nat.le_refl _) (.cells #[.pointer (some ⟨w1.heap.size + 1, 0, none⟩)] 75)
  have hg := heap_alloc_new ((w1.alloc (.map #[] 0)).alloc (.cells (plcells gq w1.heap.size ⟨⟨eng, cw, cm, cl, cb, (rm : Int), beg⟩, [], [], 0, 0⟩) 73)) (.cells #[.pointer (some ⟨w1.heap.size + 1, 0, none⟩)] 75)
  rw [hse] at hg
  have hE2 := hE.below C U2
  have hEl := hE.lt C
  refine ⟨w1.heap.size + 2, _, rfl, ⟨w1.heap.size + 1, _, hg, ⟨gq, w1.heap.size, Xq, _, hE2, rfl⟩, fun hk => by have := hEl _ hk; omega, rfl, rfl, by show 0 ≤ 300000; omega⟩, fun k hk => ?_, nxt (nxt (nxt T2 U0) U1) U2⟩
  have hw1 := T2.size
  rcases hk with rfl | rfl | hk | hk
  · omega
  · omega
  · have := x1 k hk; omega
  · have hk : k = w1.heap.size := hk
    omega
end
set_option maxHeartbeats 1000000 in
theorem plntake_any (a : Bool) (sq : Int) (u : Nat) (A : Option Addr) (n c : Nat) (w : World) : Calls Try.prog 12 #[.pointer none, .agg #[.bool a, .int .i64 sq, .int .u64 (u : Int), .slice A n c]] w fun e w' => ∃ P k, e = .returned (.slice P 0 k) ∧ Below w.heap.size w w' := by
  have HM := Lib.hid (fun W => plnmade_any W)
  have HT0 := Lib.hid ((Below.refl _ w).alloc (Nat.le_refl _) (.cells #[.bool a, .int .i64 sq, .int .u64 (u : Int), .slice A n c] 38))
  go_enter Try.func12, Try.ntmps12
  go_wp2_with (fail)
  refine (HM.out _).mono ?_
  rintro e w1 ⟨rfl, rfl⟩
  go_wp2
  go_ret
  exact ⟨_, _, rfl, HT0.out⟩
set_option maxHeartbeats 1000000 in
theorem plnrecv_any (w : World) : Calls Try.prog 14 #[.pointer none] w fun e w' => ∃ v u, e = .returned (.tuple #[v, u, .bool false]) ∧ Below w.heap.size w w' := by
  have HM := Lib.hid (fun W => plnmade_any W)
  go_enter Try.func14, Try.ntmps14
  go_wp2_with (fail)
  refine (HM.out _).mono ?_
  rintro e w1 ⟨rfl, rfl⟩
  go_wp2
  go_ret3
  exact ⟨_, _, rfl, Below.refl _ _⟩
set_option maxHeartbeats 1000000 in
theorem plnkept_any (w : World) : Calls Try.prog 20 #[.pointer none] w fun e w' => ∃ P k, e = .returned (.slice P 0 k) ∧ Below w.heap.size w w' := by
  have HM := Lib.hid (fun W => plnmade_any W)
  go_enter Try.func20, Try.ntmps20
  go_wp2_with (fail)
  refine (HM.out _).mono ?_
  rintro e w1 ⟨rfl, rfl⟩
  go_wp2
  go_ret
  exact ⟨_, _, rfl, Below.refl _ _⟩
set_option maxHeartbeats 2000000 in
theorem plnstate_any (w : World) : Calls Try.prog 17 #[.pointer none] w fun e w' => e = .returned (.agg #[.int .i64 0, .int .i64 0]) ∧ Below w.heap.size w w' := by
  have T0 := (Below.refl _ w).alloc (Nat.le_refl _) (.cells #[.int .i64 0, .int .i64 0] 48)
  have n0 := heap_alloc_new w (.cells #[.int .i64 0, .int .i64 0] 48)
  obtain ⟨⟨k0, k1⟩, f0, f1⟩ := row2f n0
  have HN0 := Lib.hid n0
  have HT2 := Lib.hid (below2 T0 (Nat.le_refl _) (.int .i64 0) (.int .i64 0))
  have HM := Lib.hid (plnmade_any (w.alloc (.cells #[.int .i64 0, .int .i64 0] 48)))
  clear T0 n0
  go_enter Try.func17, Try.ntmps17
  go_wp2_with (fail)
  refine HM.out.mono ?_
  rintro e w1 ⟨rfl, rfl⟩
  generalize w.alloc (.cells #[.int .i64 0, .int .i64 0] 48) = W1 at *
  go_wp2_with (fail)
  refine bodyPost_ret (v := .agg #[.int .i64 0, .int .i64 0]) (results_cell_row rfl _ _ w.heap.size 48 #[.int .i64 0, .int .i64 0] (0, 0) _ rfl (stored2 HN0.out _ _) Try.underlying48 rfl (by kernel_rfl)) rfl ?_
  exact ⟨rfl, HT2.out⟩
end Go.Proofs.Ytpidbgnlehikeaa
