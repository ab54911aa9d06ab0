/- Package hearer, as landed: Tick, State, Kept; what a Hearer that is none answers. -/
import Derived.Test.YtpdnpfohcnpenaaHeK1
namespace Go.Proofs.Ytpdnpfohcnpenaa
open Go.RowKit
set_option maxRecDepth 20000

set_option maxHeartbeats 4000000 in
theorem hetick_any (g : Nat) (s : Hs) (w : World) (X : Nat → Prop) (hF : HeP g s w X) (hok : HeOk s) :
    Calls Try.prog 13 #[.pointer (some ⟨g, 0, none⟩)] w (GivesPks (HeP g (heTick s)) X (heTickL s) w) := by
  obtain ⟨ge, gq, gl, gt, Xq, Xt, h1, h2, h3, rfl⟩ := hF
  have c0 : w.cell? ⟨g, 0, none⟩ = some (.pointer (some ⟨ge, 0, none⟩)) := cell_of_row _ _ _ _ _ _ h1
  have HM := Lib.hid (hemade_any g ⟨ge, 0, none⟩ w c0)
  obtain ⟨d0, d1, -, -, -, -⟩ := h2.cells
  have HA := Lib.hid (ldask_any gl s.o s.k w hok.2.1 h2.2.2.1)
  have HV2 := Lib.hid (fun w2 (l2 : LedP w2 gl (ldAsk s.o) s.k) (O2 : Off (· = gl) w w2) => by
      have q := h2.l l2 O2
      exact (HeP.turn (s' := heTick s) h1 h3 q.1 q.2))
  have HB := Lib.hid (HeP.holds g (heTick s))
  clear h1 h2 h3 hok
  cases hs : ldS s.o with
  | true =>
    have HTL : Hid (heTickL s = []) := by show _ = _; unfold heTickL; rw [if_pos hs]
    rw [hs] at HA
    clear hs
    go_enter Try.func13, Try.ntmps13
    go_wp2_with (fail)
    refine HM.out.mono ?_
    rintro e w1 ⟨rfl, rfl⟩
    go_wp2_with (fail)
    refine HA.out.mono ?_
    rintro e w3 ⟨rfl, l3, O3⟩
    have HE := Lib.hid (HV2.out _ l3 O3)
    clear l3 O3
    go_wp2
    go_ret
    rw [HTL.out]
    exact ⟨_, _, _, _, rfl, Pks.nil _ _, HE.out.1, HE.out.2⟩
  | false =>
    have HTL : Hid (heTickL s = [(0, 0, [])]) := by show _ = _; unfold heTickL; rw [if_neg (by simp [hs])]
    rw [hs] at HA
    clear hs
    go_enter Try.func13, Try.ntmps13
    go_wp2_with (fail)
    refine HM.out.mono ?_
    rintro e w1 ⟨rfl, rfl⟩
    go_wp2_with (fail)
    refine HA.out.mono ?_
    rintro e w3 ⟨rfl, l3, O3⟩
    have HE := Lib.hid (HV2.out _ l3 O3)
    clear l3 O3
    go_wp2
    go_ret
    rw [HTL.out]
    have hs1 := HE.out.2.off.size
    have hlt := HB.out.lt HE.out.1
    have T2 := (Below.refl _ w3).alloc (Nat.le_refl _) (.cells #[.int .i64 0, .int .i64 0, .slice none 0 0] 36)
    refine ⟨_, _, _, _, rfl, Pks.one (Bys.nil _) (Av.none _ _) (fun hk => ?_), HB.out.below HE.out.1 T2, HE.out.2.next T2⟩
    rcases hk with hk | hk
    · have := hlt _ hk; omega
    · omega
theorem row5f {w : World} {g : Nat} {t : TypeId} {a b c d e : Value} (h : w.heap[g]? = some (.cells #[a, b, c, d, e] t (0, 0))) :
    (w.cell? ⟨g, 0, none⟩ = some a ∧ w.cell? ⟨g, 1, none⟩ = some b ∧ w.cell? ⟨g, 2, none⟩ = some c ∧ w.cell? ⟨g, 3, none⟩ = some d ∧ w.cell? ⟨g, 4, none⟩ = some e) ∧ w.frozen? ⟨g, 0, none⟩ = false ∧ w.frozen? ⟨g, 1, none⟩ = false ∧ w.frozen? ⟨g, 2, none⟩ = false ∧ w.frozen? ⟨g, 3, none⟩ = false ∧ w.frozen? ⟨g, 4, none⟩ = false :=
  ⟨⟨cell_of_row _ _ _ _ _ _ h, cell_of_row _ _ _ _ _ _ h, cell_of_row _ _ _ _ _ _ h, cell_of_row _ _ _ _ _ _ h, cell_of_row _ _ _ _ _ _ h⟩, frozen_of_row w _ _ _ _ h, frozen_of_row w _ _ _ _ h, frozen_of_row w _ _ _ _ h, frozen_of_row w _ _ _ _ h, frozen_of_row w _ _ _ _ h⟩
theorem hestored5 {w : World} {g : Nat} {t : TypeId} {a b c d e : Value} (h : w.heap[g]? = some (.cells #[a, b, c, d, e] t (0, 0))) (a' b' c' d' e' : Value) : (((((w.setCell ⟨g, 0, none⟩ a').setCell ⟨g, 1, none⟩ b').setCell ⟨g, 2, none⟩ c').setCell ⟨g, 3, none⟩ d').setCell ⟨g, 4, none⟩ e').heap[g]? = some (.cells #[a', b', c', d', e'] t (0, 0)) :=
  (heap_setCell_same _ _ _ _ _ _ (heap_setCell_same _ _ _ _ _ _ (heap_setCell_same _ _ _ _ _ _ (heap_setCell_same _ _ _ _ _ _ (heap_setCell_same _ _ _ _ _ _ h)))))
theorem hebelow5 {B : Nat} {u w : World} (T : Below B u w) {g : Nat} (hg : B ≤ g) (a' b' c' d' e' : Value) : Below B u (((((w.setCell ⟨g, 0, none⟩ a').setCell ⟨g, 1, none⟩ b').setCell ⟨g, 2, none⟩ c').setCell ⟨g, 3, none⟩ d').setCell ⟨g, 4, none⟩ e') :=
  ((((T.setCell (p := ⟨g, 0, none⟩) hg a').setCell (p := ⟨g, 1, none⟩) hg b').setCell (p := ⟨g, 2, none⟩) hg c').setCell (p := ⟨g, 3, none⟩) hg d').setCell (p := ⟨g, 4, none⟩) hg e'
set_option maxHeartbeats 8000000 in
theorem hestate_any (g : Nat) (s : Hs) (w : World) (X : Nat → Prop) (hF : HeP g s w X) :
    Calls Try.prog 21 #[.pointer (some ⟨g, 0, none⟩)] w fun e w' => e = .returned (.agg #[.int .i64 (s.ent : Int), .int .i64 (s.ret : Int), .int .u64 (s.o : Int), .int .u64 (s.k : Int), .bool (ldS s.o)]) ∧ Below w.heap.size w w' := by
  obtain ⟨ge, gq, gl, gt, Xq, Xt, h1, h2, h3, rfl⟩ := hF
  have HO := Lib.hid (fun W (U : Below w.heap.size w W) => ldout_any gl s.o s.k W (h2.below U).2.2.1)
  have HMK := Lib.hid (fun W (U : Below w.heap.size w W) => ldmarked_any gl s.o s.k W (h2.below U).2.2.1)
  have HSP := Lib.hid (fun W (U : Below w.heap.size w W) => ldspent_any gl s.o s.k W (h2.below U).2.2.1)
  have HC : Hid (∀ W, Below w.heap.size w W → W.cell? ⟨g, 0, none⟩ = some (.pointer (some ⟨ge, 0, none⟩)) ∧ W.cell? ⟨ge, 1, none⟩ = some (.pointer (some ⟨gl, 0, none⟩)) ∧ W.cell? ⟨ge, 3, none⟩ = some (.int .i64 (s.ent : Int)) ∧ W.cell? ⟨ge, 4, none⟩ = some (.int .i64 (s.ret : Int))) := fun W U => by
    have h := h2.below U
    exact ⟨cell_of_row _ _ _ _ _ _ ((U.block g (lt_row h1)).trans h1), h.cells.2.1, h.cells.2.2.2.1, h.cells.2.2.2.2.1⟩
  have T0 := (Below.refl _ w).alloc (Nat.le_refl _) (.cells #[.int .i64 0, .int .i64 0, .int .u64 0, .int .u64 0, .bool false] 50)
  have n0 := heap_alloc_new w (.cells #[.int .i64 0, .int .i64 0, .int .u64 0, .int .u64 0, .bool false] 50)
  have HM := Lib.hid (hemade_any g ⟨ge, 0, none⟩ _ (HC.out _ T0).1)
  obtain ⟨c0, c1, c2, c3⟩ := HC.out _ T0
  obtain ⟨⟨k0, k1, k2, k3, k4⟩, f0, f1, f2, f3, f4⟩ := row5f n0
  have HT0 := Lib.hid T0
  have HN0 := Lib.hid n0
  have HT2 := Lib.hid (hebelow5 T0 (Nat.le_refl _) (.int .i64 (s.ent : Int)) (.int .i64 (s.ret : Int)) (.int .u64 (s.o : Int)) (.int .u64 (s.k : Int)) (.bool (ldS s.o)))
  clear h1 h2 h3 T0 n0
  generalize ldS s.o = sp at *
  go_enter Try.func21, Try.ntmps21
  go_wp2_with (fail)
  refine HM.out.mono ?_
  rintro e w1 ⟨rfl, rfl⟩
  generalize w.alloc (.cells #[.int .i64 0, .int .i64 0, .int .u64 0, .int .u64 0, .bool false] 50) = W1 at *
  go_wp2_with (fail)
  clear c0
  go_region_held3 (fun w' => w'.cell? ⟨ge, 1, none⟩ = some (.pointer (some ⟨gl, 0, none⟩)) ∧ w'.cell? ⟨ge, 3, none⟩ = some (.int .i64 (s.ent : Int)) ∧ w'.cell? ⟨ge, 4, none⟩ = some (.int .i64 (s.ret : Int))) (first | (with_reducible exact (HC.out _ HT0.out).2) | (with_reducible exact (HC.out _ HT0.out.drew).2) | (with_reducible exact (HC.out _ HT2.out).2) | (with_reducible exact (HC.out _ HT2.out.drew).2))
    (first
      | (go_at_call 39; (with_reducible refine (HO.out _ (by first | exact HT0.out | exact HT0.out.drew)).mono ?_); rintro e w3 ⟨rfl, rfl⟩)
      | (go_at_call 40; (with_reducible refine (HMK.out _ (by first | exact HT0.out | exact HT0.out.drew)).mono ?_); rintro e w3 ⟨rfl, rfl⟩)
      | (go_at_call 41; (with_reducible refine (HSP.out _ (by first | exact HT0.out | exact HT0.out.drew)).mono ?_); rintro e w3 ⟨rfl, rfl⟩))
  all_goals
    go_wp2_with (fail)
    refine bodyPost_ret (v := .agg #[.int .i64 (s.ent : Int), .int .i64 (s.ret : Int), .int .u64 (s.o : Int), .int .u64 (s.k : Int), .bool sp]) (results_cell_row rfl _ _ w.heap.size 50 #[.int .i64 (s.ent : Int), .int .i64 (s.ret : Int), .int .u64 (s.o : Int), .int .u64 (s.k : Int), .bool sp] (0, 0) _ rfl (hestored5 HN0.out _ _ _ _ _) Try.underlying50 rfl (by kernel_rfl)) rfl ?_
    exact ⟨rfl, HT2.out.drew⟩
set_option maxHeartbeats 2000000 in
theorem hekept_any (g : Nat) (s : Hs) (w : World) (X : Nat → Prop) (hF : HeP g s w X) :
    Calls Try.prog 22 #[.pointer (some ⟨g, 0, none⟩)] w fun e w' => ∃ P n c, e = .returned (.slice P n c) ∧ RFre w' (· < w.heap.size) P n c s.ls ∧ Below w.heap.size w w' := by
  obtain ⟨ge, gq, gl, gt, Xq, Xt, h1, h2, h3, rfl⟩ := hF
  have c0 : w.cell? ⟨g, 0, none⟩ = some (.pointer (some ⟨ge, 0, none⟩)) := cell_of_row _ _ _ _ _ _ h1
  have HM := Lib.hid (hemade_any g ⟨ge, 0, none⟩ w c0)
  obtain ⟨d0, -, -, -, -, -⟩ := h2.cells
  have HA := Lib.hid (quall_any gq s.room s.ls w Xq h2.2.1)
  clear h1 h2 h3
  go_enter Try.func22, Try.ntmps22
  go_wp2_with (fail)
  refine HM.out.mono ?_
  rintro e w1 ⟨rfl, rfl⟩
  go_wp2_with (fail)
  refine HA.out.mono ?_
  rintro e w2 ⟨P, n, c, rfl, hr, T⟩
  have HE := Lib.hid (And.intro hr T)
  clear hr T
  go_wp2
  go_ret
  exact ⟨_, _, _, rfl, HE.out⟩
theorem hentick_any (w : World) : Calls Try.prog 13 #[.pointer none] w fun e w' => ∃ P c, e = .returned (.slice P 0 c) ∧ Below w.heap.size w w' := by
  have HM := Lib.hid (henmade_any w)
  go_enter Try.func13, Try.ntmps13
  go_wp2_with (fail)
  refine HM.out.mono ?_
  rintro e w1 ⟨rfl, rfl⟩
  go_wp2
  go_ret
  exact ⟨_, _, rfl, Below.refl _ _⟩
theorem hentake_any (kd lb : Int) (A : Option Addr) (n c : Nat) (w : World) : Calls Try.prog 15 #[.pointer none, .agg #[.int .i64 kd, .int .i64 lb, .slice A n c]] w fun e w' => ∃ P c, e = .returned (.slice P 0 c) ∧ Below w.heap.size w w' := by
  have HM := Lib.hid (fun W => henmade_any W)
  go_enter Try.func15, Try.ntmps15
  go_wp2_with (fail)
  refine (HM.out _).mono ?_
  rintro e w1 ⟨rfl, rfl⟩
  go_wp2
  go_ret
  exact ⟨_, _, rfl, (Below.refl _ _).alloc (Nat.le_refl _) _⟩
theorem henrecv_any (w : World) : Calls Try.prog 17 #[.pointer none] w fun e w' => e = .returned (.tuple #[.slice none 0 0, .bool false]) ∧ Below w.heap.size w w' := by
  have HM := Lib.hid (henmade_any w)
  go_enter Try.func17, Try.ntmps17
  go_wp2_with (fail)
  refine HM.out.mono ?_
  rintro e w1 ⟨rfl, rfl⟩
  go_wp2
  go_ret2
  exact ⟨rfl, Below.refl _ _⟩
theorem henkept_any (w : World) : Calls Try.prog 22 #[.pointer none] w fun e w' => ∃ P c, e = .returned (.slice P 0 c) ∧ Below w.heap.size w w' := by
  have HM := Lib.hid (henmade_any w)
  go_enter Try.func22, Try.ntmps22
  go_wp2_with (fail)
  refine HM.out.mono ?_
  rintro e w1 ⟨rfl, rfl⟩
  go_wp2
  go_ret
  exact ⟨_, _, rfl, Below.refl _ _⟩
set_option maxHeartbeats 2000000 in
theorem henstate_any (w : World) : Calls Try.prog 21 #[.pointer none] w fun e w' => e = .returned (.agg #[.int .i64 0, .int .i64 0, .int .u64 0, .int .u64 0, .bool true]) ∧ Below w.heap.size w w' := by
  have T0 := (Below.refl _ w).alloc (Nat.le_refl _) (.cells #[.int .i64 0, .int .i64 0, .int .u64 0, .int .u64 0, .bool false] 50)
  have n0 := heap_alloc_new w (.cells #[.int .i64 0, .int .i64 0, .int .u64 0, .int .u64 0, .bool false] 50)
  obtain ⟨⟨k0, k1, k2, k3, k4⟩, f0, f1, f2, f3, f4⟩ := row5f n0
  have HN0 := Lib.hid n0
  have HT2 := Lib.hid (hebelow5 T0 (Nat.le_refl _) (.int .i64 0) (.int .i64 0) (.int .u64 0) (.int .u64 0) (.bool true))
  have HM := Lib.hid (henmade_any (w.alloc (.cells #[.int .i64 0, .int .i64 0, .int .u64 0, .int .u64 0, .bool false] 50)))
  clear T0 n0
  go_enter Try.func21, Try.ntmps21
  go_wp2_with (fail)
  refine HM.out.mono ?_
  rintro e w1 ⟨rfl, rfl⟩
  generalize w.alloc (.cells #[.int .i64 0, .int .i64 0, .int .u64 0, .int .u64 0, .bool false] 50) = W1 at *
  go_wp2_with (fail)
  refine bodyPost_ret (v := .agg #[.int .i64 0, .int .i64 0, .int .u64 0, .int .u64 0, .bool true]) (results_cell_row rfl _ _ w.heap.size 50 #[.int .i64 0, .int .i64 0, .int .u64 0, .int .u64 0, .bool true] (0, 0) _ rfl (hestored5 HN0.out _ _ _ _ _) Try.underlying50 rfl (by kernel_rfl)) rfl ?_
  exact ⟨rfl, HT2.out⟩
end Go.Proofs.Ytpdnpfohcnpenaa
