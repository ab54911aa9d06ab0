/- Package caller, as landed: State, and all of its contracts. -/
import Derived.Test.YtepmecmhnefhkaaCaK4
namespace Go.Proofs.Ytepmecmhnefhkaa
open Go.RowKit
set_option maxRecDepth 20000

theorem row6f {w : World} {g : Nat} {t : TypeId} {a b c d e f : Value} (h : w.heap[g]? = some (.cells #[a, b, c, d, e, f] t (0, 0))) :
    (w.cell? ⟨g, 0, none⟩ = some a ∧ w.cell? ⟨g, 1, none⟩ = some b ∧ w.cell? ⟨g, 2, none⟩ = some c ∧ w.cell? ⟨g, 3, none⟩ = some d ∧ w.cell? ⟨g, 4, none⟩ = some e ∧ w.cell? ⟨g, 5, none⟩ = some f) ∧ w.frozen? ⟨g, 0, none⟩ = false ∧ w.frozen? ⟨g, 1, none⟩ = false ∧ w.frozen? ⟨g, 2, none⟩ = false ∧ w.frozen? ⟨g, 3, none⟩ = false ∧ w.frozen? ⟨g, 4, none⟩ = false ∧ w.frozen? ⟨g, 5, none⟩ = false :=
  ⟨row6 h, frozen_of_row w _ _ _ _ h, frozen_of_row w _ _ _ _ h, frozen_of_row w _ _ _ _ h, frozen_of_row w _ _ _ _ h, frozen_of_row w _ _ _ _ h, frozen_of_row w _ _ _ _ h⟩
theorem stored6 {w : World} {g : Nat} {t : TypeId} {a b c d e f : Value} (h : w.heap[g]? = some (.cells #[a, b, c, d, e, f] t (0, 0))) (a' b' c' d' e' f' : Value) : ((((((w.setCell ⟨g, 0, none⟩ a').setCell ⟨g, 1, none⟩ b').setCell ⟨g, 2, none⟩ c').setCell ⟨g, 3, none⟩ d').setCell ⟨g, 4, none⟩ e').setCell ⟨g, 5, none⟩ f').heap[g]? = some (.cells #[a', b', c', d', e', f'] t (0, 0)) :=
  (heap_setCell_same _ _ _ _ _ _ (heap_setCell_same _ _ _ _ _ _ (heap_setCell_same _ _ _ _ _ _ (heap_setCell_same _ _ _ _ _ _ (heap_setCell_same _ _ _ _ _ _ (heap_setCell_same _ _ _ _ _ _ h))))))
theorem below6 {B : Nat} {u w : World} (T : Below B u w) {g : Nat} (hg : B ≤ g) (a' b' c' d' e' f' : Value) : Below B u ((((((w.setCell ⟨g, 0, none⟩ a').setCell ⟨g, 1, none⟩ b').setCell ⟨g, 2, none⟩ c').setCell ⟨g, 3, none⟩ d').setCell ⟨g, 4, none⟩ e').setCell ⟨g, 5, none⟩ f') :=
  (((((T.setCell (p := ⟨g, 0, none⟩) hg a').setCell (p := ⟨g, 1, none⟩) hg b').setCell (p := ⟨g, 2, none⟩) hg c').setCell (p := ⟨g, 3, none⟩) hg d').setCell (p := ⟨g, 4, none⟩) hg e').setCell (p := ⟨g, 5, none⟩) hg f'
set_option maxHeartbeats 8000000 in
theorem castate_any (g : Nat) (s : Cs) (w : World) (X : Nat → Prop) (hF : CaP g s w X) (hd6 : s.done ≤ 1000000) :
    Calls Try.prog 20 #[.pointer (some ⟨g, 0, none⟩)] w fun e w' => e = .returned (.agg #[.int .i64 (s.acc : Int), .int .i64 (s.done : Int), .int .u64 (s.o : Int), .int .u64 (s.k : Int), .int .u64 (s.acks : Int), .bool (ldS s.o)]) ∧ Below w.heap.size w w' := by
  obtain ⟨ge, gq, gl, Xq, h1, h2, h3, h4, rfl⟩ := hF
  have hl16 : s.ls.length ≤ 16 := by have := h2.2.1.2.2.1.2.1; have := h2.2.1.2.2.1.2.2.1; omega
  have HAC : Hid (∀ W, Below w.heap.size w W → Calls Try.prog 38 #[.pointer (some ⟨ge, 0, none⟩)] W fun e w' => e = .returned (.int .i64 (s.acc : Int)) ∧ Below W.heap.size W w') := fun W U => by
    have h := h2.below U
    rw [h4]
    exact caaccepted_any ge gq s.done s.ls.length W h.cells.1 h.cells.2.2.1 h.qlen hd6 hl16
  have HO := Lib.hid (fun W (U : Below w.heap.size w W) => ldout_any gl s.o s.k W (h2.below U).2.2.1)
  have HMK := Lib.hid (fun W (U : Below w.heap.size w W) => ldmarked_any gl s.o s.k W (h2.below U).2.2.1)
  have HSP := Lib.hid (fun W (U : Below w.heap.size w W) => ldspent_any gl s.o s.k W (h2.below U).2.2.1)
  have HC : Hid (∀ W, Below w.heap.size w W → W.cell? ⟨g, 0, none⟩ = some (.pointer (some ⟨ge, 0, none⟩)) ∧ W.cell? ⟨ge, 1, none⟩ = some (.pointer (some ⟨gl, 0, none⟩)) ∧ W.cell? ⟨ge, 2, none⟩ = some (.int .i64 (s.done : Int)) ∧ W.cell? ⟨ge, 3, none⟩ = some (.int .u64 (s.acks : Int))) := fun W U => by
    have h := h2.below U
    exact ⟨cell_of_row _ _ _ _ _ _ ((U.block g (lt_row h1)).trans h1), h.cells.2.1, h.cells.2.2.1, h.cells.2.2.2.1⟩
  have T0 := (Below.refl _ w).alloc (Nat.le_refl _) (.cells #[.int .i64 0, .int .i64 0, .int .u64 0, .int .u64 0, .int .u64 0, .bool false] 52)
  have n0 := heap_alloc_new w (.cells #[.int .i64 0, .int .i64 0, .int .u64 0, .int .u64 0, .int .u64 0, .bool false] 52)
  have HM := Lib.hid (camade_any g ⟨ge, 0, none⟩ _ (HC.out _ T0).1)
  obtain ⟨c0, c1, c2, c3⟩ := HC.out _ T0
  have HT0 := Lib.hid T0
  have HN0 := Lib.hid n0
  clear h1 h2 h3 h4 hl16 T0 n0
  generalize ldS s.o = sp at *
  go_enter Try.func20, Try.ntmps20
  go_wp2_with (fail)
  refine HM.out.mono ?_
  rintro e w1 ⟨rfl, rfl⟩
  generalize w.alloc (.cells #[.int .i64 0, .int .i64 0, .int .u64 0, .int .u64 0, .int .u64 0, .bool false] 52) = W1 at *
  go_wp2_with (fail)
  have P0 := Lib.hid (Below.refl W1.heap.size W1)
  have hW1 := lt_row HN0.out
  clear c0
  go_region_held3 (fun w' => w'.cell? ⟨ge, 1, none⟩ = some (.pointer (some ⟨gl, 0, none⟩)) ∧ w'.cell? ⟨ge, 2, none⟩ = some (.int .i64 (s.done : Int)) ∧ w'.cell? ⟨ge, 3, none⟩ = some (.int .u64 (s.acks : Int))) (first | (with_reducible exact (HC.out _ HT0.out).2) | (with_reducible exact (HC.out _ HT1.out).2) | (with_reducible exact (HC.out _ HT2.out).2) | exact (HC.out _ HT0.out).2)
    (first
      | (go_at_call 38; (with_reducible refine (HAC.out _ (by first | exact HT0.out | exact HT0.out.drew)).mono ?_); rintro e w2 ⟨rfl, U2⟩; have P1 : Hid (Below W1.heap.size W1 w2) := (by first | exact U2 | exact undrew U2); have HT1 := Lib.hid (HT0.out.trans (P1.out.mono HT0.out.size)); have HN1 := Lib.hid ((P1.out.block _ hW1).trans HN0.out); obtain ⟨⟨k0, k1, k2, k3, k4, k5⟩, f0, f1, f2, f3, f4, f5⟩ := row6f HN1.out; have HT2 := Lib.hid (below6 HT1.out (Nat.le_refl _) (.int .i64 (s.acc : Int)) (.int .i64 (s.done : Int)) (.int .u64 (s.o : Int)) (.int .u64 (s.k : Int)) (.int .u64 (s.acks : Int)) (.bool sp)))
      | (go_at_call 39; (with_reducible refine (HO.out _ HT1.out).mono ?_); rintro e w3 ⟨rfl, rfl⟩)
      | (go_at_call 40; (with_reducible refine (HMK.out _ HT1.out).mono ?_); rintro e w3 ⟨rfl, rfl⟩)
      | (go_at_call 41; (with_reducible refine (HSP.out _ HT1.out).mono ?_); rintro e w3 ⟨rfl, rfl⟩))
  all_goals
    go_wp2_with (fail)
    refine bodyPost_ret (v := .agg #[.int .i64 (s.acc : Int), .int .i64 (s.done : Int), .int .u64 (s.o : Int), .int .u64 (s.k : Int), .int .u64 (s.acks : Int), .bool sp]) (results_cell_row rfl _ _ w.heap.size 52 #[.int .i64 (s.acc : Int), .int .i64 (s.done : Int), .int .u64 (s.o : Int), .int .u64 (s.k : Int), .int .u64 (s.acks : Int), .bool sp] (0, 0) _ rfl (stored6 HN1.out _ _ _ _ _ _) Try.underlying52 rfl (by kernel_rfl)) rfl ?_
    exact ⟨rfl, HT2.out⟩
/-- a Caller whose numbers are within their kinds -/
def CaQ (g : Nat) (s : Cs) (w : World) (X : Nat → Prop) : Prop := CaOk s ∧ CaP g s w X
theorem caC : CaC CaQ where
  holds := fun g s => ⟨fun h => (CaP.holds g s).lt h.2, fun h o hd => ⟨h.1, (CaP.holds g s).off h.2 o hd⟩⟩
  new_no := fun r b w _ _ h => (canew_no r b w h).mono fun _ _ ⟨h1, h2⟩ => ⟨h1, h2 ▸ Below.refl _ _⟩
  new_yes := fun room b w h1 h2 hb => (canew_yes room b w h1 h2).mono fun _ _ ⟨g, X, e, h, r⟩ => ⟨g, X, e, ⟨(CaFew.new room b h1 h2 hb).1, h⟩, r⟩
  send := fun g s A n c m w X hF hok hB _ ha => (casend_any g s A n c m w X hF.2 hok hB).mono fun _ _ ⟨e, X', h, t⟩ => ⟨e, X', ⟨hok.send m ha, h⟩, t⟩
  poll := fun g s i w X hF _ => capoll_any g s i w X hF.2 hF.1
  tick := fun g s w X hF hok => (catick_any g s w X hF.2 hok).mono fun _ _ ⟨A, n, c, X', e, hp, h, t⟩ => ⟨A, n, c, X', e, hp, ⟨hok.tick, h⟩, t⟩
  take := fun g s kd lb A n c _ w X hF hok h1 h2 _ _ _ => (catake_any g s kd lb A n c w X hF.2 hok h1).mono fun _ _ ⟨A, n, c, X', e, hp, h, t⟩ => ⟨A, n, c, X', e, hp, ⟨hok.take kd lb h1 h2, h⟩, t⟩
  state := fun g s w X hF => castate_any g s w X hF.2 hF.1.2.2.2.2.1
end Go.Proofs.Ytepmecmhnefhkaa
