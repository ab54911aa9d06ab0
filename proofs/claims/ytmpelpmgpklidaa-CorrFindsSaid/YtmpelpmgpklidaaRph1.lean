/- What kedgeref07's Rest, Times, Kind, Slice, Two and Step answer. -/
import Derived.Test.YtmpelpmgpklidaaFresh
import Derived.Test.YtmpelpmgpklidaaPhM
import Derived.Laws.StructEq
import Derived.Deep.RegionHeld3
namespace Go.Proofs.Ytmpelpmgpklidaa
open Go.RowKit

/-- a point's value -/
def ptV (p : Pt) : Value := .agg #[.int .i64 p.1, .int .i64 p.2]

theorem tmod4 (k : Int) : (0 ≤ k ∧ k.tmod 4 = k % 4) ∨ (k < 0 ∧ k.tmod 4 = -((-k) % 4)) := by
  by_cases h : 0 ≤ k
  · exact .inl ⟨h, Int.tmod_eq_emod_of_nonneg h⟩
  · right
    refine ⟨by omega, ?_⟩
    have e : k.tmod 4 = -((-k).tmod 4) := by rw [Int.neg_tmod, Int.neg_neg]
    rw [e, Int.tmod_eq_emod_of_nonneg (by omega)]
set_option maxHeartbeats 1000000 in
theorem rest_any (k : Int) (w : World) :
    Calls Try.prog 38 #[.int .i64 k] w fun e w' => e = .returned (.int .i64 (rest4 k : Int)) ∧ w = w' := by
  have hr := rest4_cast k
  have ht := tmod4 k
  by_cases h0 : k.tmod 4 < 0
  · have d0 : decide (k.tmod 4 < 0) = true := by simpa using h0
    have e : wrap64 (k.tmod 4 + 4) = (rest4 k : Int) := by rw [IntWalk.wrap64_in _ (by omega), hr]; omega
    have E := Lib.hid e
    clear hr e ht
    go_enter Try.func38, Try.ntmps38
    go_wp2
    go_ret
    exact ⟨ret_int E.out, rfl⟩
  · have d0 : decide (k.tmod 4 < 0) = false := by simpa using h0
    have e : k.tmod 4 = (rest4 k : Int) := by rw [hr]; omega
    have E := Lib.hid e
    clear hr e ht
    go_enter Try.func38, Try.ntmps38
    go_wp2
    go_ret
    exact ⟨ret_int E.out, rfl⟩

/-- the two blocks that Times makes: the point, and the result's -/
theorem results_times (tmps : Array Value) (W : World) (Y : Nat) (a b : Int) (t : TypeId) (h4 : tmps[4]? = some (.pointer (some ⟨Y, 0, none⟩))) (hT : W.heap[Y]? = some (.cells #[.int .i64 a, .int .i64 b] t (0, 0))) :
    (results Try.f35 tmps).run Try.prog W = .ok (.agg #[.int .i64 a, .int .i64 b]) W := by
  have c0 : W.cell? ⟨Y, 0, none⟩ = some (.int .i64 a) := cell_of_row _ _ _ _ _ _ hT
  have c1 : W.cell? ⟨Y, 1, none⟩ = some (.int .i64 b) := cell_of_row _ _ _ _ _ _ hT
  simp [results, Try.results35, h4, go_sem, c0, c1]
theorem results_slice (tmps : Array Value) (W : World) (Y : Nat) (a b : Int) (t : TypeId) (h2 : tmps[2]? = some (.pointer (some ⟨Y, 0, none⟩))) (hT : W.heap[Y]? = some (.cells #[.int .i64 a, .int .i64 b] t (0, 0))) :
    (results Try.f26 tmps).run Try.prog W = .ok (.agg #[.int .i64 a, .int .i64 b]) W := by
  have c0 : W.cell? ⟨Y, 0, none⟩ = some (.int .i64 a) := cell_of_row _ _ _ _ _ _ hT
  have c1 : W.cell? ⟨Y, 1, none⟩ = some (.int .i64 b) := cell_of_row _ _ _ _ _ _ hT
  simp [results, Try.results26, h2, go_sem, c0, c1]

set_option maxHeartbeats 2000000 in
theorem times_any (p : Pt) (k : Int) (w : World) (hp : -4611686018427387904 ≤ p.1 ∧ p.1 ≤ 4611686018427387904 ∧ -4611686018427387904 ≤ p.2 ∧ p.2 ≤ 4611686018427387904) :
    Calls Try.prog 35 #[.agg #[.int .i64 p.1, .int .i64 p.2], .int .i64 k] w fun e w' => e = .returned (.agg #[.int .i64 (rotK k p).1, .int .i64 (rotK k p).2]) ∧ Below w.heap.size w w' := by
  have HR := Lib.hid (fun W => rest_any k W)
  have HS := Lib.hid (fun j => rotN_small j hp)
  have hK : rotK k p = rotN (rest4 k) p := rfl
  have HK := Lib.hid hK
  have hlt := rest4_lt k
  generalize rest4 k = r at *
  generalize rotK k p = q at *
  obtain ⟨a, b⟩ := p
  clear hp hK
  have hb : ((w.alloc (.cells #[.int .i64 a, .int .i64 b] 30)).alloc (.cells #[.int .i64 0, .int .i64 0] 30)).heap[w.heap.size]? = some (.cells #[.int .i64 a, .int .i64 b] 30 (0, 0)) := by
    rw [Below.heap_alloc _ _ _ (by simp)]
    exact heap_alloc_new w _
  have hb2 : ((w.alloc (.cells #[.int .i64 a, .int .i64 b] 30)).alloc (.cells #[.int .i64 0, .int .i64 0] 30)).heap[w.heap.size + 1]? = some (.cells #[.int .i64 0, .int .i64 0] 30 (0, 0)) := by
    have := heap_alloc_new (w.alloc (.cells #[.int .i64 a, .int .i64 b] 30)) (.cells #[.int .i64 0, .int .i64 0] 30)
    simpa using this
  have HB := Lib.hid (And.intro hb hb2)
  clear hb hb2
  go_enter Try.func35, Try.ntmps35
  go_wp2_with (fail)
  refine (HR.out _).mono ?_
  rintro e w1 ⟨rfl, rfl⟩
  go_wp2_with (fail)
  go_loopw [5] (fun i wr => ∃ j : Nat, j ≤ r ∧ i = .int .i64 ((r - j : Nat) : Int) ∧ ∃ x y : Int, Hid (rotN j (a, b) = (x, y)) ∧ Hid (wr.heap[w.heap.size]? = some (.cells #[.int .i64 x, .int .i64 y] 30 (0, 0)) ∧ wr.heap[w.heap.size + 1]? = some (.cells #[.int .i64 0, .int .i64 0] 30 (0, 0)) ∧ Below w.heap.size w wr)) (fun i _ => (intOf i).toNat)
  case atStart => exact ⟨0, Nat.zero_le _, rfl, a, b, rfl, HB.out.1, HB.out.2, ((Below.refl _ _).alloc (Nat.le_refl _) _).alloc (by simp) _⟩
  case round =>
    obtain ⟨j, hj, rfl, x, y, HXY, HW⟩ := hrel
    have hxy := HS.out j
    rw [HXY.out] at hxy
    simp only at hxy
    have c0 : wr.cell? ⟨w.heap.size, 0, none⟩ = some (.int .i64 x) := cell_of_row _ _ _ _ _ _ HW.out.1
    have c1 : wr.cell? ⟨w.heap.size, 1, none⟩ = some (.int .i64 y) := cell_of_row _ _ _ _ _ _ HW.out.1
    have f0 : wr.frozen? ⟨w.heap.size, 0, none⟩ = false := frozen_of_row _ _ _ _ _ HW.out.1
    have f1 : wr.frozen? ⟨w.heap.size, 1, none⟩ = false := frozen_of_row _ _ _ _ _ HW.out.1
    have c2 : wr.cell? ⟨w.heap.size + 1, 0, none⟩ = some (.int .i64 0) := cell_of_row _ _ _ _ _ _ HW.out.2.1
    have c3 : wr.cell? ⟨w.heap.size + 1, 1, none⟩ = some (.int .i64 0) := cell_of_row _ _ _ _ _ _ HW.out.2.1
    have f2 : wr.frozen? ⟨w.heap.size + 1, 0, none⟩ = false := frozen_of_row _ _ _ _ _ HW.out.2.1
    have f3 : wr.frozen? ⟨w.heap.size + 1, 1, none⟩ = false := frozen_of_row _ _ _ _ _ HW.out.2.1
    by_cases hlt2 : j < r
    · have hn : rotN (j + 1) (a, b) = (-y, x) := by rw [rotN_add, HXY.out]; rfl
      have HN := Lib.hid hn
      clear hn
      go_wp2
      go_roundw
      case rel =>
        refine ⟨j + 1, by omega, by rw [show r - (j + 1) = r - j - 1 by omega]; congr 1; omega, _, _, HN.out, ?_, ?_, ?_⟩
        · exact heap_setCell_same _ w.heap.size 1 _ _ _ (heap_setCell_same wr w.heap.size 0 _ _ _ HW.out.1)
        · exact (heap_setCell_other _ ⟨w.heap.size, 1, none⟩ (w.heap.size + 1) _ (by show w.heap.size + 1 ≠ w.heap.size; omega)).trans ((heap_setCell_other wr ⟨w.heap.size, 0, none⟩ (w.heap.size + 1) _ (by show w.heap.size + 1 ≠ w.heap.size; omega)).trans HW.out.2.1)
        · exact (HW.out.2.2.setCell (Nat.le_refl _) _).setCell (Nat.le_refl _) _
      case measure => simp [intOf]; omega
    · obtain rfl : j = r := by omega
      have HQ : Hid (q = (x, y)) := HK.out.trans HXY.out
      go_wp2_with (fail)
      refine bodyPost_ret (results_times _ _ (w.heap.size + 1) x y _ rfl (heap_setCell_same _ (w.heap.size + 1) 1 _ _ _ (heap_setCell_same wr (w.heap.size + 1) 0 _ _ _ HW.out.2.1))) rfl ⟨by rw [HQ.out], ?_⟩
      exact (HW.out.2.2.setCell (by show w.heap.size ≤ w.heap.size + 1; omega) _).setCell (by show w.heap.size ≤ w.heap.size + 1; omega) _

theorem kind_none (z : Pt) (h : ∀ i, i < 4 → unit i ≠ z) : kindI z = -1 := by
  have hr := kindI_range z
  by_cases h0 : 0 ≤ kindI z
  · obtain ⟨q, h1, h2, _⟩ := kindI_unit_of z h0
    exact absurd h2.symm (h q h1)
  · omega
set_option maxHeartbeats 2000000 in
theorem rslice_any (z : Pt) (w : World) :
    Calls Try.prog 26 #[.agg #[.int .i64 z.1, .int .i64 z.2]] w fun e w' => e = .returned (.agg #[.int .i64 (sliceP z).1, .int .i64 (sliceP z).2]) ∧ Below w.heap.size w w' := by
  obtain ⟨a, b⟩ := z
  unfold sliceP
  simp only
  by_cases ha : 0 ≤ a
  · have d1 : decide (0 ≤ a) = true := by simpa using ha
    rw [if_pos ha]
    by_cases hb : 0 ≤ b
    · have d2 : decide (0 ≤ b) = true := by simpa using hb
      rw [if_pos hb]
      go_enter Try.func26, Try.ntmps26
      go_wp2_with (fail)
      refine bodyPost_ret (results_slice _ _ (w.heap.size + 1) 1 1 30 rfl ?_) rfl ⟨rfl, (((Below.refl _ _).alloc (Nat.le_refl _) _).alloc (by simp) _).alloc (by simp; omega) _⟩
      rw [Below.heap_alloc _ _ _ (by simp)]
      have := heap_alloc_new (w.alloc (.cells #[.int .i64 a, .int .i64 b] 30)) (.cells #[.int .i64 1, .int .i64 1] 30)
      simpa using this
    · have d2 : decide (0 ≤ b) = false := by simpa using hb
      rw [if_neg hb]
      go_enter Try.func26, Try.ntmps26
      go_wp2_with (fail)
      refine bodyPost_ret (results_slice _ _ (w.heap.size + 1) 1 (-1) 30 rfl ?_) rfl ⟨rfl, (((Below.refl _ _).alloc (Nat.le_refl _) _).alloc (by simp) _).alloc (by simp; omega) _⟩
      rw [Below.heap_alloc _ _ _ (by simp)]
      have := heap_alloc_new (w.alloc (.cells #[.int .i64 a, .int .i64 b] 30)) (.cells #[.int .i64 1, .int .i64 (-1)] 30)
      simpa using this
  · have d1 : decide (0 ≤ a) = false := by simpa using ha
    rw [if_neg ha]
    by_cases hb : 0 ≤ b
    · have d2 : decide (0 ≤ b) = true := by simpa using hb
      rw [if_pos hb]
      go_enter Try.func26, Try.ntmps26
      go_wp2_with (fail)
      refine bodyPost_ret (results_slice _ _ (w.heap.size + 1) (-1) 1 30 rfl ?_) rfl ⟨rfl, (((Below.refl _ _).alloc (Nat.le_refl _) _).alloc (by simp) _).alloc (by simp; omega) _⟩
      rw [Below.heap_alloc _ _ _ (by simp)]
      have := heap_alloc_new (w.alloc (.cells #[.int .i64 a, .int .i64 b] 30)) (.cells #[.int .i64 (-1), .int .i64 1] 30)
      simpa using this
    · have d2 : decide (0 ≤ b) = false := by simpa using hb
      rw [if_neg hb]
      go_enter Try.func26, Try.ntmps26
      go_wp2_with (fail)
      refine bodyPost_ret (results_slice _ _ (w.heap.size + 1) (-1) (-1) 30 rfl ?_) rfl ⟨rfl, (((Below.refl _ _).alloc (Nat.le_refl _) _).alloc (by simp) _).alloc (by simp; omega) _⟩
      rw [Below.heap_alloc _ _ _ (by simp)]
      have := heap_alloc_new (w.alloc (.cells #[.int .i64 a, .int .i64 b] 30)) (.cells #[.int .i64 (-1), .int .i64 (-1)] 30)
      simpa using this

theorem two_div (n : Nat) : (n : Int).tdiv 4 = ((n / 4 : Nat) : Int) := by
  rw [Int.tdiv_eq_ediv_of_nonneg (by omega)]
  omega
end Go.Proofs.Ytmpelpmgpklidaa
