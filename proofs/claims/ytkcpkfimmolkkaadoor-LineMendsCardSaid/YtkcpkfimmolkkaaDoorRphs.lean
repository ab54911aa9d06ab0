/- Joined: Rph1 Rph2 Rph3 Rph4. -/
import Derived.Test.YtkcpkfimmolkkaaDoorFresh
import Derived.Test.YtkcpkfimmolkkaaDoorFacts
import Derived.Laws.StructEq
import Derived.Deep.RegionHeld3
import Derived.Test.YtkcpkfimmolkkaaDoorPtV
import Derived.Deep.RegionWith
/- What kedgeref07's Rest, Times, Kind, Slice, Two and Step answer. -/
namespace Go.Proofs.YtkcpkfimmolkkaaDoor
open Go.RowKit
set_option maxRecDepth 20000

/-- a point's value -/
def ptV (p : Pt) : Value := .agg #[.int .i64 p.1, .int .i64 p.2]

theorem tmod4 (k : Int) : (0 ≤ k ∧ k.tmod 4 = k % 4) ∨ (k < 0 ∧ k.tmod 4 = -((-k) % 4)) := by
  by_cases h : 0 ≤ k
  · exact .inl ⟨h, Int.tmod_eq_emod_of_nonneg h⟩
  · right
    refine ⟨by omega, ?_⟩
    have e : k.tmod 4 = -((-k).tmod 4) := by rw [Int.neg_tmod, Int.neg_neg]
    rw [e, Int.tmod_eq_emod_of_nonneg (by omega)]
set_option maxHeartbeats 1000000 in
theorem rest_any (k : Int) (w : World) :
    Calls Tryd.prog 52 #[.int .i64 k] w fun e w' => e = .returned (.int .i64 (rest4 k : Int)) ∧ w = w' := by
  have hr := rest4_cast k
  have ht := tmod4 k
  by_cases h0 : k.tmod 4 < 0
  · have d0 : decide (k.tmod 4 < 0) = true := by simpa using h0
    have e : wrap64 (k.tmod 4 + 4) = (rest4 k : Int) := by rw [IntWalk.wrap64_in _ (by omega), hr]; omega
    have E := Lib.hid e
    clear hr e ht
    go_enter Tryd.func52, Tryd.ntmps52
    go_wp2
    go_ret
    exact ⟨ret_int E.out, rfl⟩
  · have d0 : decide (k.tmod 4 < 0) = false := by simpa using h0
    have e : k.tmod 4 = (rest4 k : Int) := by rw [hr]; omega
    have E := Lib.hid e
    clear hr e ht
    go_enter Tryd.func52, Tryd.ntmps52
    go_wp2
    go_ret
    exact ⟨ret_int E.out, rfl⟩

/-- the two blocks that Times makes: the point, and the result's -/
theorem results_times (tmps : Array Value) (W : World) (Y : Nat) (a b : Int) (t : TypeId) (h4 : tmps[4]? = some (.pointer (some ⟨Y, 0, none⟩))) (hT : W.heap[Y]? = some (.cells #[.int .i64 a, .int .i64 b] t (0, 0))) :
    (results Tryd.f24 tmps).run Tryd.prog W = .ok (.agg #[.int .i64 a, .int .i64 b]) W := by
  have c0 : W.cell? ⟨Y, 0, none⟩ = some (.int .i64 a) := cell_of_row _ _ _ _ _ _ hT
  have c1 : W.cell? ⟨Y, 1, none⟩ = some (.int .i64 b) := cell_of_row _ _ _ _ _ _ hT
  simp [results, Tryd.results24, h4, go_sem, c0, c1]
theorem results_slice (tmps : Array Value) (W : World) (Y : Nat) (a b : Int) (t : TypeId) (h2 : tmps[2]? = some (.pointer (some ⟨Y, 0, none⟩))) (hT : W.heap[Y]? = some (.cells #[.int .i64 a, .int .i64 b] t (0, 0))) :
    (results Tryd.f51 tmps).run Tryd.prog W = .ok (.agg #[.int .i64 a, .int .i64 b]) W := by
  have c0 : W.cell? ⟨Y, 0, none⟩ = some (.int .i64 a) := cell_of_row _ _ _ _ _ _ hT
  have c1 : W.cell? ⟨Y, 1, none⟩ = some (.int .i64 b) := cell_of_row _ _ _ _ _ _ hT
  simp [results, Tryd.results51, h2, go_sem, c0, c1]

set_option maxHeartbeats 2000000 in
theorem times_any (p : Pt) (k : Int) (w : World) (hp : -4611686018427387904 ≤ p.1 ∧ p.1 ≤ 4611686018427387904 ∧ -4611686018427387904 ≤ p.2 ∧ p.2 ≤ 4611686018427387904) :
    Calls Tryd.prog 24 #[.agg #[.int .i64 p.1, .int .i64 p.2], .int .i64 k] w fun e w' => e = .returned (.agg #[.int .i64 (rotK k p).1, .int .i64 (rotK k p).2]) ∧ Below w.heap.size w w' := by
  have HR := Lib.hid (fun W => rest_any k W)
  have HS := Lib.hid (fun j => rotN_small j hp)
  have hK : rotK k p = rotN (rest4 k) p := rfl
  have HK := Lib.hid hK
  have hlt := rest4_lt k
  generalize rest4 k = r at *
  generalize rotK k p = q at *
  obtain ⟨a, b⟩ := p
  clear hp hK
  have hb : ((w.alloc (.cells #[.int .i64 a, .int .i64 b] 37)).alloc (.cells #[.int .i64 0, .int .i64 0] 37)).heap[w.heap.size]? = some (.cells #[.int .i64 a, .int .i64 b] 37 (0, 0)) := by
    rw [Below.heap_alloc _ _ _ (by simp)]
    exact heap_alloc_new w _
  have hb2 : ((w.alloc (.cells #[.int .i64 a, .int .i64 b] 37)).alloc (.cells #[.int .i64 0, .int .i64 0] 37)).heap[w.heap.size + 1]? = some (.cells #[.int .i64 0, .int .i64 0] 37 (0, 0)) := by
    have := heap_alloc_new (w.alloc (.cells #[.int .i64 a, .int .i64 b] 37)) (.cells #[.int .i64 0, .int .i64 0] 37)
    simpa using this
  have HB := Lib.hid (And.intro hb hb2)
  clear hb hb2
  go_enter Tryd.func24, Tryd.ntmps24
  go_wp2_with (fail)
  refine (HR.out _).mono ?_
  rintro e w1 ⟨rfl, rfl⟩
  go_wp2_with (fail)
  go_loopw [5] (fun i wr => ∃ j : Nat, j ≤ r ∧ i = .int .i64 ((r - j : Nat) : Int) ∧ ∃ x y : Int, Hid (rotN j (a, b) = (x, y)) ∧ Hid (wr.heap[w.heap.size]? = some (.cells #[.int .i64 x, .int .i64 y] 37 (0, 0)) ∧ wr.heap[w.heap.size + 1]? = some (.cells #[.int .i64 0, .int .i64 0] 37 (0, 0)) ∧ Below w.heap.size w wr)) (fun i _ => (intOf i).toNat)
  case atStart => exact ⟨0, Nat.zero_le _, rfl, a, b, rfl, HB.out.1, HB.out.2, ((Below.refl _ _).alloc (Nat.le_refl _) _).alloc (by simp) _⟩
  case round =>
    obtain ⟨j, hj, rfl, x, y, HXY, HW⟩ := hrel
    have hxy := HS.out j
    rw [HXY.out] at hxy
    simp only at hxy
    have c0 : wr.cell? ⟨w.heap.size, 0, none⟩ = some (.int .i64 x) := cell_of_row _ _ _ _ _ _ HW.out.1
    have c1 : wr.cell? ⟨w.heap.size, 1, none⟩ = some (.int .i64 y) := cell_of_row _ _ _ _ _ _ HW.out.1
    have f0 : wr.frozen? ⟨w.heap.size, 0, none⟩ = false := frozen_of_row _ _ _ _ _ HW.out.1
    have f1 : wr.frozen? ⟨w.heap.size, 1, none⟩ = false := frozen_of_row _ _ _ _ _ HW.out.1
    have c2 : wr.cell? ⟨w.heap.size + 1, 0, none⟩ = some (.int .i64 0) := cell_of_row _ _ _ _ _ _ HW.out.2.1
    have c3 : wr.cell? ⟨w.heap.size + 1, 1, none⟩ = some (.int .i64 0) := cell_of_row _ _ _ _ _ _ HW.out.2.1
    have f2 : wr.frozen? ⟨w.heap.size + 1, 0, none⟩ = false := frozen_of_row _ _ _ _ _ HW.out.2.1
    have f3 : wr.frozen? ⟨w.heap.size + 1, 1, none⟩ = false := frozen_of_row _ _ _ _ _ HW.out.2.1
    by_cases hlt2 : j < r
    · have hn : rotN (j + 1) (a, b) = (-y, x) := by rw [rotN_add, HXY.out]; rfl
      have HN := Lib.hid hn
      clear hn
      go_wp2
      go_roundw
      case rel =>
        refine ⟨j + 1, by omega, by rw [show r - (j + 1) = r - j - 1 by omega]; congr 1; omega, _, _, HN.out, ?_, ?_, ?_⟩
        · exact heap_setCell_same _ w.heap.size 1 _ _ _ (heap_setCell_same wr w.heap.size 0 _ _ _ HW.out.1)
        · exact (heap_setCell_other _ ⟨w.heap.size, 1, none⟩ (w.heap.size + 1) _ (by show w.heap.size + 1 ≠ w.heap.size; omega)).trans ((heap_setCell_other wr ⟨w.heap.size, 0, none⟩ (w.heap.size + 1) _ (by show w.heap.size + 1 ≠ w.heap.size; omega)).trans HW.out.2.1)
        · exact (HW.out.2.2.setCell (Nat.le_refl _) _).setCell (Nat.le_refl _) _
      case measure => simp [intOf]; omega
    · obtain rfl : j = r := by omega
      have HQ : Hid (q = (x, y)) := HK.out.trans HXY.out
      go_wp2_with (fail)
      refine bodyPost_ret (results_times _ _ (w.heap.size + 1) x y _ rfl (heap_setCell_same _ (w.heap.size + 1) 1 _ _ _ (heap_setCell_same wr (w.heap.size + 1) 0 _ _ _ HW.out.2.1))) rfl ⟨by rw [HQ.out], ?_⟩
      exact (HW.out.2.2.setCell (by show w.heap.size ≤ w.heap.size + 1; omega) _).setCell (by show w.heap.size ≤ w.heap.size + 1; omega) _

theorem kind_none (z : Pt) (h : ∀ i, i < 4 → unit i ≠ z) : kindI z = -1 := by
  have hr := kindI_range z
  by_cases h0 : 0 ≤ kindI z
  · obtain ⟨q, h1, h2, _⟩ := kindI_unit_of z h0
    exact absurd h2.symm (h q h1)
  · omega
set_option maxHeartbeats 2000000 in
theorem kind_any (z : Pt) (w : World) :
    Calls Tryd.prog 73 #[.agg #[.int .i64 z.1, .int .i64 z.2]] w fun e w' => e = .returned (.int .i64 (kindI z)) ∧ Below w.heap.size w w' := by
  have HT := Lib.hid (fun (j : Nat) W => times_any (1, 1) j W (by decide))
  have HN := Lib.hid (kind_none z)
  obtain ⟨a, b⟩ := z
  have HB : Hid (∀ j, (w.alloc (.cells #[.int .i64 a, .int .i64 b] 37)).cell? ⟨w.heap.size, j, none⟩ = (#[.int .i64 a, .int .i64 b] : Array Value)[j]?) := fun j => cell_of_row _ _ _ _ _ _ (heap_alloc_new w _)
  go_enter Tryd.func73, Tryd.ntmps73
  go_wp2_with (fail)
  go_loopw [3] (fun i wr => ∃ j : Nat, j ≤ 4 ∧ i = .int .i64 (j : Int) ∧ Hid (∀ i, i < j → unit i ≠ (a, b)) ∧ wr.cell? ⟨w.heap.size, 0, none⟩ = some (.int .i64 a) ∧ wr.cell? ⟨w.heap.size, 1, none⟩ = some (.int .i64 b) ∧ Below w.heap.size w wr ∧ w.heap.size < wr.heap.size) (fun i _ => 4 - (intOf i).toNat)
  case atStart => exact ⟨0, Nat.zero_le _, rfl, fun i hi => absurd hi (by omega), HB.out 0, HB.out 1, (Below.refl _ _).alloc (Nat.le_refl _) _, by simp⟩
  case round =>
    obtain ⟨j, hj, rfl, HU, c0, c1, hbel, hz⟩ := hrel
    by_cases hlt : j < 4
    · have hT := HT.out j
      have hu : rotK (j : Int) (1, 1) = unit j := by unfold rotK unit; rw [rest4_nat, Nat.mod_eq_of_lt hlt]
      rw [hu] at hT
      have hk := kindI_unit j hlt
      have hne : ∀ v, v ≠ (a, b) → v = unit j → ∀ i, i < j + 1 → unit i ≠ (a, b) := fun v h1 h2 i hi => by
        by_cases h : i < j
        · exact HU.out i h
        · obtain rfl : i = j := by omega
          rw [← h2]
          exact h1
      obtain ⟨x, y, hu2⟩ : ∃ x y, (x, y) = unit j := ⟨_, _, rfl⟩
      rw [← hu2] at hT hk
      simp only at hT
      have HNE := Lib.hid (fun h => hne (x, y) h hu2)
      have HTT := Lib.hid hT
      clear hu hne hu2 hT
      have hc : ∀ W, Below wr.heap.size wr W → W.cell? ⟨w.heap.size, 0, none⟩ = some (.int .i64 a) ∧ W.cell? ⟨w.heap.size, 1, none⟩ = some (.int .i64 b) := fun W k => ⟨(k.cell (p := ⟨w.heap.size, 0, none⟩) hz).trans c0, (k.cell (p := ⟨w.heap.size, 1, none⟩) hz).trans c1⟩
      have HC := Lib.hid hc
      clear hc
      by_cases hx : x = a
      · have e1 : (x == a) = true := by simpa using hx
        by_cases hy : y = b
        · have e2 : (y == b) = true := by simpa using hy
          have HF : Hid (kindI (a, b) = (j : Int)) := by rw [← hx, ← hy]; exact hk
          clear hk hx hy
          go_wp2_with (fail)
          go_region_held3 (fun w' => w'.cell? ⟨w.heap.size, 0, none⟩ = some (.int .i64 a) ∧ w'.cell? ⟨w.heap.size, 1, none⟩ = some (.int .i64 b)) (first | exact ⟨c0, c1⟩ | exact HC.out _ K5)
            (first | (go_at_call 24; (refine (HTT.out _).mono ?_); rintro e w5 ⟨rfl, G⟩; have K5 : Below wr.heap.size wr w5 := undrew G))
          go_wp2
          go_ret
          exact ⟨ret_int HF.out.symm, nxt hbel K5⟩
        · have e2 : (y == b) = false := by simpa using hy
          have HF := Lib.hid (HNE.out (fun e => hy (by injection e)))
          clear hk hx hy
          go_wp2_with (fail)
          go_region_held3 (fun w' => w'.cell? ⟨w.heap.size, 0, none⟩ = some (.int .i64 a) ∧ w'.cell? ⟨w.heap.size, 1, none⟩ = some (.int .i64 b)) (first | exact ⟨c0, c1⟩ | exact HC.out _ K5)
            (first | (go_at_call 24; (refine (HTT.out _).mono ?_); rintro e w5 ⟨rfl, G⟩; have K5 : Below wr.heap.size wr w5 := undrew G))
          go_wp2
          go_roundw
          case rel => exact ⟨j + 1, by omega, by go_num, HF.out, (HC.out _ K5).1, (HC.out _ K5).2, nxt hbel K5, by have := K5.size; omega⟩
          case measure => simp [intOf]; omega
      · have e1 : (x == a) = false := by simpa using hx
        have HF := Lib.hid (HNE.out (fun e => hx (by injection e)))
        clear hk hx
        go_wp2_with (fail)
        go_region_held3 (fun w' => w'.cell? ⟨w.heap.size, 0, none⟩ = some (.int .i64 a) ∧ w'.cell? ⟨w.heap.size, 1, none⟩ = some (.int .i64 b)) (first | exact ⟨c0, c1⟩ | exact HC.out _ K5)
          (first | (go_at_call 24; (refine (HTT.out _).mono ?_); rintro e w5 ⟨rfl, G⟩; have K5 : Below wr.heap.size wr w5 := undrew G))
        go_wp2
        go_roundw
        case rel => exact ⟨j + 1, by omega, by go_num, HF.out, (HC.out _ K5).1, (HC.out _ K5).2, nxt hbel K5, by have := K5.size; omega⟩
        case measure => simp [intOf]; omega
    · obtain rfl : j = 4 := by omega
      have HF := Lib.hid (HN.out HU.out)
      go_wp2
      go_ret
      exact ⟨ret_int HF.out.symm, hbel⟩

set_option maxHeartbeats 2000000 in
theorem rslice_any (z : Pt) (w : World) :
    Calls Tryd.prog 51 #[.agg #[.int .i64 z.1, .int .i64 z.2]] w fun e w' => e = .returned (.agg #[.int .i64 (sliceP z).1, .int .i64 (sliceP z).2]) ∧ Below w.heap.size w w' := by
  obtain ⟨a, b⟩ := z
  unfold sliceP
  simp only
  by_cases ha : 0 ≤ a
  · have d1 : decide (0 ≤ a) = true := by simpa using ha
    rw [if_pos ha]
    by_cases hb : 0 ≤ b
    · have d2 : decide (0 ≤ b) = true := by simpa using hb
      rw [if_pos hb]
      go_enter Tryd.func51, Tryd.ntmps51
      go_wp2_with (fail)
      refine bodyPost_ret (results_slice _ _ (w.heap.size + 1) 1 1 37 rfl ?_) rfl ⟨rfl, (((Below.refl _ _).alloc (Nat.le_refl _) _).alloc (by simp) _).alloc (by simp; omega) _⟩
      rw [Below.heap_alloc _ _ _ (by simp)]
      have := heap_alloc_new (w.alloc (.cells #[.int .i64 a, .int .i64 b] 37)) (.cells #[.int .i64 1, .int .i64 1] 37)
      simpa using this
    · have d2 : decide (0 ≤ b) = false := by simpa using hb
      rw [if_neg hb]
      go_enter Tryd.func51, Tryd.ntmps51
      go_wp2_with (fail)
      refine bodyPost_ret (results_slice _ _ (w.heap.size + 1) 1 (-1) 37 rfl ?_) rfl ⟨rfl, (((Below.refl _ _).alloc (Nat.le_refl _) _).alloc (by simp) _).alloc (by simp; omega) _⟩
      rw [Below.heap_alloc _ _ _ (by simp)]
      have := heap_alloc_new (w.alloc (.cells #[.int .i64 a, .int .i64 b] 37)) (.cells #[.int .i64 1, .int .i64 (-1)] 37)
      simpa using this
  · have d1 : decide (0 ≤ a) = false := by simpa using ha
    rw [if_neg ha]
    by_cases hb : 0 ≤ b
    · have d2 : decide (0 ≤ b) = true := by simpa using hb
      rw [if_pos hb]
      go_enter Tryd.func51, Tryd.ntmps51
      go_wp2_with (fail)
      refine bodyPost_ret (results_slice _ _ (w.heap.size + 1) (-1) 1 37 rfl ?_) rfl ⟨rfl, (((Below.refl _ _).alloc (Nat.le_refl _) _).alloc (by simp) _).alloc (by simp; omega) _⟩
      rw [Below.heap_alloc _ _ _ (by simp)]
      have := heap_alloc_new (w.alloc (.cells #[.int .i64 a, .int .i64 b] 37)) (.cells #[.int .i64 (-1), .int .i64 1] 37)
      simpa using this
    · have d2 : decide (0 ≤ b) = false := by simpa using hb
      rw [if_neg hb]
      go_enter Tryd.func51, Tryd.ntmps51
      go_wp2_with (fail)
      refine bodyPost_ret (results_slice _ _ (w.heap.size + 1) (-1) (-1) 37 rfl ?_) rfl ⟨rfl, (((Below.refl _ _).alloc (Nat.le_refl _) _).alloc (by simp) _).alloc (by simp; omega) _⟩
      rw [Below.heap_alloc _ _ _ (by simp)]
      have := heap_alloc_new (w.alloc (.cells #[.int .i64 a, .int .i64 b] 37)) (.cells #[.int .i64 (-1), .int .i64 (-1)] 37)
      simpa using this

theorem two_div (n : Nat) : (n : Int).tdiv 4 = ((n / 4 : Nat) : Int) := by
  rw [Int.tdiv_eq_ediv_of_nonneg (by omega)]
  omega
set_option maxHeartbeats 2000000 in
theorem two_any (c : UInt8) (k : Nat) (w : World) (hk : k ≤ 3) :
    Calls Tryd.prog 65 #[.int .u8 (c.toNat : Int), .int .i64 (k : Int)] w fun e w' => e = .returned (.int .i64 (twoB c k : Int)) ∧ w = w' := by
  have hc := c.toNat_lt
  have HT : Hid (∀ m, c.toNat / 4 ^ (3 - k) = m → ((m : Int).tmod 4 = (twoB c k : Int))) := by
    intro m hm
    unfold twoB
    rw [hm, Int.tmod_eq_emod_of_nonneg (by omega)]
    omega
  generalize twoB c k = r at *
  go_enter Tryd.func65, Tryd.ntmps65
  go_wp2_with (fail)
  go_loopw [5, 6] (fun v i wr => ∃ j m : Nat, k ≤ j ∧ j ≤ 3 ∧ i = .int .i64 (j : Int) ∧ v = .int .i64 (m : Int) ∧ Hid (c.toNat / 4 ^ (3 - j) = m) ∧ m ≤ 255 ∧ w = wr) (fun _ i _ => (intOf i).toNat)
  case atStart => exact ⟨3, c.toNat, hk, Nat.le_refl _, rfl, rfl, Nat.div_one _, by omega, rfl⟩
  case round =>
    obtain ⟨j, m, h1, h2, rfl, rfl, HM, h3, rfl⟩ := hrel
    by_cases hlt : k < j
    · have d1 : decide ((k : Int) < (j : Int)) = true := by simp; omega
      have hd : (m : Int).tdiv 4 = ((m / 4 : Nat) : Int) := two_div m
      have HN : Hid (c.toNat / 4 ^ (3 - (j - 1)) = m / 4) := by
        show _ = _
        rw [show 3 - (j - 1) = 3 - j + 1 by omega, Nat.pow_succ, ← Nat.div_div_eq_div_mul, HM.out]
      have hm4 : m / 4 ≤ 255 := by omega
      generalize m / 4 = m4 at *
      go_wp2
      go_roundw
      case rel => exact ⟨j - 1, m4, by omega, by omega, by congr 1; omega, rfl, HN.out, hm4, trivial⟩
      case measure => simp [intOf]; omega
    · obtain rfl : j = k := by omega
      have d1 : decide ((j : Int) < (j : Int)) = false := by simp
      have HF := Lib.hid (HT.out m HM.out)
      go_wp2
      go_ret
      exact ⟨ret_int HF.out, rfl⟩

set_option maxHeartbeats 2000000 in
theorem step_any (a b : Pt) (w : World) :
    Calls Tryd.prog 74 #[.agg #[.int .i64 a.1, .int .i64 a.2], .agg #[.int .i64 b.1, .int .i64 b.2]] w fun e w' => e = .returned (.int .i64 (stepI a b)) ∧ Below w.heap.size w w' := by
  have H1 := Lib.hid (fun W => kind_any a W)
  have H2 := Lib.hid (fun W => kind_any b W)
  have hr1 := kindI_range a
  have hr2 := kindI_range b
  have HS : Hid (stepI a b = if kindI a < 0 ∨ kindI b < 0 then -1 else (kindI b - kindI a) % 4) := rfl
  generalize kindI a = p at *
  generalize kindI b = q at *
  generalize stepI a b = s at *
  have HR := Lib.hid (fun W => rest_any (q - p) W)
  have hc := rest4_cast (q - p)
  obtain ⟨a1, a2⟩ := a
  obtain ⟨b1, b2⟩ := b
  simp only at H1 H2
  have HB : Hid (∀ j, ((w.alloc (.cells #[.int .i64 a1, .int .i64 a2] 37)).alloc (.cells #[.int .i64 b1, .int .i64 b2] 37)).cell? ⟨w.heap.size, j, none⟩ = (#[.int .i64 a1, .int .i64 a2] : Array Value)[j]? ∧ ((w.alloc (.cells #[.int .i64 a1, .int .i64 a2] 37)).alloc (.cells #[.int .i64 b1, .int .i64 b2] 37)).cell? ⟨w.heap.size + 1, j, none⟩ = (#[.int .i64 b1, .int .i64 b2] : Array Value)[j]?) := by
    intro j
    constructor
    · have h : ((w.alloc (.cells #[.int .i64 a1, .int .i64 a2] 37)).alloc (.cells #[.int .i64 b1, .int .i64 b2] 37)).heap[w.heap.size]? = some (.cells #[.int .i64 a1, .int .i64 a2] 37) := by
        rw [Below.heap_alloc _ _ _ (by simp)]
        exact heap_alloc_new w _
      exact cell_of_row _ _ _ _ _ _ h
    · have h := heap_alloc_new (w.alloc (.cells #[.int .i64 a1, .int .i64 a2] 37)) (.cells #[.int .i64 b1, .int .i64 b2] 37)
      rw [show (w.alloc (.cells #[.int .i64 a1, .int .i64 a2] 37)).heap.size = w.heap.size + 1 by simp] at h
      exact cell_of_row _ _ _ _ _ _ h
  go_enter Tryd.func74, Tryd.ntmps74
  go_wp2_with (fail)
  go_region_held3 (fun w' => (w'.cell? ⟨w.heap.size, 0, none⟩ = some (.int .i64 a1) ∧ w'.cell? ⟨w.heap.size, 1, none⟩ = some (.int .i64 a2)) ∧ w'.cell? ⟨w.heap.size + 1, 0, none⟩ = some (.int .i64 b1) ∧ w'.cell? ⟨w.heap.size + 1, 1, none⟩ = some (.int .i64 b2))
    (first | exact ⟨⟨(HB.out 0).1, (HB.out 1).1⟩, (HB.out 0).2, (HB.out 1).2⟩ | exact q6 | exact q5)
    (first
      | (go_at_call_of 73 (Value.agg #[.int .i64 a1, .int .i64 a2]); (refine (H1.out _).mono ?_); rintro e w5 ⟨rfl, G5⟩; have K5 := undrew G5; have q5 : (w5.cell? ⟨w.heap.size, 0, none⟩ = some (.int .i64 a1) ∧ w5.cell? ⟨w.heap.size, 1, none⟩ = some (.int .i64 a2)) ∧ w5.cell? ⟨w.heap.size + 1, 0, none⟩ = some (.int .i64 b1) ∧ w5.cell? ⟨w.heap.size + 1, 1, none⟩ = some (.int .i64 b2) := ⟨⟨(K5.cell (p := ⟨w.heap.size, 0, none⟩) (by simp; omega)).trans (HB.out 0).1, (K5.cell (p := ⟨w.heap.size, 1, none⟩) (by simp; omega)).trans (HB.out 1).1⟩, (K5.cell (p := ⟨w.heap.size + 1, 0, none⟩) (by simp)).trans (HB.out 0).2, (K5.cell (p := ⟨w.heap.size + 1, 1, none⟩) (by simp)).trans (HB.out 1).2⟩)
      | (go_at_call_of 73 (Value.agg #[.int .i64 b1, .int .i64 b2]); (refine (H2.out _).mono ?_); rintro e w6 ⟨rfl, G6⟩; have z5 : w.heap.size + 1 < w5.heap.size := (by have := K5.size; simp at this; omega); have q6 : (w6.cell? ⟨w.heap.size, 0, none⟩ = some (.int .i64 a1) ∧ w6.cell? ⟨w.heap.size, 1, none⟩ = some (.int .i64 a2)) ∧ w6.cell? ⟨w.heap.size + 1, 0, none⟩ = some (.int .i64 b1) ∧ w6.cell? ⟨w.heap.size + 1, 1, none⟩ = some (.int .i64 b2) := ⟨⟨(G6.cell (p := ⟨w.heap.size, 0, none⟩) (by simp; omega)).trans q5.1.1, (G6.cell (p := ⟨w.heap.size, 1, none⟩) (by simp; omega)).trans q5.1.2⟩, (G6.cell (p := ⟨w.heap.size + 1, 0, none⟩) (by simp; omega)).trans q5.2.1, (G6.cell (p := ⟨w.heap.size + 1, 1, none⟩) (by simp; omega)).trans q5.2.2⟩))
  have T5 : Below w.heap.size w w5 := (((Below.refl w.heap.size w).alloc (Nat.le_refl _) _).alloc (by simp) _).trans (K5.mono (by simp; omega))
  have T6 := nxt T5 G6
  clear HB q5 q6 K5 G5 H1 H2
  by_cases hp : p < 0
  · have d1 : decide (p < 0) = true := by simpa using hp
    have HF : Hid (s = -1) := by rw [HS.out, if_pos (.inl hp)]; rfl
    clear hp hc
    go_wp2
    go_ret
    exact ⟨ret_int HF.out.symm, T6⟩
  · have d1 : decide (p < 0) = false := by simpa using hp
    by_cases hq : q < 0
    · have d2 : decide (q < 0) = true := by simpa using hq
      have HF : Hid (s = -1) := by rw [HS.out, if_pos (.inr hq)]; rfl
      clear hq hc
      go_wp2
      go_ret
      exact ⟨ret_int HF.out.symm, T6⟩
    · have d2 : decide (q < 0) = false := by simpa using hq
      have HF : Hid (s = (rest4 (q - p) : Int)) := by show _ = _; rw [HS.out, if_neg (by omega), hc]
      clear hc
      generalize rest4 (q - p) = r at *
      go_wp2_with (fail)
      refine (HR.out _).mono ?_
      rintro e w7 ⟨rfl, rfl⟩
      go_wp2
      go_ret
      exact ⟨ret_int HF.out.symm, T6⟩
end Go.Proofs.YtkcpkfimmolkkaaDoor

/- What kedgeref07's Turn and Points answer. -/
namespace Go.Proofs.YtkcpkfimmolkkaaDoor
open Go.RowKit
set_option maxRecDepth 20000

/-- parts that a turn may negate -/
def Tame (l : List Pt) : Prop := ∀ p ∈ l, -4611686018427387904 ≤ p.1 ∧ p.1 ≤ 4611686018427387904 ∧ -4611686018427387904 ≤ p.2 ∧ p.2 ≤ 4611686018427387904

set_option maxHeartbeats 2000000 in
theorem rturn_any (A : Option Addr) (n c : Nat) (l : List Pt) (k : Int) (w : World) (hP : Ps w A n c l) (hn : n ≤ 1000000) (hT : Tame l) :
    Calls Tryd.prog 22 #[.slice A n c, .int .i64 k] w (GivesP w (turnB l k)) := by
  obtain ⟨hl, hnc, hcm, hcell⟩ := hP
  unfold maxLen at hcm
  subst hl
  have HC := Lib.hid hcell
  have HT := Lib.hid hT
  clear hcell hT
  go_enter Tryd.func22, Tryd.ntmps22
  go_wp2_with (fail)
  go_loopw [5, 6] (fun v i wr => ∃ j : Nat, j ≤ l.length ∧ i = .int .i64 (j : Int) ∧ OwnP wr w.heap.size v (turnB (l.take j) k) ∧ Below w.heap.size w wr) (fun _ i _ => l.length - (intOf i).toNat)
  case atStart => exact ⟨0, Nat.zero_le _, rfl, OwnP.nil _ _, Below.refl _ _⟩
  case round =>
    obtain ⟨j, hj, rfl, hown, hbel⟩ := hrel
    by_cases hlt : j < l.length
    · obtain ⟨g, o, rfl, hg, hc⟩ := HC.out (by omega)
      obtain ⟨c1, c2⟩ := hc j hlt
      have c1 := (hbel.cell (p := ⟨g, o + j * 2, none⟩) hg).trans c1
      have c2 := (hbel.cell (p := ⟨g, o + j * 2 + 1, none⟩) hg).trans c2
      have hta := HT.out l[j] (List.getElem_mem hlt)
      have hst : turnB (l.take (j + 1)) k = turnB (l.take j) k ++ [rotK k l[j]] := by
        unfold turnB
        rw [List.take_succ_eq_append_getElem hlt, List.map_append]
        rfl
      have hTM := times_any l[j] k wr hta
      have hlen : (turnB (l.take j) k).length ≤ 1000000 := by unfold turnB; simp; omega
      generalize rotK k l[j] = q at *
      generalize turnB (l.take j) k = cur at *
      generalize l[j] = x at *
      obtain ⟨xa, xb⟩ := x
      simp only at c1 c2
      have HTM := Lib.hid hTM
      have HST := Lib.hid hst
      have HON := Lib.hid hown
      clear hTM hst hown hc hta
      obtain ⟨qa, qb⟩ := q
      go_wp2_with (fail)
      refine HTM.out.mono ?_
      rintro e w2 ⟨rfl, T2⟩
      have hbel2 := nxt hbel T2
      have hz := hbel2.size
      have HO2 := Lib.hid (HON.out.below T2)
      go_wp2_with ((refine app_pt _ rfl (.tmp 13) (.tmp 20) rfl w.heap.size u5 cur rfl ?_ w2.heap.size (qa, qb) rfl ?_ ?_ ?_ ?_); (exact HO2.out.below ((Below.refl _ _).alloc (Nat.le_refl _) _)); (exact heap_alloc_new w2 _); (omega); (simp; omega); intro v3 w3 hown3 hgrow3 hwhere3; have HO3 := Lib.hid (And.intro hown3 hgrow3); clear hown3 hgrow3 hwhere3)
      go_roundw
      case rel =>
        refine ⟨j + 1, by omega, by go_num, ?_, ?_⟩
        · rw [HST.out]
          exact HO3.out.1
        · exact (hbel2.alloc hz _).grown HO3.out.2 (by simp; omega) (fun k' hk => (HO2.out.lt k' hk).1)
      case measure => simp [intOf]; omega
    · obtain rfl : j = l.length := by omega
      rw [List.take_length] at hown
      have HON := Lib.hid hown
      clear hown
      go_wp2
      go_ret
      exact ⟨_, rfl, HON.out, hbel⟩
end Go.Proofs.YtkcpkfimmolkkaaDoor

/- What kedgeref07's Points answers. -/
namespace Go.Proofs.YtkcpkfimmolkkaaDoor
open Go.RowKit
set_option maxRecDepth 20000

theorem twos_all (c : UInt8) : (List.range 4).map (twoB c) = [twoB c 0, twoB c 1, twoB c 2, twoB c 3] := rfl
theorem twos_succ (c : UInt8) (j : Nat) : (List.range (j + 1)).map (twoB c) = (List.range j).map (twoB c) ++ [twoB c j] := by rw [List.range_succ, List.map_append]; rfl
/-- the points so far -/
def wP (s : List Nat) : List Pt := (1, 1) :: walkP (1, 1) s
theorem wP_snoc (s : List Nat) (k : Nat) : wP (s ++ [k]) = wP s ++ [rotN k (endP (1, 1) s)] := by unfold wP; rw [walkP_snoc]; rfl
theorem wP_len (s : List Nat) : (wP s).length = s.length + 1 := by unfold wP; rw [List.length_cons, walkP_len]
theorem endP_unit (s : List Nat) : ∃ q, q < 4 ∧ endP (1, 1) s = unit q := by
  have key : ∀ (s : List Nat) (q : Nat), ∃ q', endP (unit q) s = unit (q' % 4) := by
    intro s
    induction s with
    | nil => intro q; exact ⟨q, by rw [show endP (unit q) [] = unit q from rfl]; unfold unit; exact rotN_mod _ _⟩
    | cons k r ih =>
      intro q
      have : endP (unit q) (k :: r) = endP (rotN k (unit q)) r := rfl
      rw [this, unit_rot]
      exact ih _
  obtain ⟨q', h⟩ := key s 0
  exact ⟨q' % 4, by omega, h⟩
theorem unit_parts (q : Nat) (h : q < 4) : ((unit q).1 = 1 ∨ (unit q).1 = -1) ∧ ((unit q).2 = 1 ∨ (unit q).2 = -1) := by
  match q, h with
  | 0, _ => decide +kernel
  | 1, _ => decide +kernel
  | 2, _ => decide +kernel
  | 3, _ => decide +kernel
theorem endP_tame (s : List Nat) : -4611686018427387904 ≤ (endP (1, 1) s).1 ∧ (endP (1, 1) s).1 ≤ 4611686018427387904 ∧ -4611686018427387904 ≤ (endP (1, 1) s).2 ∧ (endP (1, 1) s).2 ≤ 4611686018427387904 := by
  obtain ⟨q, h1, h2⟩ := endP_unit s
  rw [h2]
  have := unit_parts q h1
  omega
theorem twoB_lt (c : UInt8) (k : Nat) : twoB c k < 4 := by unfold twoB; omega

theorem OwnP.set {w : World} {B : Nat} {v : Value} {l : List Pt} (h : OwnP w B v l) (g k : Nat) (u : Value) (hg : g < B) : OwnP (w.setCell ⟨g, k, none⟩ u) B v l := by
  refine ⟨h.1, ?_⟩
  rcases h.2 with h2 | ⟨g', cap, cur, hv, hb, hh, r⟩
  · exact .inl h2
  · exact .inr ⟨g', cap, cur, hv, hb, (heap_setCell_other w ⟨g, k, none⟩ g' u (by show g' ≠ g; omega)).trans hh, r⟩
set_option maxHeartbeats 4000000 in
theorem rpoints_any (A : Option Addr) (n c : Nat) (b : List UInt8) (w : World) (hB : Bys w A n c b) :
    Calls Tryd.prog 36 #[.slice A n c] w (GivesP w (pointsB b)) := by
  by_cases hbig : 4096 < n
  · have d : decide ((4096 : Int) < (n : Int)) = true := by simp; omega
    have HP : Hid (pointsB b = []) := by show _ = _; unfold pointsB; rw [if_pos (by rw [hB.len]; exact hbig)]
    clear hB hbig
    go_enter Tryd.func36, Tryd.ntmps36
    go_wp2
    go_ret
    exact ⟨_, rfl, by rw [HP.out]; exact OwnP.nil _ _, Below.refl _ _⟩
  · have d : decide ((4096 : Int) < (n : Int)) = false := by simp; omega
    have HP : Hid (pointsB b = wP (stepsB b)) := by show _ = _; unfold pointsB wP; rw [if_neg (by rw [hB.len]; exact hbig)]
    obtain ⟨hl, hnc, hcm, hcell⟩ := hB
    unfold maxLen at hcm
    subst hl
    have hn : b.length ≤ 4096 := by omega
    have HC := Lib.hid hcell
    clear hcell hbig
    have hY : ((w.alloc (.cells #[.int .i64 1, .int .i64 1] 37)).alloc (.cells #[.int .i64 1, .int .i64 1] 37)).heap[w.heap.size]? = some (.cells #[.int .i64 1, .int .i64 1] 37 (0, 0)) := by
      rw [Below.heap_alloc _ _ _ (by simp)]
      exact heap_alloc_new w _
    have hO := OwnP.lit (w.alloc (.cells #[.int .i64 1, .int .i64 1] 37)) (w.heap.size + 1) [(1, 1)] (by simp) (by decide)
    have hO2 : OwnP ((w.alloc (.cells #[.int .i64 1, .int .i64 1] 37)).alloc (.cells #[.int .i64 1, .int .i64 1] 37)) (w.heap.size + 1) (.slice (some ⟨w.heap.size + 1, 0, none⟩) 1 1) (wP []) := by
      have e : (w.alloc (.cells #[.int .i64 1, .int .i64 1] 37)).heap.size = w.heap.size + 1 := by simp
      rw [e] at hO
      exact hO
    have HI := Lib.hid (And.intro hY hO2)
    clear hY hO hO2
    go_enter Tryd.func36, Tryd.ntmps36
    go_wp2_with (fail)
    go_loopw [4, 5] (fun v i wr => ∃ k : Nat, k ≤ b.length ∧ i = .int .i64 (k : Int) ∧ Hid (OwnP wr (w.heap.size + 1) v (wP (stepsB (b.take k))) ∧ wr.heap[w.heap.size]? = some (.cells #[.int .i64 (endP (1, 1) (stepsB (b.take k))).1, .int .i64 (endP (1, 1) (stepsB (b.take k))).2] 37 (0, 0)) ∧ Below w.heap.size w wr ∧ w.heap.size + 1 ≤ wr.heap.size)) (fun _ i _ => b.length - (intOf i).toNat)
    case atStart => exact ⟨0, Nat.zero_le _, rfl, HI.out.2, HI.out.1, ((Below.refl _ _).alloc (Nat.le_refl _) _).alloc (by simp) _, by simp⟩
    case round =>
      obtain ⟨k, hk, rfl, HW⟩ := hrel
      by_cases hlt : k < b.length
      · obtain ⟨g, o, rfl, hg, hc⟩ := HC.out (by omega)
        have hc1 := hc k hlt
        have hst := stepsB_take b k hlt
        rw [← twos_all] at hst
        have hsl : (stepsB (b.take k)).length ≤ 16384 := by rw [stepsB_len]; simp; omega
        generalize b[k] = x at *
        have HST := Lib.hid hst
        have HC1 := Lib.hid hc1
        clear hc hst hc1
        generalize stepsB (b.take k) = s at *
        go_wp2_with (fail)
        go_loopw [4, 6] (fun v i wr => ∃ j : Nat, j ≤ 4 ∧ i = .int .i64 (j : Int) ∧ Hid (OwnP wr (w.heap.size + 1) v (wP (s ++ (List.range j).map (twoB x))) ∧ wr.heap[w.heap.size]? = some (.cells #[.int .i64 (endP (1, 1) (s ++ (List.range j).map (twoB x))).1, .int .i64 (endP (1, 1) (s ++ (List.range j).map (twoB x))).2] 37 (0, 0)) ∧ Below w.heap.size w wr ∧ w.heap.size + 1 ≤ wr.heap.size)) (fun _ i _ => 4 - (intOf i).toNat)
        case atStart => exact ⟨0, Nat.zero_le _, rfl, by show _ ∧ _; simpa using HW.out⟩
        case round =>
          obtain ⟨j, hj, rfl, HW2⟩ := hrel
          by_cases hlt2 : j < 4
          · obtain ⟨t, ht⟩ : ∃ t, t = s ++ (List.range j).map (twoB x) := ⟨_, rfl⟩
            have hw2 := HW2.out
            rw [← ht] at hw2
            have ht2 : s ++ (List.range (j + 1)).map (twoB x) = t ++ [twoB x j] := by rw [twos_succ, ← List.append_assoc, ← ht]
            have htl : t.length ≤ 20000 := by rw [ht]; simp; omega
            have het := endP_tame t
            have hw := wP_snoc t (twoB x j)
            have he : endP (1, 1) (t ++ [twoB x j]) = rotN (twoB x j) (endP (1, 1) t) := endP_snoc _ _ _
            have htw := times_any (endP (1, 1) t) (twoB x j : Int)
            have hrk : rotK (twoB x j : Int) (endP (1, 1) t) = rotN (twoB x j) (endP (1, 1) t) := by unfold rotK; rw [rest4_nat, Nat.mod_eq_of_lt (twoB_lt x j)]
            rw [hrk] at htw
            have h2 := fun W => two_any x j W (by omega)
            have hwl := wP_len t
            generalize rotN (twoB x j) (endP (1, 1) t) = q at *
            generalize endP (1, 1) t = z at *
            generalize twoB x j = tw at *
            obtain ⟨qa, qb⟩ := q
            obtain ⟨za, zb⟩ := z
            have HTW := Lib.hid (fun W => htw W het)
            have H2 := Lib.hid h2
            have HWP := Lib.hid (And.intro ht2 (And.intro hw he))
            have hbel := hw2.2.2.1
            have hz := hw2.2.2.2
            have c0 : wr.cell? ⟨w.heap.size, 0, none⟩ = some (.int .i64 za) := cell_of_row _ _ _ _ _ _ hw2.2.1
            have c1 : wr.cell? ⟨w.heap.size, 1, none⟩ = some (.int .i64 zb) := cell_of_row _ _ _ _ _ _ hw2.2.1
            have cb := (hbel.cell (p := ⟨g, o + k, none⟩) hg).trans HC1.out
            have HV := Lib.hid hw2
            clear ht ht2 hw he htw hrk h2 hw2 het HW HW2
            go_wp2_with (fail)
            go_region_with (first
              | (go_at_call 65; (refine (H2.out _).mono ?_); rintro e w4 ⟨rfl, rfl⟩)
              | (go_at_call 24; (refine (HTW.out _).mono ?_); rintro e w5 ⟨rfl, G5⟩; have K5 : Below wr.heap.size wr w5 := undrew G5; have z5 := K5.size; have HB5 := Lib.hid ((K5.block w.heap.size (by omega)).trans HV.out.2.1); have f0 : w5.frozen? ⟨w.heap.size, 0, none⟩ = false := frozen_of_row _ _ _ _ _ HB5.out; have f1 : w5.frozen? ⟨w.heap.size, 1, none⟩ = false := frozen_of_row _ _ _ _ _ HB5.out; have c05 : w5.cell? ⟨w.heap.size, 0, none⟩ = some (.int .i64 za) := cell_of_row _ _ _ _ _ _ HB5.out; have c15 : w5.cell? ⟨w.heap.size, 1, none⟩ = some (.int .i64 zb) := cell_of_row _ _ _ _ _ _ HB5.out))
            all_goals
              have hO6 := ((HV.out.1.below K5).set w.heap.size 0 (.int .i64 qa) (by omega)).set w.heap.size 1 (.int .i64 qb) (by omega)
              have hB6 := heap_setCell_same _ w.heap.size 1 _ _ (.int .i64 qb) (heap_setCell_same w5 w.heap.size 0 _ _ (.int .i64 qa) HB5.out)
              have T6 := ((nxt hbel K5).setCell (p := ⟨w.heap.size, 0, none⟩) (Nat.le_refl _) (.int .i64 qa)).setCell (p := ⟨w.heap.size, 1, none⟩) (Nat.le_refl _) (.int .i64 qb)
              have z6 : w.heap.size + 1 ≤ ((w5.setCell ⟨w.heap.size, 0, none⟩ (.int .i64 qa)).setCell ⟨w.heap.size, 1, none⟩ (.int .i64 qb)).heap.size := by simp; omega
              generalize (w5.setCell ⟨w.heap.size, 0, none⟩ (.int .i64 qa)).setCell ⟨w.heap.size, 1, none⟩ (.int .i64 qb) = w6 at *
              have hB6 : w6.heap[w.heap.size]? = some (.cells #[.int .i64 qa, .int .i64 qb] 37 (0, 0)) := hB6
              have d0 : w6.cell? ⟨w.heap.size, 0, none⟩ = some (.int .i64 qa) := cell_of_row _ _ _ _ _ _ hB6
              have d1 : w6.cell? ⟨w.heap.size, 1, none⟩ = some (.int .i64 qb) := cell_of_row _ _ _ _ _ _ hB6
              have HO6 := Lib.hid hO6
              have HB6 := Lib.hid hB6
              clear hO6 hB6 c0 c1 cb f0 f1 c05 c15 HB5 HV H2 HTW G5 K5 z5
              go_wp2_with ((refine app_pt _ rfl (.tmp 31) (.tmp 33) rfl (w.heap.size + 1) u4 (wP t) rfl ?_ w6.heap.size (qa, qb) rfl ?_ ?_ ?_ ?_); (exact HO6.out.below ((Below.refl _ _).alloc (Nat.le_refl _) _)); (exact heap_alloc_new w6 _); (omega); (simp; omega); intro v7 w7 hown7 hgrow7 hwhere7; have HO7 := Lib.hid (And.intro hown7 hgrow7); clear hown7 hgrow7 hwhere7)
              go_roundw
              case rel =>
                refine ⟨j + 1, by omega, by go_num, ?_, ?_, ?_, ?_⟩
                · rw [HWP.out.1, HWP.out.2.1]
                  exact HO7.out.1
                · rw [HWP.out.1, HWP.out.2.2]
                  refine (HO7.out.2.block w.heap.size (by simp; omega) (fun e => by have := (HO6.out.lt _ e.symm).1; omega)).trans ?_
                  exact ((Below.refl w6.heap.size w6).alloc (Nat.le_refl _) _).block w.heap.size (by omega) |>.trans HB6.out
                · exact (T6.alloc (by omega) _).grown HO7.out.2 (by simp; omega) (fun k' hk => by have := (HO6.out.lt k' hk).1; omega)
                · have := HO7.out.2.size
                  simp at this
                  omega
              case measure => simp [intOf]; omega
          · obtain rfl : j = 4 := by omega
            have hw2 := HW2.out
            rw [← HST.out] at hw2
            have HF := Lib.hid hw2
            clear HW2 hw2
            go_wp2
            go_roundw
            case rel => exact ⟨k + 1, by omega, by go_num, HF.out⟩
            case measure => simp [intOf]; omega
      · obtain rfl : k = b.length := by omega
        have hw2 := HW.out
        rw [List.take_length, ← HP.out] at hw2
        have HF := Lib.hid hw2
        clear HW hw2
        go_wp2
        go_ret
        exact ⟨_, rfl, HF.out.1.mono (by omega), HF.out.2.2.1⟩
end Go.Proofs.YtkcpkfimmolkkaaDoor

/- What kedgeref07's Bytes answers. -/
namespace Go.Proofs.YtkcpkfimmolkkaaDoor
open Go.RowKit
set_option maxRecDepth 20000

/-- A call's end that makes a []byte and tells a number beside it. -/
def GivesT (w : World) (r : List UInt8 × Int) (e : Ending) (w' : World) : Prop :=
  ∃ A n c, e = .returned (.tuple #[.slice A n c, .int .i64 r.2]) ∧ Bys w' A n c r.1 ∧ Below w.heap.size w w'
theorem bytesB_long {l : List Pt} (h : 16385 < l.length) : bytesB l = ([], 2) := by unfold bytesB; rw [if_pos h]
theorem bytesB_form {l : List Pt} (h : ¬ 16385 < l.length) (h2 : l.length % 4 ≠ 1 ∨ kindI (l.getD 0 (0, 0)) < 0) : bytesB l = ([], 70) := by unfold bytesB; rw [if_neg h, if_pos h2]
theorem bytesB_step {l : List Pt} (h : ¬ 16385 < l.length) (h2 : ¬ (l.length % 4 ≠ 1 ∨ kindI (l.getD 0 (0, 0)) < 0)) (i : Nat) (h0 : 0 < i) (hi : i < l.length) (hs : stepI (l[i - 1]'(by omega)) l[i] < 0) : bytesB l = ([], 70) := by
  unfold bytesB
  rw [if_neg h, if_neg h2, if_pos]
  have e := stepsP_take l i h0 hi
  have hsub : ∀ k ∈ stepsP (l.take (i + 1)), k ∈ stepsP l := by
    have key : ∀ (l : List Pt) (m : Nat), ∀ k ∈ stepsP (l.take m), k ∈ stepsP l := by
      intro l
      induction l with
      | nil => intro m k hk; simpa using hk
      | cons a r ih =>
        intro m k hk
        match m, r with
        | 0, _ => simp [stepsP] at hk
        | m + 1, [] => simpa using hk
        | 1, b :: r => simp [stepsP] at hk
        | m + 2, b :: r =>
          simp only [List.take_succ_cons, stepsP, List.mem_cons] at hk ⊢
          rcases hk with hk | hk
          · exact .inl hk
          · exact .inr (ih (m + 1) k (by simpa using hk))
    exact key l (i + 1)
  exact ⟨_, hsub _ (by rw [e]; simp), hs⟩
theorem bytesB_ok {l : List Pt} (h : ¬ 16385 < l.length) (h2 : ¬ (l.length % 4 ≠ 1 ∨ kindI (l.getD 0 (0, 0)) < 0)) (h3 : ∀ k ∈ stepsP l, 0 ≤ k) : bytesB l = ((pkRun (stepsP l)).out, 0) := by
  unfold bytesB
  rw [if_neg h, if_neg h2, if_neg (by rintro ⟨k, hk, h4⟩; have := h3 k hk; omega)]
theorem stepsP_le (l : List Pt) : ∀ k ∈ stepsP l, k ≤ 3 := by
  induction l with
  | nil => intro k hk; simp [stepsP] at hk
  | cons a r ih =>
    match r with
    | [] => intro k hk; simp [stepsP] at hk
    | b :: r =>
      intro k hk
      simp only [stepsP, List.mem_cons] at hk
      rcases hk with rfl | hk
      · exact (stepI_range a b).2
      · exact ih k hk
theorem pk_len (l : List Int) : ∀ s : Pk, (l.foldl pkStep s).out.length ≤ s.out.length + l.length := by
  induction l with
  | nil => intro s; simp
  | cons k r ih =>
    intro s
    rw [List.foldl_cons]
    have h1 := ih (pkStep s k)
    have h2 : (pkStep s k).out.length ≤ s.out.length + 1 := by unfold pkStep; split <;> simp
    simp only [List.length_cons]
    omega
theorem tmod_nat (i : Nat) : (i : Int).tmod 4 = ((i % 4 : Nat) : Int) := by rw [Int.tmod_eq_emod_of_nonneg (by omega)]; omega

set_option maxHeartbeats 4000000 in
theorem rbytes_any (A : Option Addr) (n c : Nat) (l : List Pt) (w : World) (hP : Ps w A n c l) :
    Calls Tryd.prog 44 #[.slice A n c] w (GivesT w (bytesB l)) := by
  obtain ⟨hl, hnc, hcm, hcell⟩ := hP
  unfold maxLen at hcm
  subst hl
  have HC := Lib.hid hcell
  clear hcell
  by_cases hbig : 16385 < l.length
  · have d : decide ((16385 : Int) < (l.length : Int)) = true := by simp; omega
    have HR := Lib.hid (bytesB_long hbig)
    clear hbig HC
    go_enter Tryd.func44, Tryd.ntmps44
    go_wp2
    go_ret2
    exact ⟨_, _, _, by rw [HR.out]; rfl, by rw [HR.out]; exact Bys.nil _, Below.refl _ _⟩
  · have d : decide ((16385 : Int) < (l.length : Int)) = false := by simp; omega
    by_cases hm : l.length % 4 = 1
    · have e1 : (((l.length : Int) % 4) != 1) = false := by simp; omega
      have h0l : 0 < l.length := by omega
      obtain ⟨g, o, rfl, hg, hc⟩ := HC.out (by omega)
      obtain ⟨p1, p2⟩ := hc 0 (by omega)
      simp only [Nat.zero_mul, Nat.add_zero] at p1 p2
      have hg0 : l.getD 0 (0, 0) = l[0]'h0l := by simp [List.getD_eq_getElem?_getD, List.getElem?_eq_getElem (show 0 < l.length by omega)]
      have HK := Lib.hid (fun W => kind_any (l[0]'h0l) W)
      by_cases hk : kindI (l[0]'h0l) < 0
      · have d2 : decide (kindI (l[0]'h0l) < 0) = true := by simpa using hk
        have HR := Lib.hid (bytesB_form hbig (.inr (by rw [hg0]; exact hk)))
        generalize kindI (l[0]'h0l) = kk at *
        generalize (l[0]'h0l) = z at *
        obtain ⟨za, zb⟩ := z
        simp only at p1 p2
        clear hc HC hg0 hm hk
        go_enter Tryd.func44, Tryd.ntmps44
        go_wp2_with (fail)
        refine (HK.out _).mono ?_
        rintro e w1 ⟨rfl, T1⟩
        go_wp2
        go_ret2
        exact ⟨_, _, _, by rw [HR.out]; rfl, by rw [HR.out]; exact Bys.nil _, T1⟩
      · have d2 : decide (kindI (l[0]'h0l) < 0) = false := by simpa using hk
        have hform : ¬ (l.length % 4 ≠ 1 ∨ kindI (l.getD 0 (0, 0)) < 0) := by rw [hg0]; omega
        have HS : Hid (∀ (i : Nat) (hi : i + 1 < l.length), stepI (l[i]'(Nat.lt_of_succ_lt hi)) l[i + 1] < 0 → bytesB l = ([], 70)) := fun i hi hs => bytesB_step hbig hform (i + 1) (by omega) hi hs
        have HO : Hid ((∀ k ∈ stepsP l, 0 ≤ k) → bytesB l = ((pkRun (stepsP l)).out, 0)) := fun h => bytesB_ok hbig hform h
        have HC2 := Lib.hid hc
        generalize kindI (l[0]'h0l) = kk at *
        generalize (l[0]'h0l) = z at *
        obtain ⟨za, zb⟩ := z
        simp only at p1 p2
        clear hc hg0 hk hform
        have hn : l.length ≤ 16385 := by omega
        go_enter Tryd.func44, Tryd.ntmps44
        go_wp2_with (fail)
        refine (HK.out _).mono ?_
        rintro e w1 ⟨rfl, T1⟩
        clear p1 p2 HK
        go_wp2_with (fail)
        go_loopw [4, 5, 6] (fun v m i wr => ∃ j : Nat, j + 1 ≤ l.length ∧ i = .int .i64 ((j + 1 : Nat) : Int) ∧ ∃ x : Nat, m = .int .i64 (x : Int) ∧ x ≤ 63 ∧ Hid ((pkRun (stepsP (l.take (j + 1)))).n = x ∧ wr.ownsRow w.heap.size 5 1 v (pkRun (stepsP (l.take (j + 1)))).out.length (bvs (pkRun (stepsP (l.take (j + 1)))).out) ∧ (∀ k ∈ stepsP (l.take (j + 1)), 0 ≤ k)) ∧ Below w.heap.size w wr) (fun _ _ i _ => l.length - (intOf i).toNat)
        case atStart =>
          refine ⟨0, by omega, rfl, 0, rfl, by omega, ?_, T1⟩
          have e : stepsP (l.take (0 + 1)) = [] := by
            match l with
            | [] => rfl
            | [a] => rfl
            | a :: b :: r => rfl
          rw [e]
          exact ⟨rfl, ⟨rfl, .inl ⟨rfl, rfl⟩⟩, fun k hk => by cases hk⟩
        case round =>
          obtain ⟨j, hj, rfl, x, rfl, hx, HW, hbel⟩ := hrel
          by_cases hlt : j + 1 < l.length
          · obtain ⟨a1, a2⟩ := HC2.out j (by omega)
            obtain ⟨b1, b2⟩ := HC2.out (j + 1) hlt
            have a1 := (hbel.cell (p := ⟨g, o + j * 2, none⟩) hg).trans a1
            have a2 := (hbel.cell (p := ⟨g, o + j * 2 + 1, none⟩) hg).trans a2
            have b1 := (hbel.cell (p := ⟨g, o + (j + 1) * 2, none⟩) hg).trans b1
            have b2 := (hbel.cell (p := ⟨g, o + (j + 1) * 2 + 1, none⟩) hg).trans b2
            have hst := stepsP_take l (j + 1) (by omega) hlt
            simp only [Nat.add_sub_cancel] at hst
            have hsa := step_any (l[j]'(Nat.lt_of_succ_lt hlt)) l[j + 1]
            have hsb := HS.out j hlt
            have hsr := stepI_range (l[j]'(Nat.lt_of_succ_lt hlt)) l[j + 1]
            have hpc := pkRun_c (stepsP (l.take (j + 1))) (stepsP_le _)
            rw [stepsP_len] at hpc
            have hpn := pkRun_n (stepsP (l.take (j + 1))) (stepsP_le _)
            have hpl := pk_len (stepsP (l.take (j + 1))) ⟨[], 0, 0⟩
            rw [stepsP_len] at hpl
            have hps : pkRun (stepsP (l.take (j + 1 + 1))) = pkStep (pkRun (stepsP (l.take (j + 1)))) (stepI (l[j]'(Nat.lt_of_succ_lt hlt)) l[j + 1]) := by rw [hst, pkRun_snoc]
            have hnn : (0 ≤ stepI (l[j]'(Nat.lt_of_succ_lt hlt)) l[j + 1]) → ∀ k ∈ stepsP (l.take (j + 1 + 1)), 0 ≤ k := fun h k hk => by
              rw [hst] at hk
              rcases List.mem_append.1 hk with hk | hk
              · exact HW.out.2.2 k hk
              · obtain rfl := List.mem_singleton.1 hk
                exact h
            have hlen : (l.take (j + 1)).length = j + 1 := by simp; omega
            rw [hlen] at hpc hpl
            simp only [List.length_nil, Nat.zero_add, Nat.add_sub_cancel] at hpc hpl
            generalize stepI (l[j]'(Nat.lt_of_succ_lt hlt)) l[j + 1] = s at *
            generalize (l[j]'(Nat.lt_of_succ_lt hlt)) = z1 at *
            generalize l[j + 1] = z2 at *
            obtain ⟨z1a, z1b⟩ := z1
            obtain ⟨z2a, z2b⟩ := z2
            simp only at a1 a2 b1 b2 hsa
            have HSA := Lib.hid hsa
            have HSB := Lib.hid hsb
            have hown := HW.out.2.1
            have hxn := HW.out.1
            have hpk : (pkRun (stepsP (l.take (j + 1)))).out.length ≤ 20000 := by show (List.foldl pkStep ⟨[], 0, 0⟩ _).out.length ≤ _; omega
            have HPK := Lib.hid (And.intro hps (And.intro hnn (And.intro hown (And.intro hxn (And.intro hpc (And.intro hpn hpk))))))
            have hw1 : IntKind.i64.wrap (((j + 1 : Nat) : Int) - 1) = (j : Int) := by rw [show (((j + 1 : Nat) : Int) - 1) = (j : Int) by omega]; exact IntWalk.i64_in _ (by omega)
            have hw2 : IntKind.i64.wrap ((j : Int) + 1 - 1) = (j : Int) := by rw [Int.add_sub_cancel]; exact IntWalk.i64_in _ (by omega)
            have hw3 : IntKind.i64.wrap (j : Int) = (j : Int) := IntWalk.i64_in _ (by omega)
            have hj0 : j < l.length := by omega
            have hj1 : (j : Int) < (l.length : Int) := by omega
            have hj2 : (j : Int) + 1 < (l.length : Int) := by omega
            have hj3 : ((j : Int) + 1).toNat = j + 1 := by omega
            have hj4 : (0 : Int) ≤ (j : Int) + 1 := by omega
            clear hst hsa hsb hps hnn hown hxn hpc hpn hlen HW HS hpl hpk
            go_wp2_with (fail)
            go_region_held3 (fun w' => (w'.cell? ⟨g, o + j * 2, none⟩ = some (.int .i64 z1a) ∧ w'.cell? ⟨g, o + j * 2 + 1, none⟩ = some (.int .i64 z1b)) ∧ w'.cell? ⟨g, o + (j + 1) * 2, none⟩ = some (.int .i64 z2a) ∧ w'.cell? ⟨g, o + (j + 1) * 2 + 1, none⟩ = some (.int .i64 z2b))
              (first | exact ⟨⟨a1, a2⟩, b1, b2⟩ | exact q5)
              (first | (go_at_call 74; (refine (HSA.out _).mono ?_); rintro e w5 ⟨rfl, G5⟩; have K5 : Below wr.heap.size wr w5 := undrew G5; have hgz : g < wr.heap.size := (by have := hbel.size; omega); have q5 : (w5.cell? ⟨g, o + j * 2, none⟩ = some (.int .i64 z1a) ∧ w5.cell? ⟨g, o + j * 2 + 1, none⟩ = some (.int .i64 z1b)) ∧ w5.cell? ⟨g, o + (j + 1) * 2, none⟩ = some (.int .i64 z2a) ∧ w5.cell? ⟨g, o + (j + 1) * 2 + 1, none⟩ = some (.int .i64 z2b) := ⟨⟨(K5.cell (p := ⟨g, o + j * 2, none⟩) hgz).trans a1, (K5.cell (p := ⟨g, o + j * 2 + 1, none⟩) hgz).trans a2⟩, (K5.cell (p := ⟨g, o + (j + 1) * 2, none⟩) hgz).trans b1, (K5.cell (p := ⟨g, o + (j + 1) * 2 + 1, none⟩) hgz).trans b2⟩))
            have T5 := nxt hbel K5
            clear q5 a1 a2 b1 b2
            clear hw1 hw2 hw3 hj0 hj1 hj2 hj3 hj4
            by_cases hs0 : s < 0
            · have d3 : decide (s < 0) = true := by simpa using hs0
              have HR := Lib.hid (HSB.out hs0)
              clear hs0
              go_wp2
              go_ret2
              exact ⟨_, _, _, by rw [HR.out]; rfl, by rw [HR.out]; exact Bys.nil _, T5⟩
            · have d3 : decide (s < 0) = false := by simpa using hs0
              obtain ⟨k, rfl⟩ : ∃ k : Nat, s = k := ⟨s.toNat, by omega⟩
              obtain ⟨hps, hnn, hown, hxn, hpc, hpn, hpk⟩ := HPK.out
              have hnn := Lib.hid (hnn (by omega))
              rw [hxn, hpc] at hpn
              by_cases h3 : (j + 1) % 4 = 0
              · have e4 : ((((j : Int) + 1) % 4) == 0) = true := by simp; omega
                have hst : pkRun (stepsP (l.take (j + 1 + 1))) = ⟨(pkRun (stepsP (l.take (j + 1)))).out ++ [UInt8.ofNat (4 * x + k)], 0, 0⟩ := by
                  rw [hps]
                  unfold pkStep
                  rw [if_pos (by omega), hxn, Int.toNat_natCast]
                have hlt256 : 4 * x + k < 256 := by omega
                have hby : ∀ W : World, Bys (W.alloc (.cells #[.int .u8 (4 * (x : Int) + (k : Int))] 5)) (some ⟨W.heap.size, 0, none⟩) 1 1 [UInt8.ofNat (4 * x + k)] := by
                  intro W
                  have h := Bys.lit W [UInt8.ofNat (4 * x + k)] (by simp)
                  have e : bvs [UInt8.ofNat (4 * x + k)] = [.int .u8 (4 * (x : Int) + (k : Int))] := by
                    have e0 : ((UInt8.ofNat (4 * x + k)).toNat : Int) = 4 * (x : Int) + (k : Int) := by
                      rw [UInt8.toNat_ofNat', Nat.mod_eq_of_lt (by omega)]
                      omega
                    show [Value.int .u8 ((UInt8.ofNat (4 * x + k)).toNat : Int)] = _
                    rw [e0]
                  rw [e] at h
                  exact h
                have HBY := Lib.hid hby
                have HON := Lib.hid (own_below hown K5)
                have HST := Lib.hid hst
                clear hps hown hxn hpc hpn hst hby
                generalize (pkRun (stepsP (l.take (j + 1)))).out = ob at *
                have hz5 := T5.size
                go_wp2_with ((refine app_bys _ rfl (.tmp 47) (.tmp 50) rfl w.heap.size u4 ob.length (bvs ob) rfl ?_ (some ⟨w5.heap.size, 0, none⟩) 1 1 [UInt8.ofNat (4 * x + k)] rfl ?_ ?_ ?_ ?_); (exact own_below HON.out ((Below.refl _ _).alloc (Nat.le_refl _) _)); (exact HBY.out w5); (omega); (simp; omega); intro v6 w6 hown6 hgrow6 hwhere6; have HO6 := Lib.hid (And.intro hown6 hgrow6); clear hown6 hgrow6 hwhere6)
                go_roundw
                case rel =>
                  refine ⟨j + 1, by omega, by go_num, 0, rfl, by omega, ?_, ?_⟩
                  · rw [HST.out]
                    refine ⟨rfl, ?_, hnn.out⟩
                    show w6.ownsRow _ _ 1 _ (ob ++ [UInt8.ofNat (4 * x + k)]).length (bvs (ob ++ [UInt8.ofNat (4 * x + k)]))
                    rw [bvs_append, List.length_append]
                    exact HO6.out.1
                  · exact (T5.alloc hz5 _).grown HO6.out.2 (by simp; omega) (fun k' hk => (HON.out.lt k' hk).1)
                case measure => simp [intOf]; omega
              · have e4 : ((((j : Int) + 1) % 4) == 0) = false := by simp; omega
                have hst : pkRun (stepsP (l.take (j + 1 + 1))) = ⟨(pkRun (stepsP (l.take (j + 1)))).out, 4 * x + k, j % 4 + 1⟩ := by
                  rw [hps]
                  unfold pkStep
                  rw [if_neg (by omega), hxn, hpc, Int.toNat_natCast]
                have hx2 : 4 * x + k ≤ 63 := by
                  have : j % 4 = 0 ∨ j % 4 = 1 ∨ j % 4 = 2 := by omega
                  rcases this with h | h | h <;> rw [h] at hpn <;> omega
                have HON := Lib.hid (own_below hown K5)
                have HST := Lib.hid hst
                clear hps hown hxn hpc hpn hst
                go_wp2
                go_roundw
                case rel =>
                  refine ⟨j + 1, by omega, by go_num, 4 * x + k, by go_num, hx2, ?_, T5⟩
                  rw [HST.out]
                  exact ⟨rfl, HON.out, hnn.out⟩
                case measure => simp [intOf]; omega
          · have hje : j + 1 = l.length := by omega
            have hw := HW.out
            rw [hje, List.take_length] at hw
            have HF := Lib.hid (HO.out hw.2.2)
            obtain ⟨A5, d5, rfl⟩ := own_shape hw.2.1
            have HBY := Lib.hid (Bys.of_own hw.2.1)
            have d5 : decide (((j + 1 : Nat) : Int) < (l.length : Int)) = false := by simp; omega
            have d6 : decide ((j : Int) + 1 < (l.length : Int)) = false := by simp; omega
            clear hw HW HO HS
            generalize (pkRun (stepsP l)).out = ob at *
            generalize ob.length = m at *
            go_wp2
            go_ret2
            exact ⟨_, _, _, by rw [HF.out]; rfl, by rw [HF.out]; exact HBY.out, hbel⟩
    · have e1 : (((l.length : Int) % 4) != 1) = true := by simp; omega
      have HR := Lib.hid (bytesB_form hbig (.inl hm))
      clear HC hm
      go_enter Tryd.func44, Tryd.ntmps44
      go_wp2
      go_ret2
      exact ⟨_, _, _, by rw [HR.out]; rfl, by rw [HR.out]; exact Bys.nil _, Below.refl _ _⟩
end Go.Proofs.YtkcpkfimmolkkaaDoor
