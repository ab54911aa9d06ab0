/- What kedgeref07's Rest, Times, Kind, Slice, Two and Step answer. -/
import Derived.Test.YtgkbgkgfjbmniaaFresh
import Derived.Test.YtgkbgkgfjbmniaaPhM
import Derived.Laws.StructEq
import Derived.Deep.RegionHeld3
namespace Go.Proofs.Ytgkbgkgfjbmniaa
open Go.RowKit

/-- a point's value -/
def ptV (p : Pt) : Value := .agg #[.int .i64 p.1, .int .i64 p.2]

theorem tmod4 (k : Int) : (0 ≤ k ∧ k.tmod 4 = k % 4) ∨ (k < 0 ∧ k.tmod 4 = -((-k) % 4)) := by
  by_cases h : 0 ≤ k
  · exact .inl ⟨h, Int.tmod_eq_emod_of_nonneg h⟩
  · right
    refine ⟨by omega, ?_⟩
    have e : k.tmod 4 = -((-k).tmod 4) := by rw [Int.neg_tmod, Int.neg_neg]
    rw [e, Int.tmod_eq_emod_of_nonneg (by omega)]
set_option maxHeartbeats 1000000 in
theorem rest_any (k : Int) (w : World) :
    Calls Try.prog 34 #[.int .i64 k] w fun e w' => e = .returned (.int .i64 (rest4 k : Int)) ∧ w = w' := by
  have hr := rest4_cast k
  have ht := tmod4 k
  by_cases h0 : k.tmod 4 < 0
  · have d0 : decide (k.tmod 4 < 0) = true := by simpa using h0
    have e : wrap64 (k.tmod 4 + 4) = (rest4 k : Int) := by rw [IntWalk.wrap64_in _ (by omega), hr]; omega
    have E := Lib.hid e
    clear hr e ht
    go_enter Try.func34, Try.ntmps34
    go_wp2
    go_ret
    exact ⟨ret_int E.out, rfl⟩
  · have d0 : decide (k.tmod 4 < 0) = false := by simpa using h0
    have e : k.tmod 4 = (rest4 k : Int) := by rw [hr]; omega
    have E := Lib.hid e
    clear hr e ht
    go_enter Try.func34, Try.ntmps34
    go_wp2
    go_ret
    exact ⟨ret_int E.out, rfl⟩

/-- the two blocks that Times makes: the point, and the result's -/
theorem results_times (tmps : Array Value) (W : World) (Y : Nat) (a b : Int) (t : TypeId) (h4 : tmps[4]? = some (.pointer (some ⟨Y, 0, none⟩))) (hT : W.heap[Y]? = some (.cells #[.int .i64 a, .int .i64 b] t (0, 0))) :
    (results Try.f27 tmps).run Try.prog W = .ok (.agg #[.int .i64 a, .int .i64 b]) W := by
  have c0 : W.cell? ⟨Y, 0, none⟩ = some (.int .i64 a) := cell_of_row _ _ _ _ _ _ hT
  have c1 : W.cell? ⟨Y, 1, none⟩ = some (.int .i64 b) := cell_of_row _ _ _ _ _ _ hT
  simp [results, Try.results27, h4, go_sem, c0, c1]
theorem results_slice (tmps : Array Value) (W : World) (Y : Nat) (a b : Int) (t : TypeId) (h2 : tmps[2]? = some (.pointer (some ⟨Y, 0, none⟩))) (hT : W.heap[Y]? = some (.cells #[.int .i64 a, .int .i64 b] t (0, 0))) :
    (results Try.f13 tmps).run Try.prog W = .ok (.agg #[.int .i64 a, .int .i64 b]) W := by
  have c0 : W.cell? ⟨Y, 0, none⟩ = some (.int .i64 a) := cell_of_row _ _ _ _ _ _ hT
  have c1 : W.cell? ⟨Y, 1, none⟩ = some (.int .i64 b) := cell_of_row _ _ _ _ _ _ hT
  simp [results, Try.results13, h2, go_sem, c0, c1]

set_option maxHeartbeats 2000000 in
theorem times_any (p : Pt) (k : Int) (w : World) (hp : -4611686018427387904 ≤ p.1 ∧ p.1 ≤ 4611686018427387904 ∧ -4611686018427387904 ≤ p.2 ∧ p.2 ≤ 4611686018427387904) :
    Calls Try.prog 27 #[.agg #[.int .i64 p.1, .int .i64 p.2], .int .i64 k] w fun e w' => e = .returned (.agg #[.int .i64 (rotK k p).1, .int .i64 (rotK k p).2]) ∧ Below w.heap.size w w' := by
  have HR := Lib.hid (fun W => rest_any k W)
  have HS := Lib.hid (fun j => rotN_small j hp)
  have hK : rotK k p = rotN (rest4 k) p := rfl
  have HK := Lib.hid hK
  have hlt := rest4_lt k
  generalize rest4 k = r at *
  generalize rotK k p = q at *
  obtain ⟨a, b⟩ := p
  clear hp hK
  have hb : ((w.alloc (.cells #[.int .i64 a, .int .i64 b] 31)).alloc (.cells #[.int .i64 0, .int .i64 0] 31)).heap[w.heap.size]? = some (.cells #[.int .i64 a, .int .i64 b] 31 (0, 0)) := by
    rw [Below.heap_alloc _ _ _ (by simp)]
    exact heap_alloc_new w _
  have hb2 : ((w.alloc (.cells #[.int .i64 a, .int .i64 b] 31)).alloc (.cells #[.int .i64 0, .int .i64 0] 31)).heap[w.heap.size + 1]? = some (.cells #[.int .i64 0, .int .i64 0] 31 (0, 0)) := by
    have := heap_alloc_new (w.alloc (.cells #[.int .i64 a, .int .i64 b] 31)) (.cells #[.int .i64 0, .int .i64 0] 31)
    simpa using this
  have HB := Lib.hid (And.intro hb hb2)
  clear hb hb2
  go_enter Try.func27, Try.ntmps27
  go_wp2_with (fail)
  refine (HR.out _).mono ?_
  rintro e w1 ⟨rfl, rfl⟩
  go_wp2_with (fail)
  go_loopw [5] (fun i wr => ∃ j : Nat, j ≤ r ∧ i = .int .i64 ((r - j : Nat) : Int) ∧ ∃ x y : Int, Hid (rotN j (a, b) = (x, y)) ∧ Hid (wr.heap[w.heap.size]? = some (.cells #[.int .i64 x, .int .i64 y] 31 (0, 0)) ∧ wr.heap[w.heap.size + 1]? = some (.cells #[.int .i64 0, .int .i64 0] 31 (0, 0)) ∧ Below w.heap.size w wr)) (fun i _ => (intOf i).toNat)
  case atStart => exact ⟨0, Nat.zero_le _, rfl, a, b, rfl, HB.out.1, HB.out.2, ((Below.refl _ _).alloc (Nat.le_refl _) _).alloc (by simp) _⟩
  case round =>
    obtain ⟨j, hj, rfl, x, y, HXY, HW⟩ := hrel
    have hxy := HS.out j
    rw [HXY.out] at hxy
    simp only at hxy
    have c0 : wr.cell? ⟨w.heap.size, 0, none⟩ = some (.int .i64 x) := cell_of_row _ _ _ _ _ _ HW.out.1
    have c1 : wr.cell? ⟨w.heap.size, 1, none⟩ = some (.int .i64 y) := cell_of_row _ _ _ _ _ _ HW.out.1
    have f0 : wr.frozen? ⟨w.heap.size, 0, none⟩ = false := frozen_of_row _ _ _ _ _ HW.out.1
    have f1 : wr.frozen? ⟨w.heap.size, 1, none⟩ = false := frozen_of_row _ _ _ _ _ HW.out.1
    have c2 : wr.cell? ⟨w.heap.size + 1, 0, none⟩ = some (.int .i64 0) := cell_of_row _ _ _ _ _ _ HW.out.2.1
    have c3 : wr.cell? ⟨w.heap.size + 1, 1, none⟩ = some (.int .i64 0) := cell_of_row _ _ _ _ _ _ HW.out.2.1
    have f2 : wr.frozen? ⟨w.heap.size + 1, 0, none⟩ = false := frozen_of_row _ _ _ _ _ HW.out.2.1
    have f3 : wr.frozen? ⟨w.heap.size + 1, 1, none⟩ = false := frozen_of_row _ _ _ _ _ HW.out.2.1
    by_cases hlt2 : j < r
    · have hn : rotN (j + 1) (a, b) = (-y, x) := by rw [rotN_add, HXY.out]; rfl
      have HN := Lib.hid hn
      clear hn
      go_wp2
      go_roundw
      case rel =>
        refine ⟨j + 1, by omega, by rw [show r - (j + 1) = r - j - 1 by omega]; congr 1; omega, _, _, HN.out, ?_, ?_, ?_⟩
        · exact heap_setCell_same _ w.heap.size 1 _ _ _ (heap_setCell_same wr w.heap.size 0 _ _ _ HW.out.1)
        · exact (heap_setCell_other _ ⟨w.heap.size, 1, none⟩ (w.heap.size + 1) _ (by show w.heap.size + 1 ≠ w.heap.size; omega)).trans ((heap_setCell_other wr ⟨w.heap.size, 0, none⟩ (w.heap.size + 1) _ (by show w.heap.size + 1 ≠ w.heap.size; omega)).trans HW.out.2.1)
        · exact (HW.out.2.2.setCell (Nat.le_refl _) _).setCell (Nat.le_refl _) _
      case measure => simp [intOf]; omega
    · obtain rfl : j = r := by omega
      have HQ : Hid (q = (x, y)) := HK.out.trans HXY.out
      go_wp2_with (fail)
      refine bodyPost_ret (results_times _ _ (w.heap.size + 1) x y _ rfl (heap_setCell_same _ (w.heap.size + 1) 1 _ _ _ (heap_setCell_same wr (w.heap.size + 1) 0 _ _ _ HW.out.2.1))) rfl ⟨by rw [HQ.out], ?_⟩
      exact (HW.out.2.2.setCell (by show w.heap.size ≤ w.heap.size + 1; omega) _).setCell (by show w.heap.size ≤ w.heap.size + 1; omega) _

theorem kind_none (z : Pt) (h : ∀ i, i < 4 → unit i ≠ z) : kindI z = -1 := by
  have hr := kindI_range z
  by_cases h0 : 0 ≤ kindI z
  · obtain ⟨q, h1, h2, _⟩ := kindI_unit_of z h0
    exact absurd h2.symm (h q h1)
  · omega
set_option maxHeartbeats 2000000 in
theorem kind_any (z : Pt) (w : World) :
    Calls Try.prog 12 #[.agg #[.int .i64 z.1, .int .i64 z.2]] w fun e w' => e = .returned (.int .i64 (kindI z)) ∧ Below w.heap.size w w' := by
  have HT := Lib.hid (fun (j : Nat) W => times_any (1, 1) j W (by decide))
  have HN := Lib.hid (kind_none z)
  obtain ⟨a, b⟩ := z
  have HB : Hid (∀ j, (w.alloc (.cells #[.int .i64 a, .int .i64 b] 31)).cell? ⟨w.heap.size, j, none⟩ = (#[.int .i64 a, .int .i64 b] : Array Value)[j]?) := fun j => cell_of_row _ _ _ _ _ _ (heap_alloc_new w _)
  go_enter Try.func12, Try.ntmps12
  go_wp2_with (fail)
  go_loopw [3] (fun i wr => ∃ j : Nat, j ≤ 4 ∧ i = .int .i64 (j : Int) ∧ Hid (∀ i, i < j → unit i ≠ (a, b)) ∧ wr.cell? ⟨w.heap.size, 0, none⟩ = some (.int .i64 a) ∧ wr.cell? ⟨w.heap.size, 1, none⟩ = some (.int .i64 b) ∧ Below w.heap.size w wr ∧ w.heap.size < wr.heap.size) (fun i _ => 4 - (intOf i).toNat)
  case atStart => exact ⟨0, Nat.zero_le _, rfl, fun i hi => absurd hi (by omega), HB.out 0, HB.out 1, (Below.refl _ _).alloc (Nat.le_refl _) _, by simp⟩
  case round =>
    obtain ⟨j, hj, rfl, HU, c0, c1, hbel, hz⟩ := hrel
    by_cases hlt : j < 4
    · have hT := HT.out j
      have hu : rotK (j : Int) (1, 1) = unit j := by unfold rotK unit; rw [rest4_nat, Nat.mod_eq_of_lt hlt]
      rw [hu] at hT
      have hk := kindI_unit j hlt
      have hne : ∀ v, v ≠ (a, b) → v = unit j → ∀ i, i < j + 1 → unit i ≠ (a, b) := fun v h1 h2 i hi => by
        by_cases h : i < j
        · exact HU.out i h
        · obtain rfl : i = j := by omega
          rw [← h2]
          exact h1
      obtain ⟨x, y, hu2⟩ : ∃ x y, (x, y) = unit j := ⟨_, _, rfl⟩
      rw [← hu2] at hT hk
      simp only at hT
      have HNE := Lib.hid (fun h => hne (x, y) h hu2)
      have HTT := Lib.hid hT
      clear hu hne hu2 hT
      have hc : ∀ W, Below wr.heap.size wr W → W.cell? ⟨w.heap.size, 0, none⟩ = some (.int .i64 a) ∧ W.cell? ⟨w.heap.size, 1, none⟩ = some (.int .i64 b) := fun W k => ⟨(k.cell (p := ⟨w.heap.size, 0, none⟩) hz).trans c0, (k.cell (p := ⟨w.heap.size, 1, none⟩) hz).trans c1⟩
      have HC := Lib.hid hc
      clear hc
      by_cases hx : x = a
      · have e1 : (x == a) = true := by simpa using hx
        by_cases hy : y = b
        · have e2 : (y == b) = true := by simpa using hy
          have HF : Hid (kindI (a, b) = (j : Int)) := by rw [← hx, ← hy]; exact hk
          clear hk hx hy
          go_wp2_with (fail)
          go_region_held3 (fun w' => w'.cell? ⟨w.heap.size, 0, none⟩ = some (.int .i64 a) ∧ w'.cell? ⟨w.heap.size, 1, none⟩ = some (.int .i64 b)) (first | exact ⟨c0, c1⟩ | exact HC.out _ K5)
            (first | (go_at_call 27; (refine (HTT.out _).mono ?_); rintro e w5 ⟨rfl, G⟩; have K5 : Below wr.heap.size wr w5 := undrew G))
          go_wp2
          go_ret
          exact ⟨ret_int HF.out.symm, nxt hbel K5⟩
        · have e2 : (y == b) = false := by simpa using hy
          have HF := Lib.hid (HNE.out (fun e => hy (by injection e)))
          clear hk hx hy
          go_wp2_with (fail)
          go_region_held3 (fun w' => w'.cell? ⟨w.heap.size, 0, none⟩ = some (.int .i64 a) ∧ w'.cell? ⟨w.heap.size, 1, none⟩ = some (.int .i64 b)) (first | exact ⟨c0, c1⟩ | exact HC.out _ K5)
            (first | (go_at_call 27; (refine (HTT.out _).mono ?_); rintro e w5 ⟨rfl, G⟩; have K5 : Below wr.heap.size wr w5 := undrew G))
          go_wp2
          go_roundw
          case rel => exact ⟨j + 1, by omega, by go_num, HF.out, (HC.out _ K5).1, (HC.out _ K5).2, nxt hbel K5, by have := K5.size; omega⟩
          case measure => simp [intOf]; omega
      · have e1 : (x == a) = false := by simpa using hx
        have HF := Lib.hid (HNE.out (fun e => hx (by injection e)))
        clear hk hx
        go_wp2_with (fail)
        go_region_held3 (fun w' => w'.cell? ⟨w.heap.size, 0, none⟩ = some (.int .i64 a) ∧ w'.cell? ⟨w.heap.size, 1, none⟩ = some (.int .i64 b)) (first | exact ⟨c0, c1⟩ | exact HC.out _ K5)
          (first | (go_at_call 27; (refine (HTT.out _).mono ?_); rintro e w5 ⟨rfl, G⟩; have K5 : Below wr.heap.size wr w5 := undrew G))
        go_wp2
        go_roundw
        case rel => exact ⟨j + 1, by omega, by go_num, HF.out, (HC.out _ K5).1, (HC.out _ K5).2, nxt hbel K5, by have := K5.size; omega⟩
        case measure => simp [intOf]; omega
    · obtain rfl : j = 4 := by omega
      have HF := Lib.hid (HN.out HU.out)
      go_wp2
      go_ret
      exact ⟨ret_int HF.out.symm, hbel⟩

set_option maxHeartbeats 2000000 in
theorem rslice_any (z : Pt) (w : World) :
    Calls Try.prog 13 #[.agg #[.int .i64 z.1, .int .i64 z.2]] w fun e w' => e = .returned (.agg #[.int .i64 (sliceP z).1, .int .i64 (sliceP z).2]) ∧ Below w.heap.size w w' := by
  obtain ⟨a, b⟩ := z
  unfold sliceP
  simp only
  by_cases ha : 0 ≤ a
  · have d1 : decide (0 ≤ a) = true := by simpa using ha
    rw [if_pos ha]
    by_cases hb : 0 ≤ b
    · have d2 : decide (0 ≤ b) = true := by simpa using hb
      rw [if_pos hb]
      go_enter Try.func13, Try.ntmps13
      go_wp2_with (fail)
      refine bodyPost_ret (results_slice _ _ (w.heap.size + 1) 1 1 31 rfl ?_) rfl ⟨rfl, (((Below.refl _ _).alloc (Nat.le_refl _) _).alloc (by simp) _).alloc (by simp; omega) _⟩
      rw [Below.heap_alloc _ _ _ (by simp)]
      have := heap_alloc_new (w.alloc (.cells #[.int .i64 a, .int .i64 b] 31)) (.cells #[.int .i64 1, .int .i64 1] 31)
      simpa using this
    · have d2 : decide (0 ≤ b) = false := by simpa using hb
      rw [if_neg hb]
      go_enter Try.func13, Try.ntmps13
      go_wp2_with (fail)
      refine bodyPost_ret (results_slice _ _ (w.heap.size + 1) 1 (-1) 31 rfl ?_) rfl ⟨rfl, (((Below.refl _ _).alloc (Nat.le_refl _) _).alloc (by simp) _).alloc (by simp; omega) _⟩
      rw [Below.heap_alloc _ _ _ (by simp)]
      have := heap_alloc_new (w.alloc (.cells #[.int .i64 a, .int .i64 b] 31)) (.cells #[.int .i64 1, .int .i64 (-1)] 31)
      simpa using this
  · have d1 : decide (0 ≤ a) = false := by simpa using ha
    rw [if_neg ha]
    by_cases hb : 0 ≤ b
    · have d2 : decide (0 ≤ b) = true := by simpa using hb
      rw [if_pos hb]
      go_enter Try.func13, Try.ntmps13
      go_wp2_with (fail)
      refine bodyPost_ret (results_slice _ _ (w.heap.size + 1) (-1) 1 31 rfl ?_) rfl ⟨rfl, (((Below.refl _ _).alloc (Nat.le_refl _) _).alloc (by simp) _).alloc (by simp; omega) _⟩
      rw [Below.heap_alloc _ _ _ (by simp)]
      have := heap_alloc_new (w.alloc (.cells #[.int .i64 a, .int .i64 b] 31)) (.cells #[.int .i64 (-1), .int .i64 1] 31)
      simpa using this
    · have d2 : decide (0 ≤ b) = false := by simpa using hb
      rw [if_neg hb]
      go_enter Try.func13, Try.ntmps13
      go_wp2_with (fail)
      refine bodyPost_ret (results_slice _ _ (w.heap.size + 1) (-1) (-1) 31 rfl ?_) rfl ⟨rfl, (((Below.refl _ _).alloc (Nat.le_refl _) _).alloc (by simp) _).alloc (by simp; omega) _⟩
      rw [Below.heap_alloc _ _ _ (by simp)]
      have := heap_alloc_new (w.alloc (.cells #[.int .i64 a, .int .i64 b] 31)) (.cells #[.int .i64 (-1), .int .i64 (-1)] 31)
      simpa using this

theorem two_div (n : Nat) : (n : Int).tdiv 4 = ((n / 4 : Nat) : Int) := by
  rw [Int.tdiv_eq_ediv_of_nonneg (by omega)]
  omega
set_option maxHeartbeats 2000000 in
theorem two_any (c : UInt8) (k : Nat) (w : World) (hk : k ≤ 3) :
    Calls Try.prog 31 #[.int .u8 (c.toNat : Int), .int .i64 (k : Int)] w fun e w' => e = .returned (.int .i64 (twoB c k : Int)) ∧ w = w' := by
  have hc := c.toNat_lt
  have HT : Hid (∀ m, c.toNat / 4 ^ (3 - k) = m → ((m : Int).tmod 4 = (twoB c k : Int))) := by
    intro m hm
    unfold twoB
    rw [hm, Int.tmod_eq_emod_of_nonneg (by omega)]
    omega
  generalize twoB c k = r at *
  go_enter Try.func31, Try.ntmps31
  go_wp2_with (fail)
  go_loopw [5, 6] (fun v i wr => ∃ j m : Nat, k ≤ j ∧ j ≤ 3 ∧ i = .int .i64 (j : Int) ∧ v = .int .i64 (m : Int) ∧ Hid (c.toNat / 4 ^ (3 - j) = m) ∧ m ≤ 255 ∧ w = wr) (fun _ i _ => (intOf i).toNat)
  case atStart => exact ⟨3, c.toNat, hk, Nat.le_refl _, rfl, rfl, Nat.div_one _, by omega, rfl⟩
  case round =>
    obtain ⟨j, m, h1, h2, rfl, rfl, HM, h3, rfl⟩ := hrel
    by_cases hlt : k < j
    · have d1 : decide ((k : Int) < (j : Int)) = true := by simp; omega
      have hd : (m : Int).tdiv 4 = ((m / 4 : Nat) : Int) := two_div m
      have HN : Hid (c.toNat / 4 ^ (3 - (j - 1)) = m / 4) := by
        show _ = _
        rw [show 3 - (j - 1) = 3 - j + 1 by omega, Nat.pow_succ, ← Nat.div_div_eq_div_mul, HM.out]
      have hm4 : m / 4 ≤ 255 := by omega
      generalize m / 4 = m4 at *
      go_wp2
      go_roundw
      case rel => exact ⟨j - 1, m4, by omega, by omega, by congr 1; omega, rfl, HN.out, hm4, trivial⟩
      case measure => simp [intOf]; omega
    · obtain rfl : j = k := by omega
      have d1 : decide ((j : Int) < (j : Int)) = false := by simp
      have HF := Lib.hid (HT.out m HM.out)
      go_wp2
      go_ret
      exact ⟨ret_int HF.out, rfl⟩

set_option maxHeartbeats 2000000 in
theorem step_any (a b : Pt) (w : World) :
    Calls Try.prog 32 #[.agg #[.int .i64 a.1, .int .i64 a.2], .agg #[.int .i64 b.1, .int .i64 b.2]] w fun e w' => e = .returned (.int .i64 (stepI a b)) ∧ Below w.heap.size w w' := by
  have H1 := Lib.hid (fun W => kind_any a W)
  have H2 := Lib.hid (fun W => kind_any b W)
  have hr1 := kindI_range a
  have hr2 := kindI_range b
  have HS : Hid (stepI a b = if kindI a < 0 ∨ kindI b < 0 then -1 else (kindI b - kindI a) % 4) := rfl
  generalize kindI a = p at *
  generalize kindI b = q at *
  generalize stepI a b = s at *
  have HR := Lib.hid (fun W => rest_any (q - p) W)
  have hc := rest4_cast (q - p)
  obtain ⟨a1, a2⟩ := a
  obtain ⟨b1, b2⟩ := b
  simp only at H1 H2
  have HB : Hid (∀ j, ((w.alloc (.cells #[.int .i64 a1, .int .i64 a2] 31)).alloc (.cells #[.int .i64 b1, .int .i64 b2] 31)).cell? ⟨w.heap.size, j, none⟩ = (#[.int .i64 a1, .int .i64 a2] : Array Value)[j]? ∧ ((w.alloc (.cells #[.int .i64 a1, .int .i64 a2] 31)).alloc (.cells #[.int .i64 b1, .int .i64 b2] 31)).cell? ⟨w.heap.size + 1, j, none⟩ = (#[.int .i64 b1, .int .i64 b2] : Array Value)[j]?) := by
    intro j
    constructor
    · have h : ((w.alloc (.cells #[.int .i64 a1, .int .i64 a2] 31)).alloc (.cells #[.int .i64 b1, .int .i64 b2] 31)).heap[w.heap.size]? = some (.cells #[.int .i64 a1, .int .i64 a2] 31) := by
        rw [Below.heap_alloc _ _ _ (by simp)]
        exact heap_alloc_new w _
      exact cell_of_row _ _ _ _ _ _ h
    · have h := heap_alloc_new (w.alloc (.cells #[.int .i64 a1, .int .i64 a2] 31)) (.cells #[.int .i64 b1, .int .i64 b2] 31)
      rw [show (w.alloc (.cells #[.int .i64 a1, .int .i64 a2] 31)).heap.size = w.heap.size + 1 by simp] at h
      exact cell_of_row _ _ _ _ _ _ h
  go_enter Try.func32, Try.ntmps32
  go_wp2_with (fail)
  go_region_held3 (fun w' => (w'.cell? ⟨w.heap.size, 0, none⟩ = some (.int .i64 a1) ∧ w'.cell? ⟨w.heap.size, 1, none⟩ = some (.int .i64 a2)) ∧ w'.cell? ⟨w.heap.size + 1, 0, none⟩ = some (.int .i64 b1) ∧ w'.cell? ⟨w.heap.size + 1, 1, none⟩ = some (.int .i64 b2))
    (first | exact ⟨⟨(HB.out 0).1, (HB.out 1).1⟩, (HB.out 0).2, (HB.out 1).2⟩ | exact q6 | exact q5)
    (first
      | (go_at_call_of 12 (Value.agg #[.int .i64 a1, .int .i64 a2]); (refine (H1.out _).mono ?_); rintro e w5 ⟨rfl, G5⟩; have K5 := undrew G5; have q5 : (w5.cell? ⟨w.heap.size, 0, none⟩ = some (.int .i64 a1) ∧ w5.cell? ⟨w.heap.size, 1, none⟩ = some (.int .i64 a2)) ∧ w5.cell? ⟨w.heap.size + 1, 0, none⟩ = some (.int .i64 b1) ∧ w5.cell? ⟨w.heap.size + 1, 1, none⟩ = some (.int .i64 b2) := ⟨⟨(K5.cell (p := ⟨w.heap.size, 0, none⟩) (by simp; omega)).trans (HB.out 0).1, (K5.cell (p := ⟨w.heap.size, 1, none⟩) (by simp; omega)).trans (HB.out 1).1⟩, (K5.cell (p := ⟨w.heap.size + 1, 0, none⟩) (by simp)).trans (HB.out 0).2, (K5.cell (p := ⟨w.heap.size + 1, 1, none⟩) (by simp)).trans (HB.out 1).2⟩)
      | (go_at_call_of 12 (Value.agg #[.int .i64 b1, .int .i64 b2]); (refine (H2.out _).mono ?_); rintro e w6 ⟨rfl, G6⟩; have z5 : w.heap.size + 1 < w5.heap.size := (by have := K5.size; simp at this; omega); have q6 : (w6.cell? ⟨w.heap.size, 0, none⟩ = some (.int .i64 a1) ∧ w6.cell? ⟨w.heap.size, 1, none⟩ = some (.int .i64 a2)) ∧ w6.cell? ⟨w.heap.size + 1, 0, none⟩ = some (.int .i64 b1) ∧ w6.cell? ⟨w.heap.size + 1, 1, none⟩ = some (.int .i64 b2) := ⟨⟨(G6.cell (p := ⟨w.heap.size, 0, none⟩) (by simp; omega)).trans q5.1.1, (G6.cell (p := ⟨w.heap.size, 1, none⟩) (by simp; omega)).trans q5.1.2⟩, (G6.cell (p := ⟨w.heap.size + 1, 0, none⟩) (by simp; omega)).trans q5.2.1, (G6.cell (p := ⟨w.heap.size + 1, 1, none⟩) (by simp; omega)).trans q5.2.2⟩))
  have T5 : Below w.heap.size w w5 := (((Below.refl w.heap.size w).alloc (Nat.le_refl _) _).alloc (by simp) _).trans (K5.mono (by simp; omega))
  have T6 := nxt T5 G6
  clear HB q5 q6 K5 G5 H1 H2
  by_cases hp : p < 0
  · have d1 : decide (p < 0) = true := by simpa using hp
    have HF : Hid (s = -1) := by rw [HS.out, if_pos (.inl hp)]; rfl
    clear hp hc
    go_wp2
    go_ret
    exact ⟨ret_int HF.out.symm, T6⟩
  · have d1 : decide (p < 0) = false := by simpa using hp
    by_cases hq : q < 0
    · have d2 : decide (q < 0) = true := by simpa using hq
      have HF : Hid (s = -1) := by rw [HS.out, if_pos (.inr hq)]; rfl
      clear hq hc
      go_wp2
      go_ret
      exact ⟨ret_int HF.out.symm, T6⟩
    · have d2 : decide (q < 0) = false := by simpa using hq
      have HF : Hid (s = (rest4 (q - p) : Int)) := by show _ = _; rw [HS.out, if_neg (by omega), hc]
      clear hc
      generalize rest4 (q - p) = r at *
      go_wp2_with (fail)
      refine (HR.out _).mono ?_
      rintro e w7 ⟨rfl, rfl⟩
      go_wp2
      go_ret
      exact ⟨ret_int HF.out.symm, T6⟩
end Go.Proofs.Ytgkbgkgfjbmniaa
