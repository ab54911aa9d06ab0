/- What kedgeref08's Size, Dot, stands and Sliced answer. -/
import Derived.Test.YtmpelpmgpklidaaPtV
import Derived.Test.YtmpelpmgpklidaaRph1
import Derived.Test.YtmpelpmgpklidaaCorrM
import Derived.StillTailTactics
namespace Go.Proofs.Ytmpelpmgpklidaa
open Go.RowKit

theorem mul_bound {a b B : Int} (hB : 0 ≤ B) (h1 : -B ≤ a) (h2 : a ≤ B) (h3 : -B ≤ b) (h4 : b ≤ B) : -(B * B) ≤ a * b ∧ a * b ≤ B * B := by
  have h : (a * b).natAbs ≤ (B * B).natAbs := by
    rw [Int.natAbs_mul, Int.natAbs_mul]
    exact Nat.mul_le_mul (by omega) (by omega)
  have hb : 0 ≤ B * B := Int.mul_nonneg hB hB
  omega
set_option maxHeartbeats 1000000 in
theorem rsize_any (p : Pt) (w : World) (h : -50000000 ≤ p.1 ∧ p.1 ≤ 50000000 ∧ -50000000 ≤ p.2 ∧ p.2 ≤ 50000000) :
    Calls Try.prog 14 #[.agg #[.int .i64 p.1, .int .i64 p.2]] w fun e w' => e = .returned (.int .i64 (sizeI p)) ∧ Below w.heap.size w w' := by
  obtain ⟨a, b⟩ := p
  simp only at h
  have m1 := mul_bound (B := 50000000) (by decide) h.1 h.2.1 h.1 h.2.1
  have m2 := mul_bound (B := 50000000) (by decide) h.2.2.1 h.2.2.2 h.2.2.1 h.2.2.2
  have HS : Hid (sizeI (a, b) = a * a + b * b) := rfl
  have c0 : (w.alloc (.cells #[.int .i64 a, .int .i64 b] 30)).cell? ⟨w.heap.size, 0, none⟩ = some (.int .i64 a) := cell_of_row _ _ _ _ _ _ (heap_alloc_new w _)
  have c1 : (w.alloc (.cells #[.int .i64 a, .int .i64 b] 30)).cell? ⟨w.heap.size, 1, none⟩ = some (.int .i64 b) := cell_of_row _ _ _ _ _ _ (heap_alloc_new w _)
  clear h
  go_enter Try.func14, Try.ntmps14
  go_wp2
  go_ret
  exact ⟨by rw [HS.out]; rfl, (Below.refl _ _).alloc (Nat.le_refl _) _⟩

theorem results_rdot (tmps : Array Value) (W : World) (Y : Nat) (a b : Int) (t : TypeId) (h4 : tmps[4]? = some (.pointer (some ⟨Y, 0, none⟩))) (hT : W.heap[Y]? = some (.cells #[.int .i64 a, .int .i64 b] t (0, 0))) :
    (results Try.f11 tmps).run Try.prog W = .ok (.agg #[.int .i64 a, .int .i64 b]) W := by
  have c0 : W.cell? ⟨Y, 0, none⟩ = some (.int .i64 a) := cell_of_row _ _ _ _ _ _ hT
  have c1 : W.cell? ⟨Y, 1, none⟩ = some (.int .i64 b) := cell_of_row _ _ _ _ _ _ hT
  simp [results, Try.results11, h4, go_sem, c0, c1]
set_option maxHeartbeats 4000000 in
theorem rdot_any (A : Option Addr) (n c : Nat) (l : List Pt) (B : Option Addr) (m d : Nat) (r : List Pt) (w : World) (hP : Ps w A n c l) (hQ : Ps w B m d r) (hl : ∀ p ∈ l, Near p) (hr : ∀ p ∈ r, Near p) (hm : m ≤ 400) :
    Calls Try.prog 11 #[.slice A n c, .slice B m d] w fun e w' => e = .returned (.agg #[.int .i64 (dotP l r).1, .int .i64 (dotP l r).2]) ∧ Below w.heap.size w w' := by
  obtain ⟨hl1, hnc, hcm, hcell⟩ := hP
  obtain ⟨hl2, hmd, hdm, hcell2⟩ := hQ
  unfold maxLen at hcm hdm
  subst hl1 hl2
  have HC := Lib.hid hcell
  have HD := Lib.hid hcell2
  have HL := Lib.hid hl
  have HR := Lib.hid hr
  clear hcell hcell2 hl hr
  have hb1 : ((w.alloc (.cells #[.int .i64 0, .int .i64 0] 30)).alloc (.cells #[.int .i64 0, .int .i64 0] 30)).heap[w.heap.size]? = some (.cells #[.int .i64 0, .int .i64 0] 30 (0, 0)) := by
    rw [Below.heap_alloc _ _ _ (by simp)]
    exact heap_alloc_new w _
  have hb2 : ((w.alloc (.cells #[.int .i64 0, .int .i64 0] 30)).alloc (.cells #[.int .i64 0, .int .i64 0] 30)).heap[w.heap.size + 1]? = some (.cells #[.int .i64 0, .int .i64 0] 30 (0, 0)) := by
    have := heap_alloc_new (w.alloc (.cells #[.int .i64 0, .int .i64 0] 30)) (.cells #[.int .i64 0, .int .i64 0] 30)
    simpa using this
  have HB := Lib.hid (And.intro hb1 hb2)
  have f0 := frozen_of_row _ _ 0 _ _ hb2
  have f1 := frozen_of_row _ _ 1 _ _ hb2
  clear hb1 hb2
  go_enter Try.func11, Try.ntmps11
  go_wp2_with (fail)
  go_loopw [6] (fun i wr => ∃ j : Nat, (j ≤ l.length ∧ j ≤ r.length) ∧ i = .int .i64 (j : Int) ∧ ∃ x y : Int, Hid (dotP (l.take j) (r.take j) = (x, y)) ∧ Hid (wr.heap[w.heap.size]? = some (.cells #[.int .i64 0, .int .i64 0] 30 (0, 0)) ∧ wr.heap[w.heap.size + 1]? = some (.cells #[.int .i64 x, .int .i64 y] 30 (0, 0)) ∧ Below w.heap.size w wr)) (fun i _ => l.length - (intOf i).toNat)
  case atStart => exact ⟨0, ⟨Nat.zero_le _, Nat.zero_le _⟩, rfl, 0, 0, rfl, HB.out.1, HB.out.2, ((Below.refl _ _).alloc (Nat.le_refl _) _).alloc (by simp) _⟩
  case round =>
    obtain ⟨j, ⟨hj1, hj2⟩, rfl, x, y, HXY, HW⟩ := hrel
    have s0 : wr.cell? ⟨w.heap.size + 1, 0, none⟩ = some (.int .i64 x) := cell_of_row _ _ _ _ _ _ HW.out.2.1
    have s1 : wr.cell? ⟨w.heap.size + 1, 1, none⟩ = some (.int .i64 y) := cell_of_row _ _ _ _ _ _ HW.out.2.1
    have t0 : wr.frozen? ⟨w.heap.size + 1, 0, none⟩ = false := frozen_of_row _ _ _ _ _ HW.out.2.1
    have t1 : wr.frozen? ⟨w.heap.size + 1, 1, none⟩ = false := frozen_of_row _ _ _ _ _ HW.out.2.1
    have r0 : wr.cell? ⟨w.heap.size, 0, none⟩ = some (.int .i64 0) := cell_of_row _ _ _ _ _ _ HW.out.1
    have r1 : wr.cell? ⟨w.heap.size, 1, none⟩ = some (.int .i64 0) := cell_of_row _ _ _ _ _ _ HW.out.1
    have q0 : wr.frozen? ⟨w.heap.size, 0, none⟩ = false := frozen_of_row _ _ _ _ _ HW.out.1
    have q1 : wr.frozen? ⟨w.heap.size, 1, none⟩ = false := frozen_of_row _ _ _ _ _ HW.out.1
    by_cases h1 : j < l.length
    · have d1 : decide ((j : Int) < (l.length : Int)) = true := by simp; omega
      by_cases h2 : j < r.length
      · have d2 : decide ((j : Int) < (r.length : Int)) = true := by simp; omega
        obtain ⟨g, o, rfl, hg, hc⟩ := HC.out (by omega)
        obtain ⟨c1, c2⟩ := hc j h1
        obtain ⟨g2, o2, rfl, hg2, hd⟩ := HD.out (by omega)
        obtain ⟨d3, d4⟩ := hd j h2
        have hbel := HW.out.2.2
        have hst := dotP_take l r j h1 h2
        rw [HXY.out] at hst
        have hb := dot_near (l.take j) (r.take j) (fun p hp => HL.out p (List.mem_of_mem_take hp)) (fun p hp => HR.out p (List.mem_of_mem_take hp)) (by simp; omega)
        rw [HXY.out] at hb
        have n1 := HL.out _ (List.getElem_mem h1)
        have n2 := HR.out _ (List.getElem_mem h2)
        generalize l[j] = p at *
        generalize r[j] = q at *
        obtain ⟨pa, pb⟩ := p
        obtain ⟨qa, qb⟩ := q
        unfold Near at n1 n2
        simp only at c1 c2 d3 d4 hb n1 n2
        have m1 := mul_near n1.1 n1.2.1 n2.1 n2.2.1
        have m2 := mul_near n1.2.2.1 n1.2.2.2 n2.2.2.1 n2.2.2.2
        have m3 := mul_near n1.2.2.1 n1.2.2.2 n2.1 n2.2.1
        have m4 := mul_near n1.1 n1.2.1 n2.2.2.1 n2.2.2.2
        have e : addP (x, y) (termP (pa, pb) (qa, qb)) = (x + pa * qa + pb * qb, y + pb * qa - pa * qb) := by unfold addP termP; simp only; rw [Int.add_assoc, Int.add_sub_assoc]
        rw [e] at hst
        have HST := Lib.hid hst
        have hHC : ∀ W, Below w.heap.size w W → (W.cell? ⟨g, o + j * 2, none⟩ = some (.int .i64 pa) ∧ W.cell? ⟨g, o + j * 2 + 1, none⟩ = some (.int .i64 pb)) ∧ W.cell? ⟨g2, o2 + j * 2, none⟩ = some (.int .i64 qa) ∧ W.cell? ⟨g2, o2 + j * 2 + 1, none⟩ = some (.int .i64 qb) := fun W k => ⟨⟨(k.cell (p := ⟨g, o + j * 2, none⟩) hg).trans c1, (k.cell (p := ⟨g, o + j * 2 + 1, none⟩) hg).trans c2⟩, (k.cell (p := ⟨g2, o2 + j * 2, none⟩) hg2).trans d3, (k.cell (p := ⟨g2, o2 + j * 2 + 1, none⟩) hg2).trans d4⟩
        have HK := Lib.hid hHC
        have w1 : IntKind.i64.wrap (pa * qa) = pa * qa := IntWalk.i64_in _ (by omega)
        have w2 : IntKind.i64.wrap (pb * qb) = pb * qb := IntWalk.i64_in _ (by omega)
        have w3 : IntKind.i64.wrap (x + pa * qa) = x + pa * qa := IntWalk.i64_in _ (by omega)
        have w4 : IntKind.i64.wrap (x + pa * qa + pb * qb) = x + pa * qa + pb * qb := IntWalk.i64_in _ (by omega)
        have w5 : IntKind.i64.wrap (pb * qa) = pb * qa := IntWalk.i64_in _ (by omega)
        have w6 : IntKind.i64.wrap (pa * qb) = pa * qb := IntWalk.i64_in _ (by omega)
        have w7 : IntKind.i64.wrap (y + pb * qa) = y + pb * qa := IntWalk.i64_in _ (by omega)
        have w8 : IntKind.i64.wrap (y + pb * qa - pa * qb) = y + pb * qa - pa * qb := IntWalk.i64_in _ (by omega)
        have hlt1 : (j : Int) < (l.length : Int) := by omega
        have hlt2 : (j : Int) < (r.length : Int) := by omega
        have HJ : Hid (j + 1 ≤ l.length ∧ j + 1 ≤ r.length) := ⟨by omega, by omega⟩
        clear s0 s1 t0 t1 r0 r1 q0 q1 hc hd c1 c2 d3 d4 hHC hst e n1 n2 HXY
        obtain ⟨⟨k1, k2⟩, k3, k4⟩ := HK.out wr HW.out.2.2
        have s0 : wr.cell? ⟨w.heap.size + 1, 0, none⟩ = some (.int .i64 x) := cell_of_row _ _ _ _ _ _ HW.out.2.1
        have s1 : wr.cell? ⟨w.heap.size + 1, 1, none⟩ = some (.int .i64 y) := cell_of_row _ _ _ _ _ _ HW.out.2.1
        have t0 : wr.frozen? ⟨w.heap.size + 1, 0, none⟩ = false := frozen_of_row _ _ _ _ _ HW.out.2.1
        have t1 : wr.frozen? ⟨w.heap.size + 1, 1, none⟩ = false := frozen_of_row _ _ _ _ _ HW.out.2.1
        go_wp2_with (fail)
        go_still_tail 27, (by kernel_rfl)
        change wpList _ _ _ _ _ wr.drew
        have HB4 : Hid (wr.drew.heap[w.heap.size]? = some (.cells #[.int .i64 0, .int .i64 0] 30 (0, 0)) ∧ wr.drew.heap[w.heap.size + 1]? = some (.cells #[.int .i64 x, .int .i64 y] 30 (0, 0)) ∧ Below w.heap.size w wr.drew) := ⟨HW.out.1, HW.out.2.1, HW.out.2.2.drew⟩
        clear s0 s1 t0 t1 k1 k2 k3 k4
        generalize wr.drew = W4 at *
        obtain ⟨⟨k1, k2⟩, k3, k4⟩ := HK.out W4 HB4.out.2.2
        have s0 : W4.cell? ⟨w.heap.size + 1, 0, none⟩ = some (.int .i64 x) := cell_of_row _ _ _ _ _ _ HB4.out.2.1
        have s1 : W4.cell? ⟨w.heap.size + 1, 1, none⟩ = some (.int .i64 y) := cell_of_row _ _ _ _ _ _ HB4.out.2.1
        have t0 : W4.frozen? ⟨w.heap.size + 1, 0, none⟩ = false := frozen_of_row _ _ _ _ _ HB4.out.2.1
        have t1 : W4.frozen? ⟨w.heap.size + 1, 1, none⟩ = false := frozen_of_row _ _ _ _ _ HB4.out.2.1
        go_wp2_with (fail)
        have HB5 : Hid ((W4.setCell ⟨w.heap.size + 1, 0, none⟩ (.int .i64 (x + pa * qa + pb * qb))).heap[w.heap.size]? = some (.cells #[.int .i64 0, .int .i64 0] 30 (0, 0)) ∧ (W4.setCell ⟨w.heap.size + 1, 0, none⟩ (.int .i64 (x + pa * qa + pb * qb))).heap[w.heap.size + 1]? = some (.cells #[.int .i64 (x + pa * qa + pb * qb), .int .i64 y] 30 (0, 0)) ∧ Below w.heap.size w (W4.setCell ⟨w.heap.size + 1, 0, none⟩ (.int .i64 (x + pa * qa + pb * qb)))) := ⟨(heap_setCell_other W4 ⟨w.heap.size + 1, 0, none⟩ w.heap.size _ (by show w.heap.size ≠ w.heap.size + 1; omega)).trans HB4.out.1, heap_setCell_same W4 (w.heap.size + 1) 0 _ _ _ HB4.out.2.1, HB4.out.2.2.setCell (by show w.heap.size ≤ w.heap.size + 1; omega) _⟩
        clear s0 s1 t0 t1 k1 k2 k3 k4
        generalize W4.setCell ⟨w.heap.size + 1, 0, none⟩ (.int .i64 (x + pa * qa + pb * qb)) = W5 at *
        obtain ⟨⟨k1, k2⟩, k3, k4⟩ := HK.out W5 HB5.out.2.2
        have s0 : W5.cell? ⟨w.heap.size + 1, 0, none⟩ = some (.int .i64 (x + pa * qa + pb * qb)) := cell_of_row _ _ _ _ _ _ HB5.out.2.1
        have s1 : W5.cell? ⟨w.heap.size + 1, 1, none⟩ = some (.int .i64 y) := cell_of_row _ _ _ _ _ _ HB5.out.2.1
        have t0 : W5.frozen? ⟨w.heap.size + 1, 0, none⟩ = false := frozen_of_row _ _ _ _ _ HB5.out.2.1
        have t1 : W5.frozen? ⟨w.heap.size + 1, 1, none⟩ = false := frozen_of_row _ _ _ _ _ HB5.out.2.1
        go_still_tail 27, (by kernel_rfl)
        change wpList _ _ _ _ _ W5.drew
        have HB6 : Hid (W5.drew.heap[w.heap.size]? = some (.cells #[.int .i64 0, .int .i64 0] 30 (0, 0)) ∧ W5.drew.heap[w.heap.size + 1]? = some (.cells #[.int .i64 (x + pa * qa + pb * qb), .int .i64 y] 30 (0, 0)) ∧ Below w.heap.size w W5.drew) := ⟨HB5.out.1, HB5.out.2.1, HB5.out.2.2.drew⟩
        clear s0 s1 t0 t1 k1 k2 k3 k4
        generalize W5.drew = W6 at *
        obtain ⟨⟨k1, k2⟩, k3, k4⟩ := HK.out W6 HB6.out.2.2
        have s0 : W6.cell? ⟨w.heap.size + 1, 0, none⟩ = some (.int .i64 (x + pa * qa + pb * qb)) := cell_of_row _ _ _ _ _ _ HB6.out.2.1
        have s1 : W6.cell? ⟨w.heap.size + 1, 1, none⟩ = some (.int .i64 y) := cell_of_row _ _ _ _ _ _ HB6.out.2.1
        have t0 : W6.frozen? ⟨w.heap.size + 1, 0, none⟩ = false := frozen_of_row _ _ _ _ _ HB6.out.2.1
        have t1 : W6.frozen? ⟨w.heap.size + 1, 1, none⟩ = false := frozen_of_row _ _ _ _ _ HB6.out.2.1
        clear w1 w2 w3 w4 w5 w6 w7 w8
        go_wp2
        go_roundw
        case rel =>
          refine ⟨j + 1, HJ.out, by go_num, _, _, HST.out, ?_⟩
          exact ⟨(heap_setCell_other W6 ⟨w.heap.size + 1, 1, none⟩ w.heap.size _ (by show w.heap.size ≠ w.heap.size + 1; omega)).trans HB6.out.1, heap_setCell_same W6 (w.heap.size + 1) 1 _ _ _ HB6.out.2.1, HB6.out.2.2.setCell (by show w.heap.size ≤ w.heap.size + 1; omega) _⟩
        case measure => simp [intOf]; omega
      · have d2 : decide ((j : Int) < (r.length : Int)) = false := by simp; omega
        have hd := dotP_all l r j (.inr (by omega))
        rw [HXY.out] at hd
        have HF := Lib.hid hd
        clear hd
        go_wp2_with (fail)
        refine bodyPost_ret (results_rdot _ _ w.heap.size x y _ rfl (heap_setCell_same _ w.heap.size 1 _ _ _ (heap_setCell_same wr w.heap.size 0 _ _ _ HW.out.1))) rfl ⟨by rw [← HF.out], ?_⟩
        exact (HW.out.2.2.setCell (Nat.le_refl _) _).setCell (Nat.le_refl _) _
    · have d1 : decide ((j : Int) < (l.length : Int)) = false := by simp; omega
      have hd := dotP_all l r j (.inl (by omega))
      rw [HXY.out] at hd
      have HF := Lib.hid hd
      clear hd
      go_wp2_with (fail)
      refine bodyPost_ret (results_rdot _ _ w.heap.size x y _ rfl (heap_setCell_same _ w.heap.size 1 _ _ _ (heap_setCell_same wr w.heap.size 0 _ _ _ HW.out.1))) rfl ⟨by rw [← HF.out], ?_⟩
      exact (HW.out.2.2.setCell (Nat.le_refl _) _).setCell (Nat.le_refl _) _
end Go.Proofs.Ytmpelpmgpklidaa
