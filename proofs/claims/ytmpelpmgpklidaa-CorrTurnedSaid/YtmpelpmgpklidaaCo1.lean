/- Package corr: Dot, Size, Sliced, places. -/
import Derived.Test.YtmpelpmgpklidaaCorrC
import Derived.Test.YtmpelpmgpklidaaFlC
import Derived.Test.YtmpelpmgpklidaaPhK
import Derived.Test.YtmpelpmgpklidaaPtW
import Derived.WalkLawsBesides
import Derived.Deep.QuietTactic
import Derived.BigQuiet
namespace Go.Proofs.Ytmpelpmgpklidaa
open Go.RowKit

set_option maxHeartbeats 1000000 in
theorem size_any (a b : Nat) (p : Pt) (w : World) (ha : Fl a p.1) (hb : Fl b p.2) (h : -50000000 ≤ p.1 ∧ p.1 ≤ 50000000 ∧ -50000000 ≤ p.2 ∧ p.2 ≤ 50000000) :
    Calls Try.prog 13 #[.complex .f64 a b] w (GivesX w (sizeI p)) := by
  have m1 := mul_bound (B := 50000000) (by decide) h.1 h.2.1 h.1 h.2.1
  have m2 := mul_bound (B := 50000000) (by decide) h.2.2.1 h.2.2.2 h.2.2.1 h.2.2.2
  obtain ⟨x, e1, f1⟩ := fl_mul ha ha (by omega)
  obtain ⟨y, e2, f2⟩ := fl_mul hb hb (by omega)
  obtain ⟨z, e3, f3⟩ := fl_add f1 f2 (by omega)
  have q1 := fun W => run_float_arith (P := Try.prog) W .mul 34 .f64 a a x e1
  have q2 := fun W => run_float_arith (P := Try.prog) W .mul 34 .f64 b b y e2
  have q3 := fun W => run_float_arith (P := Try.prog) W .add 34 .f64 x y z e3
  have HZ : Hid (Fl z (sizeI p)) := f3
  clear m1 m2 e1 e2 e3 f1 f2 f3 ha hb h
  go_enter Try.func13, Try.ntmps13
  go_wp2
  go_ret
  exact ⟨_, rfl, HZ.out, Below.refl _ _⟩
theorem cvs_zero (n : Nat) : Cvs (List.replicate n (.complex .f64 0 0)) (List.replicate n ((0, 0) : Pt)) :=
  ⟨by simp, fun j h h' => ⟨0, 0, by simp, by simp only [List.getElem_replicate]; exact fl_zero, by simp only [List.getElem_replicate]; exact fl_zero⟩⟩
theorem OwnC.made {w : World} {B : Nat} {v : Value} {n : Nat} (h : w.ownsRow B 25 1 v n (List.replicate n (.complex .f64 0 0))) : OwnC w B v (List.replicate n ((0, 0) : Pt)) :=
  ⟨_, by rw [List.length_replicate]; exact h, cvs_zero n⟩
theorem sliced_step (l : List Pt) (j : Nat) (h : j < l.length) :
    slicedB (l.take (j + 1)) ++ List.replicate (l.length - (j + 1)) ((0, 0) : Pt) = (slicedB (l.take j) ++ List.replicate (l.length - j) ((0, 0) : Pt)).set j (sliceP l[j]) := by
  have hl : (slicedB (l.take j)).length = j := by unfold slicedB; simp; omega
  rw [List.set_append_right _ _ (by omega), hl, Nat.sub_self, show l.length - j = (l.length - (j + 1)) + 1 by omega, List.replicate_succ, List.set_cons_zero, List.take_succ_eq_append_getElem h]
  unfold slicedB
  rw [List.map_append, List.append_assoc]
  rfl
set_option maxHeartbeats 4000000 in
theorem sliced_any (A : Option Addr) (n c : Nat) (l : List Pt) (w : World) (hP : Cs w A n c l) (hn : n ≤ 400) :
    Calls Try.prog 16 #[.slice A n c] w (GivesC w (slicedB l)) := by
  obtain rfl := hP.len
  have hcm := hP.cap
  have HC := Lib.hid (fun j => hP.at_ j)
  have hz := Nat.le_refl w.heap.size
  obtain ⟨i0, hi, hz0, hz1, hz2⟩ := info_parts Try.infoC
  clear hP
  go_enter Try.func16, Try.ntmps16
  go_wp2_with (at_make; refine wpList_make_full _ rfl _ _ 27 rfl w.heap.size 25 i0 (.complex .f64 0 0) 1 Try.underlying27 hi hz0 hz1 .i64 .i64 _ _ l.length rfl rfl rfl rfl (by rw [hz2]; omega) (by unfold maxLen; omega) hz ?_; intro w2 hown hgrow; have HON := Lib.hid (And.intro hown hgrow); clear hown hgrow)
  go_loopw [11] (fun i wr => ∃ j : Nat, j ≤ l.length ∧ i = .int .i64 (j : Int) ∧ OwnC wr w.heap.size (.slice (some ⟨w.heap.size, 0, none⟩) l.length l.length) (slicedB (l.take j) ++ List.replicate (l.length - j) ((0, 0) : Pt)) ∧ Below w.heap.size w wr) (fun i _ => l.length - (intOf i).toNat)
  case atStart => exact ⟨0, Nat.zero_le _, rfl, OwnC.made (by have := HON.out.1; rw [show (Value.complex .f64 0 0).cells = #[Value.complex .f64 0 0] from rfl, toList_madeCells_one, Nat.mul_one] at this; exact this), (Below.refl _ _).grown HON.out.2 hz (by simp)⟩
  case round =>
    obtain ⟨j, hj, rfl, hown, hbel⟩ := hrel
    by_cases hlt : j < l.length
    · have d : decide ((j : Int) < (l.length : Int)) = true := by simp; omega
      obtain ⟨g, o, x, y, rfl, hg, hk', hc, hx, hy⟩ := HC.out j hlt
      have hc := (hbel.cell (p := ⟨g, o + j, none⟩) hg).trans hc
      have hst := sliced_step l j hlt
      have hTM := slice_any x y l[j] wr hx hy
      have hcl : (slicedB (l.take j) ++ List.replicate (l.length - j) ((0, 0) : Pt)).length = l.length := by unfold slicedB; simp; omega
      clear hx hy
      generalize sliceP l[j] = q at *
      generalize slicedB (l.take j) ++ List.replicate (l.length - j) ((0, 0) : Pt) = cur at *
      have HTM := Lib.hid hTM
      have HST := Lib.hid hst
      have HON := Lib.hid hown
      clear hTM hst hown
      go_wp2_with (fail)
      refine HTM.out.mono ?_
      rintro e w2 ⟨c1, d1, rfl, f1, f2, T2⟩
      have hon2 := HON.out.below T2
      obtain ⟨x2, y2, hc2, hf2, -, -⟩ := hon2.cell j (by omega)
      have HS := Lib.hid (hon2.stored j f1 f2)
      have s1 := fun (W : World) (m : Mode) => run_store Try.prog W ⟨w.heap.size, j, none⟩ (.complex .f64 c1 d1) m rfl
      have T2 := nxt hbel T2
      clear f1 f2 hon2
      go_wp2
      go_roundw
      case rel =>
        refine ⟨j + 1, by omega, by go_num, ?_, ?_⟩
        · rw [HST.out]
          exact HS.out.1
        · exact T2.setCell (Nat.le_refl _) _
      case measure => simp [intOf]; omega
    · obtain rfl : j = l.length := by omega
      have d : decide ((l.length : Int) < (l.length : Int)) = false := by simp
      rw [List.take_length, Nat.sub_self, List.replicate_zero, List.append_nil] at hown
      have HON := Lib.hid hown
      clear hown
      go_wp2
      go_ret
      exact ⟨_, rfl, HON.out, hbel⟩
set_option maxHeartbeats 4000000 in
theorem dot_any (A : Option Addr) (n c : Nat) (l : List Pt) (B : Option Addr) (m d : Nat) (r : List Pt) (w : World) (hP : Cs w A n c l) (hQ : Cs w B m d r) (hl : ∀ p ∈ l, Near p) (hr : ∀ p ∈ r, Near p) (hn : n ≤ 400) (hm : m ≤ 400) :
    Calls Try.prog 9 #[.slice A n c, .slice B m d] w (GivesZ w (dotP l r)) := by
  obtain rfl := hP.len
  obtain rfl := hQ.len
  have hcm := hP.cap
  have hnc := hP.le
  have hdm := hQ.cap
  have hmd := hQ.le
  have HC := Lib.hid (fun j => hP.at_ j)
  have HD := Lib.hid (fun j => hQ.at_ j)
  have HN := Lib.hid (And.intro hl hr)
  have HDB := Lib.hid (fun j => dot_near (l.take j) (r.take j) (fun p hp => hl p (List.mem_of_mem_take hp)) (fun p hp => hr p (List.mem_of_mem_take hp)) (by simp; omega))
  by_cases hnm : l.length ≤ r.length
  · have HA := Lib.hid (dotP_all l r l.length (by omega))
    clear hP hQ hl hr
    go_enter Try.func9, Try.ntmps9
    go_wp2_with (fail)
    go_loopw [5, 12] (fun s i wr => ∃ (j x y : Nat), j ≤ l.length ∧ s = .complex .f64 x y ∧ i = .int .i64 (j : Int) ∧ Hid (Fl x (dotP (l.take j) (r.take j)).1 ∧ Fl y (dotP (l.take j) (r.take j)).2) ∧ Below w.heap.size w wr) (fun _ i _ => l.length - (intOf i).toNat)
    case atStart => exact ⟨0, 0, 0, Nat.zero_le _, rfl, rfl, ⟨fl_zero, fl_zero⟩, Below.refl _ _⟩
    case round =>
      obtain ⟨j, x, y, hj, rfl, rfl, HF, hbel⟩ := hrel
      by_cases hlt : j < l.length
      · have dd : decide ((j : Int) < (l.length : Int)) = true := by simp; omega
        obtain ⟨g1, o1, a1, b1, rfl, hg1, hk1, hc1, hx1, hy1⟩ := HC.out j (by omega)
        obtain ⟨g2, o2, a2, b2, rfl, hg2, hk2, hc2, hx2, hy2⟩ := HD.out j (by omega)
        have q1 := (hbel.cell (p := ⟨g1, o1 + j, none⟩) hg1).trans hc1
        have q2 := (hbel.cell (p := ⟨g2, o2 + j, none⟩) hg2).trans hc2
        have hn1 := HN.out.1 l[j] (List.getElem_mem hk1)
        have hn2 := HN.out.2 r[j] (List.getElem_mem hk2)
        have hst := dotP_take l r j hk1 hk2
        have hdb := HDB.out j
        have hF := HF.out
        generalize dotP (l.take j) (r.take j) = cur at *
        generalize l[j] = p at *
        generalize r[j] = q at *
        have htn := term_near hn1 hn2
        unfold Near at hn1 hn2
        obtain ⟨px, py⟩ := p
        obtain ⟨qx, qy⟩ := q
        simp only at hn1 hn2 hx1 hy1 hx2 hy2
        obtain ⟨z1, z2, m1, k1, k2⟩ := fl_cmul (p := (px, py)) (q := (qx, -qy)) hx1 hy1 hx2 (fl_flip hy2) (by simp only; omega) (by simp only; omega)
        have ht1 : (px * qx - py * -qy) = (termP (px, py) (qx, qy)).1 := by show _ = px * qx + py * qy; rw [Int.mul_neg]; omega
        have ht2 : (px * -qy + py * qx) = (termP (px, py) (qx, qy)).2 := by show _ = py * qx - px * qy; rw [Int.mul_neg]; omega
        simp only at k1 k2
        rw [ht1] at k1
        rw [ht2] at k2
        obtain ⟨s1, s2, m2, k3, k4⟩ := fl_cadd (p := cur) (q := termP (px, py) (qx, qy)) hF.1 hF.2 k1 k2 (by omega) (by omega)
        have r0 : ∀ W : World, (Op.unary UnOp.neg (.float .f64 b2)).run Try.prog W = .ok (.float .f64 (Op.negFloat .f64 b2)) W := fun W => rfl
        have r1 := fun W => run_complex_mul (P := Try.prog) W 25 a1 b1 a2 (Op.negFloat .f64 b2) z1 z2 m1
        have r2 := fun W => run_complex_sum (P := Try.prog) W .add (.inl rfl) 25 .f64 x y z1 z2 s1 s2 m2
        have HNX : Hid (Fl s1 (dotP (l.take (j + 1)) (r.take (j + 1))).1 ∧ Fl s2 (dotP (l.take (j + 1)) (r.take (j + 1))).2) := by
          show _ ∧ _
          rw [hst]
          exact ⟨k3, k4⟩
        have i1 : (j : Int) < (l.length : Int) := by omega
        have i2 : (j : Int) < (r.length : Int) := by omega
        clear hc1 hc2 hx1 hy1 hx2 hy2 m1 m2 k1 k2 k3 k4 ht1 ht2 hst hdb hF htn hn1 hn2 hk1 hk2 HF
        go_wp2_with (fail)
        go_quiet (fail)
        go_wp2
        go_roundw
        case rel => exact ⟨j + 1, s1, s2, by omega, rfl, by go_num, HNX.out, by first | exact hbel | exact hbel.drew | exact below_drewN' hbel _⟩
        case measure => simp [intOf]; omega
      · have dd : decide ((j : Int) < (l.length : Int)) = false := by simp; omega
        obtain rfl : j = l.length := by omega
        have hF := HF.out
        rw [HA.out] at hF
        have HFF := Lib.hid hF
        clear hF HF
        go_wp2
        go_ret
        exact ⟨_, _, rfl, HFF.out.1, HFF.out.2, hbel⟩
  · have HA := Lib.hid (dotP_all l r r.length (by omega))
    clear hP hQ hl hr
    go_enter Try.func9, Try.ntmps9
    go_wp2_with (fail)
    go_loopw [5, 12] (fun s i wr => ∃ (j x y : Nat), j ≤ r.length ∧ s = .complex .f64 x y ∧ i = .int .i64 (j : Int) ∧ Hid (Fl x (dotP (l.take j) (r.take j)).1 ∧ Fl y (dotP (l.take j) (r.take j)).2) ∧ Below w.heap.size w wr) (fun _ i _ => r.length - (intOf i).toNat)
    case atStart => exact ⟨0, 0, 0, Nat.zero_le _, rfl, rfl, ⟨fl_zero, fl_zero⟩, Below.refl _ _⟩
    case round =>
      obtain ⟨j, x, y, hj, rfl, rfl, HF, hbel⟩ := hrel
      by_cases hlt : j < r.length
      · have dd : decide ((j : Int) < (r.length : Int)) = true := by simp; omega
        obtain ⟨g1, o1, a1, b1, rfl, hg1, hk1, hc1, hx1, hy1⟩ := HC.out j (by omega)
        obtain ⟨g2, o2, a2, b2, rfl, hg2, hk2, hc2, hx2, hy2⟩ := HD.out j (by omega)
        have q1 := (hbel.cell (p := ⟨g1, o1 + j, none⟩) hg1).trans hc1
        have q2 := (hbel.cell (p := ⟨g2, o2 + j, none⟩) hg2).trans hc2
        have hn1 := HN.out.1 l[j] (List.getElem_mem hk1)
        have hn2 := HN.out.2 r[j] (List.getElem_mem hk2)
        have hst := dotP_take l r j hk1 hk2
        have hdb := HDB.out j
        have hF := HF.out
        generalize dotP (l.take j) (r.take j) = cur at *
        generalize l[j] = p at *
        generalize r[j] = q at *
        have htn := term_near hn1 hn2
        unfold Near at hn1 hn2
        obtain ⟨px, py⟩ := p
        obtain ⟨qx, qy⟩ := q
        simp only at hn1 hn2 hx1 hy1 hx2 hy2
        obtain ⟨z1, z2, m1, k1, k2⟩ := fl_cmul (p := (px, py)) (q := (qx, -qy)) hx1 hy1 hx2 (fl_flip hy2) (by simp only; omega) (by simp only; omega)
        have ht1 : (px * qx - py * -qy) = (termP (px, py) (qx, qy)).1 := by show _ = px * qx + py * qy; rw [Int.mul_neg]; omega
        have ht2 : (px * -qy + py * qx) = (termP (px, py) (qx, qy)).2 := by show _ = py * qx - px * qy; rw [Int.mul_neg]; omega
        simp only at k1 k2
        rw [ht1] at k1
        rw [ht2] at k2
        obtain ⟨s1, s2, m2, k3, k4⟩ := fl_cadd (p := cur) (q := termP (px, py) (qx, qy)) hF.1 hF.2 k1 k2 (by omega) (by omega)
        have r0 : ∀ W : World, (Op.unary UnOp.neg (.float .f64 b2)).run Try.prog W = .ok (.float .f64 (Op.negFloat .f64 b2)) W := fun W => rfl
        have r1 := fun W => run_complex_mul (P := Try.prog) W 25 a1 b1 a2 (Op.negFloat .f64 b2) z1 z2 m1
        have r2 := fun W => run_complex_sum (P := Try.prog) W .add (.inl rfl) 25 .f64 x y z1 z2 s1 s2 m2
        have HNX : Hid (Fl s1 (dotP (l.take (j + 1)) (r.take (j + 1))).1 ∧ Fl s2 (dotP (l.take (j + 1)) (r.take (j + 1))).2) := by
          show _ ∧ _
          rw [hst]
          exact ⟨k3, k4⟩
        have i1 : (j : Int) < (l.length : Int) := by omega
        have i2 : (j : Int) < (r.length : Int) := by omega
        clear hc1 hc2 hx1 hy1 hx2 hy2 m1 m2 k1 k2 k3 k4 ht1 ht2 hst hdb hF htn hn1 hn2 hk1 hk2 HF
        go_wp2_with (fail)
        go_quiet (fail)
        go_wp2
        go_roundw
        case rel => exact ⟨j + 1, s1, s2, by omega, rfl, by go_num, HNX.out, by first | exact hbel | exact hbel.drew | exact below_drewN' hbel _⟩
        case measure => simp [intOf]; omega
      · have dd : decide ((j : Int) < (r.length : Int)) = false := by simp; omega
        obtain rfl : j = r.length := by omega
        have hF := HF.out
        rw [HA.out] at hF
        have HFF := Lib.hid hF
        clear hF HF
        go_wp2
        go_ret
        exact ⟨_, _, rfl, HFF.out.1, HFF.out.2, hbel⟩
/-- how many places there are -/
def placesN (n m : Nat) : Nat := if m = 0 then 0 else n + 1 - m
theorem places_any (A : Option Addr) (n c : Nat) (B : Option Addr) (m d : Nat) (w : World) (hn : n ≤ 1000000) (hm : m ≤ 1000000) :
    Calls Try.prog 28 #[.slice A n c, .slice B m d] w fun e w' => e = .returned (.int .i64 (placesN n m : Nat)) ∧ w = w' := by
  by_cases h0 : m = 0
  · subst h0
    have HF : Hid (placesN n 0 = 0) := rfl
    go_enter Try.func28, Try.ntmps28
    go_wp2
    go_ret
    exact ⟨by rw [HF.out]; rfl, rfl⟩
  · have d0 : ((m : Int) == 0) = false := by simp; omega
    have HF : Hid (placesN n m = n + 1 - m) := by show placesN n m = n + 1 - m; unfold placesN; rw [if_neg h0]
    go_enter Try.func28, Try.ntmps28
    go_wp2
    · go_ret
      exact ⟨by rw [HF.out, show ((n + 1 - m : Nat) : Int) = n - m + 1 by omega]; rfl, rfl⟩
    · go_ret
      exact ⟨by rw [HF.out, show n + 1 - m = 0 by omega]; rfl, rfl⟩
end Go.Proofs.Ytmpelpmgpklidaa
