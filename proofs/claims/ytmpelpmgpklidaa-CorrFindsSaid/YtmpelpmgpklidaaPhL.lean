/- What the law's own Of, Told, num and live answer, over phase's contracts. -/
import Derived.Test.YtmpelpmgpklidaaPhC
namespace Go.Proofs.Ytmpelpmgpklidaa
open Go.RowKit

set_option maxHeartbeats 4000000 in
theorem lof_any (C : PhC) (A : Option Addr) (n c : Nat) (l : List Pt) (w : World) (hP : Ps w A n c l) (hn : n ≤ 1000000) (hM : ∀ p ∈ l, Mid p) :
    Calls Try.prog 10 #[.slice A n c] w (GivesC w l) := by
  obtain ⟨hl, hnc, hcm, hcell⟩ := hP
  unfold maxLen at hcm
  subst hl
  have HC := Lib.hid hcell
  have HM := Lib.hid hM
  clear hcell hM
  go_enter Try.func10, Try.ntmps10
  go_wp2_with (fail)
  go_loopw [3, 4] (fun v i wr => ∃ j : Nat, j ≤ l.length ∧ i = .int .i64 (j : Int) ∧ OwnC wr w.heap.size v (l.take j) ∧ Below w.heap.size w wr) (fun _ i _ => l.length - (intOf i).toNat)
  case atStart => exact ⟨0, Nat.zero_le _, rfl, OwnC.nil _ _, Below.refl _ _⟩
  case round =>
    obtain ⟨j, hj, rfl, hown, hbel⟩ := hrel
    by_cases hlt : j < l.length
    · obtain ⟨g, o, rfl, hg, hc⟩ := HC.out (by omega)
      have HC0 := Lib.hid (hc j hlt)
      obtain ⟨c1, c2⟩ := hc j hlt
      have c1 := (hbel.cell (p := ⟨g, o + j * 2, none⟩) hg).trans c1
      have c2 := (hbel.cell (p := ⟨g, o + j * 2 + 1, none⟩) hg).trans c2
      have hgz : g < wr.heap.size := by have := hbel.size; omega
      have hst := List.take_succ_eq_append_getElem hlt
      have hof := fun W => C.of_ l[j] W (HM.out _ (List.getElem_mem hlt))
      have hlen : (l.take j).length ≤ 1000000 := by simp; omega
      generalize l[j] = x at *
      generalize l.take j = cur at *
      obtain ⟨xa, xb⟩ := x
      simp only at c1 c2
      have HOF := Lib.hid hof
      have HST := Lib.hid hst
      have HON := Lib.hid hown
      have hz0 := hbel.size
      clear hof hst hown hc
      go_wp2_with (fail)
      go_region_held3 (fun w' => w'.cell? ⟨g, o + j * 2, none⟩ = some (.int .i64 xa) ∧ w'.cell? ⟨g, o + j * 2 + 1, none⟩ = some (.int .i64 xb))
        (first | exact ⟨c1, c2⟩ | exact q7 | exact ⟨((Below.refl w5.heap.size w5).alloc (Nat.le_refl _) _).cell (p := ⟨g, o + j * 2, none⟩) hg5 |>.trans q5.1, ((Below.refl w5.heap.size w5).alloc (Nat.le_refl _) _).cell (p := ⟨g, o + j * 2 + 1, none⟩) hg5 |>.trans q5.2⟩ | exact q5)
        (first
          | (go_at_call 23; (refine (HOF.out _).mono ?_); rintro e w5 ⟨za, zb, rfl, hza, hzb, G5⟩; have K5 : Below wr.heap.size wr w5 := undrew G5; have q5 : w5.cell? ⟨g, o + j * 2, none⟩ = some (.int .i64 xa) ∧ w5.cell? ⟨g, o + j * 2 + 1, none⟩ = some (.int .i64 xb) := ⟨(K5.cell (p := ⟨g, o + j * 2, none⟩) hgz).trans c1, (K5.cell (p := ⟨g, o + j * 2 + 1, none⟩) hgz).trans c2⟩; have hg5 : g < w5.heap.size := (by have := K5.size; omega); have HO5 := Lib.hid (HON.out.below K5); have T5 := nxt hbel K5)
          | ((refine step_cx _ rfl (.tmp 11) (.tmp 23) rfl w.heap.size u3 cur rfl ?_ w5.heap.size za zb (xa, xb) rfl ?_ hza hzb ?_ ?_ ?_); (exact HO5.out.below ((Below.refl _ _).alloc (Nat.le_refl _) _)); (exact heap_alloc_new w5 _); (omega); (exact Nat.le_trans T5.size (by simp)); intro v7 w7 hown7 hgrow7 hwhere7; have T7 : Below w.heap.size w w7 := (T5.alloc T5.size _).grown hgrow7 (Nat.le_trans T5.size (by simp)) (fun k' hk => (HO5.out.lt k' hk).1); have q7 : w7.cell? ⟨g, o + j * 2, none⟩ = some (.int .i64 xa) ∧ w7.cell? ⟨g, o + j * 2 + 1, none⟩ = some (.int .i64 xb) := ⟨(T7.cell (p := ⟨g, o + j * 2, none⟩) hg).trans HC0.out.1, (T7.cell (p := ⟨g, o + j * 2 + 1, none⟩) hg).trans HC0.out.2⟩))
      have HO7 := Lib.hid hown7
      clear hown7 hgrow7 hwhere7 q7 q5 c1 c2
      go_wp2
      go_roundw
      case rel => exact ⟨j + 1, by omega, by go_num, by rw [HST.out]; exact HO7.out, T7⟩
      case measure => simp [intOf]; omega
    · obtain rfl : j = l.length := by omega
      rw [List.take_length] at hown
      have HON := Lib.hid hown
      clear hown
      go_wp2
      go_ret
      exact ⟨_, rfl, HON.out, hbel⟩

set_option maxHeartbeats 2000000 in
theorem told_true (C : PhC) (A : Option Addr) (n c : Nat) (A2 : Option Addr) (n2 c2 : Nat) (l : List Pt) (w : World) (hC : Cs w A n c l) (hP : Ps w A2 n2 c2 l) (hM : ∀ p ∈ l, Mid p) :
    Calls Try.prog 15 #[.slice A n c, .slice A2 n2 c2] w fun e w' => e = .returned (.bool true) ∧ Below w.heap.size w w' := by
  obtain rfl : n2 = n := by have := hC.len; have := hP.len; omega
  have hl := hC.len
  have hcm := hC.cap
  have hnc := hC.le
  have HA := Lib.hid hC.at_
  obtain ⟨_, hnc2, hcm2, hcell⟩ := hP
  unfold maxLen at hcm2
  have HC := Lib.hid hcell
  have HM := Lib.hid hM
  subst hl
  clear hcell hM hC
  have hbb : ((l.length : Int) != (l.length : Int)) = false := by simp
  go_enter Try.func15, Try.ntmps15
  go_wp2_with (fail)
  go_loopw [5] (fun i wr => ∃ j : Nat, j ≤ l.length ∧ i = .int .i64 (j : Int) ∧ Below w.heap.size w wr) (fun i _ => l.length - (intOf i).toNat)
  case atStart => exact ⟨0, Nat.zero_le _, rfl, Below.refl _ _⟩
  case round =>
    obtain ⟨j, hj, rfl, hbel⟩ := hrel
    by_cases hlt : j < l.length
    · obtain ⟨g, o, rfl, hg, hc⟩ := HC.out (by omega)
      obtain ⟨c1, c2⟩ := hc j hlt
      obtain ⟨g2, o2, x, y, rfl, hg2, hk2, c3, hx, hy⟩ := HA.out j hlt
      have hpa := fun W => C.parts x y l[j] W hx hy (HM.out _ (List.getElem_mem hlt))
      have c3 := (hbel.cell (p := ⟨g2, o2 + j, none⟩) hg2).trans c3
      generalize l[j] = z at *
      obtain ⟨za, zb⟩ := z
      simp only at c1 c2
      have HPA := Lib.hid hpa
      have d1 : (za != za) = false := by simp
      have d2 : (zb != zb) = false := by simp
      have hC2 : ∀ W, Below wr.heap.size wr W → W.cell? ⟨g, o + j * 2, none⟩ = some (.int .i64 za) ∧ W.cell? ⟨g, o + j * 2 + 1, none⟩ = some (.int .i64 zb) := fun W k => ⟨((nxt hbel k).cell (p := ⟨g, o + j * 2, none⟩) hg).trans c1, ((nxt hbel k).cell (p := ⟨g, o + j * 2 + 1, none⟩) hg).trans c2⟩
      have HC2 := Lib.hid hC2
      clear hpa hc c1 c2 hx hy hC2
      go_wp2_with (fail)
      refine (HPA.out _).mono ?_
      rintro e w5 ⟨rfl, G5⟩
      obtain ⟨e1, e2⟩ := HC2.out _ G5
      go_wp2
      go_roundw
      case rel => exact ⟨j + 1, by omega, by go_num, nxt hbel G5⟩
      case measure => simp [intOf]; omega
    · obtain rfl : j = l.length := by omega
      go_wp2
      go_ret
      exact ⟨rfl, hbel⟩

theorem points_live : pointsB [27] = [(1, 1), (1, 1), (-1, 1), (1, -1), (-1, -1)] := by decide +kernel
end Go.Proofs.Ytmpelpmgpklidaa
