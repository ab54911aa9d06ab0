/- What kedgeref07's Points answers. -/
import Derived.Test.YtgkbgkgfjbmniaaRph2
import Derived.Deep.RegionWith
namespace Go.Proofs.Ytgkbgkgfjbmniaa
open Go.RowKit

theorem twos_all (c : UInt8) : (List.range 4).map (twoB c) = [twoB c 0, twoB c 1, twoB c 2, twoB c 3] := rfl
theorem twos_succ (c : UInt8) (j : Nat) : (List.range (j + 1)).map (twoB c) = (List.range j).map (twoB c) ++ [twoB c j] := by rw [List.range_succ, List.map_append]; rfl
/-- the points so far -/
def wP (s : List Nat) : List Pt := (1, 1) :: walkP (1, 1) s
theorem wP_snoc (s : List Nat) (k : Nat) : wP (s ++ [k]) = wP s ++ [rotN k (endP (1, 1) s)] := by unfold wP; rw [walkP_snoc]; rfl
theorem wP_len (s : List Nat) : (wP s).length = s.length + 1 := by unfold wP; rw [List.length_cons, walkP_len]
theorem endP_unit (s : List Nat) : ∃ q, q < 4 ∧ endP (1, 1) s = unit q := by
  have key : ∀ (s : List Nat) (q : Nat), ∃ q', endP (unit q) s = unit (q' % 4) := by
    intro s
    induction s with
    | nil => intro q; exact ⟨q, by rw [show endP (unit q) [] = unit q from rfl]; unfold unit; exact rotN_mod _ _⟩
    | cons k r ih =>
      intro q
      have : endP (unit q) (k :: r) = endP (rotN k (unit q)) r := rfl
      rw [this, unit_rot]
      exact ih _
  obtain ⟨q', h⟩ := key s 0
  exact ⟨q' % 4, by omega, h⟩
theorem unit_parts (q : Nat) (h : q < 4) : ((unit q).1 = 1 ∨ (unit q).1 = -1) ∧ ((unit q).2 = 1 ∨ (unit q).2 = -1) := by
  match q, h with
  | 0, _ => decide +kernel
  | 1, _ => decide +kernel
  | 2, _ => decide +kernel
  | 3, _ => decide +kernel
theorem endP_tame (s : List Nat) : -4611686018427387904 ≤ (endP (1, 1) s).1 ∧ (endP (1, 1) s).1 ≤ 4611686018427387904 ∧ -4611686018427387904 ≤ (endP (1, 1) s).2 ∧ (endP (1, 1) s).2 ≤ 4611686018427387904 := by
  obtain ⟨q, h1, h2⟩ := endP_unit s
  rw [h2]
  have := unit_parts q h1
  omega
theorem twoB_lt (c : UInt8) (k : Nat) : twoB c k < 4 := by unfold twoB; omega

theorem OwnP.set {w : World} {B : Nat} {v : Value} {l : List Pt} (h : OwnP w B v l) (g k : Nat) (u : Value) (hg : g < B) : OwnP (w.setCell ⟨g, k, none⟩ u) B v l := by
  refine ⟨h.1, ?_⟩
  rcases h.2 with h2 | ⟨g', cap, cur, hv, hb, hh, r⟩
  · exact .inl h2
  · exact .inr ⟨g', cap, cur, hv, hb, (heap_setCell_other w ⟨g, k, none⟩ g' u (by show g' ≠ g; omega)).trans hh, r⟩
set_option maxHeartbeats 4000000 in
theorem rpoints_any (A : Option Addr) (n c : Nat) (b : List UInt8) (w : World) (hB : Bys w A n c b) :
    Calls Try.prog 21 #[.slice A n c] w (GivesP w (pointsB b)) := by
  by_cases hbig : 4096 < n
  · have d : decide ((4096 : Int) < (n : Int)) = true := by simp; omega
    have HP : Hid (pointsB b = []) := by show _ = _; unfold pointsB; rw [if_pos (by rw [hB.len]; exact hbig)]
    clear hB hbig
    go_enter Try.func21, Try.ntmps21
    go_wp2
    go_ret
    exact ⟨_, rfl, by rw [HP.out]; exact OwnP.nil _ _, Below.refl _ _⟩
  · have d : decide ((4096 : Int) < (n : Int)) = false := by simp; omega
    have HP : Hid (pointsB b = wP (stepsB b)) := by show _ = _; unfold pointsB wP; rw [if_neg (by rw [hB.len]; exact hbig)]
    obtain ⟨hl, hnc, hcm, hcell⟩ := hB
    unfold maxLen at hcm
    subst hl
    have hn : b.length ≤ 4096 := by omega
    have HC := Lib.hid hcell
    clear hcell hbig
    have hY : ((w.alloc (.cells #[.int .i64 1, .int .i64 1] 31)).alloc (.cells #[.int .i64 1, .int .i64 1] 31)).heap[w.heap.size]? = some (.cells #[.int .i64 1, .int .i64 1] 31 (0, 0)) := by
      rw [Below.heap_alloc _ _ _ (by simp)]
      exact heap_alloc_new w _
    have hO := OwnP.lit (w.alloc (.cells #[.int .i64 1, .int .i64 1] 31)) (w.heap.size + 1) [(1, 1)] (by simp) (by decide)
    have hO2 : OwnP ((w.alloc (.cells #[.int .i64 1, .int .i64 1] 31)).alloc (.cells #[.int .i64 1, .int .i64 1] 31)) (w.heap.size + 1) (.slice (some ⟨w.heap.size + 1, 0, none⟩) 1 1) (wP []) := by
      have e : (w.alloc (.cells #[.int .i64 1, .int .i64 1] 31)).heap.size = w.heap.size + 1 := by simp
      rw [e] at hO
      exact hO
    have HI := Lib.hid (And.intro hY hO2)
    clear hY hO hO2
    go_enter Try.func21, Try.ntmps21
    go_wp2_with (fail)
    go_loopw [4, 5] (fun v i wr => ∃ k : Nat, k ≤ b.length ∧ i = .int .i64 (k : Int) ∧ Hid (OwnP wr (w.heap.size + 1) v (wP (stepsB (b.take k))) ∧ wr.heap[w.heap.size]? = some (.cells #[.int .i64 (endP (1, 1) (stepsB (b.take k))).1, .int .i64 (endP (1, 1) (stepsB (b.take k))).2] 31 (0, 0)) ∧ Below w.heap.size w wr ∧ w.heap.size + 1 ≤ wr.heap.size)) (fun _ i _ => b.length - (intOf i).toNat)
    case atStart => exact ⟨0, Nat.zero_le _, rfl, HI.out.2, HI.out.1, ((Below.refl _ _).alloc (Nat.le_refl _) _).alloc (by simp) _, by simp⟩
    case round =>
      obtain ⟨k, hk, rfl, HW⟩ := hrel
      by_cases hlt : k < b.length
      · obtain ⟨g, o, rfl, hg, hc⟩ := HC.out (by omega)
        have hc1 := hc k hlt
        have hst := stepsB_take b k hlt
        rw [← twos_all] at hst
        have hsl : (stepsB (b.take k)).length ≤ 16384 := by rw [stepsB_len]; simp; omega
        generalize b[k] = x at *
        have HST := Lib.hid hst
        have HC1 := Lib.hid hc1
        clear hc hst hc1
        generalize stepsB (b.take k) = s at *
        go_wp2_with (fail)
        go_loopw [4, 6] (fun v i wr => ∃ j : Nat, j ≤ 4 ∧ i = .int .i64 (j : Int) ∧ Hid (OwnP wr (w.heap.size + 1) v (wP (s ++ (List.range j).map (twoB x))) ∧ wr.heap[w.heap.size]? = some (.cells #[.int .i64 (endP (1, 1) (s ++ (List.range j).map (twoB x))).1, .int .i64 (endP (1, 1) (s ++ (List.range j).map (twoB x))).2] 31 (0, 0)) ∧ Below w.heap.size w wr ∧ w.heap.size + 1 ≤ wr.heap.size)) (fun _ i _ => 4 - (intOf i).toNat)
        case atStart => exact ⟨0, Nat.zero_le _, rfl, by show _ ∧ _; simpa using HW.out⟩
        case round =>
          obtain ⟨j, hj, rfl, HW2⟩ := hrel
          by_cases hlt2 : j < 4
          · obtain ⟨t, ht⟩ : ∃ t, t = s ++ (List.range j).map (twoB x) := ⟨_, rfl⟩
            have hw2 := HW2.out
            rw [← ht] at hw2
            have ht2 : s ++ (List.range (j + 1)).map (twoB x) = t ++ [twoB x j] := by rw [twos_succ, ← List.append_assoc, ← ht]
            have htl : t.length ≤ 20000 := by rw [ht]; simp; omega
            have het := endP_tame t
            have hw := wP_snoc t (twoB x j)
            have he : endP (1, 1) (t ++ [twoB x j]) = rotN (twoB x j) (endP (1, 1) t) := endP_snoc _ _ _
            have htw := times_any (endP (1, 1) t) (twoB x j : Int)
            have hrk : rotK (twoB x j : Int) (endP (1, 1) t) = rotN (twoB x j) (endP (1, 1) t) := by unfold rotK; rw [rest4_nat, Nat.mod_eq_of_lt (twoB_lt x j)]
            rw [hrk] at htw
            have h2 := fun W => two_any x j W (by omega)
            have hwl := wP_len t
            generalize rotN (twoB x j) (endP (1, 1) t) = q at *
            generalize endP (1, 1) t = z at *
            generalize twoB x j = tw at *
            obtain ⟨qa, qb⟩ := q
            obtain ⟨za, zb⟩ := z
            have HTW := Lib.hid (fun W => htw W het)
            have H2 := Lib.hid h2
            have HWP := Lib.hid (And.intro ht2 (And.intro hw he))
            have hbel := hw2.2.2.1
            have hz := hw2.2.2.2
            have c0 : wr.cell? ⟨w.heap.size, 0, none⟩ = some (.int .i64 za) := cell_of_row _ _ _ _ _ _ hw2.2.1
            have c1 : wr.cell? ⟨w.heap.size, 1, none⟩ = some (.int .i64 zb) := cell_of_row _ _ _ _ _ _ hw2.2.1
            have cb := (hbel.cell (p := ⟨g, o + k, none⟩) hg).trans HC1.out
            have HV := Lib.hid hw2
            clear ht ht2 hw he htw hrk h2 hw2 het HW HW2
            go_wp2_with (fail)
            go_region_with (first
              | (go_at_call 31; (refine (H2.out _).mono ?_); rintro e w4 ⟨rfl, rfl⟩)
              | (go_at_call 27; (refine (HTW.out _).mono ?_); rintro e w5 ⟨rfl, G5⟩; have K5 : Below wr.heap.size wr w5 := undrew G5; have z5 := K5.size; have HB5 := Lib.hid ((K5.block w.heap.size (by omega)).trans HV.out.2.1); have f0 : w5.frozen? ⟨w.heap.size, 0, none⟩ = false := frozen_of_row _ _ _ _ _ HB5.out; have f1 : w5.frozen? ⟨w.heap.size, 1, none⟩ = false := frozen_of_row _ _ _ _ _ HB5.out; have c05 : w5.cell? ⟨w.heap.size, 0, none⟩ = some (.int .i64 za) := cell_of_row _ _ _ _ _ _ HB5.out; have c15 : w5.cell? ⟨w.heap.size, 1, none⟩ = some (.int .i64 zb) := cell_of_row _ _ _ _ _ _ HB5.out))
            all_goals
              have hO6 := ((HV.out.1.below K5).set w.heap.size 0 (.int .i64 qa) (by omega)).set w.heap.size 1 (.int .i64 qb) (by omega)
              have hB6 := heap_setCell_same _ w.heap.size 1 _ _ (.int .i64 qb) (heap_setCell_same w5 w.heap.size 0 _ _ (.int .i64 qa) HB5.out)
              have T6 := ((nxt hbel K5).setCell (p := ⟨w.heap.size, 0, none⟩) (Nat.le_refl _) (.int .i64 qa)).setCell (p := ⟨w.heap.size, 1, none⟩) (Nat.le_refl _) (.int .i64 qb)
              have z6 : w.heap.size + 1 ≤ ((w5.setCell ⟨w.heap.size, 0, none⟩ (.int .i64 qa)).setCell ⟨w.heap.size, 1, none⟩ (.int .i64 qb)).heap.size := by simp; omega
              generalize (w5.setCell ⟨w.heap.size, 0, none⟩ (.int .i64 qa)).setCell ⟨w.heap.size, 1, none⟩ (.int .i64 qb) = w6 at *
              have hB6 : w6.heap[w.heap.size]? = some (.cells #[.int .i64 qa, .int .i64 qb] 31 (0, 0)) := hB6
              have d0 : w6.cell? ⟨w.heap.size, 0, none⟩ = some (.int .i64 qa) := cell_of_row _ _ _ _ _ _ hB6
              have d1 : w6.cell? ⟨w.heap.size, 1, none⟩ = some (.int .i64 qb) := cell_of_row _ _ _ _ _ _ hB6
              have HO6 := Lib.hid hO6
              have HB6 := Lib.hid hB6
              clear hO6 hB6 c0 c1 cb f0 f1 c05 c15 HB5 HV H2 HTW G5 K5 z5
              go_wp2_with ((refine app_pt _ rfl (.tmp 31) (.tmp 33) rfl (w.heap.size + 1) u4 (wP t) rfl ?_ w6.heap.size (qa, qb) rfl ?_ ?_ ?_ ?_); (exact HO6.out.below ((Below.refl _ _).alloc (Nat.le_refl _) _)); (exact heap_alloc_new w6 _); (omega); (simp; omega); intro v7 w7 hown7 hgrow7 hwhere7; have HO7 := Lib.hid (And.intro hown7 hgrow7); clear hown7 hgrow7 hwhere7)
              go_roundw
              case rel =>
                refine ⟨j + 1, by omega, by go_num, ?_, ?_, ?_, ?_⟩
                · rw [HWP.out.1, HWP.out.2.1]
                  exact HO7.out.1
                · rw [HWP.out.1, HWP.out.2.2]
                  refine (HO7.out.2.block w.heap.size (by simp; omega) (fun e => by have := (HO6.out.lt _ e.symm).1; omega)).trans ?_
                  exact ((Below.refl w6.heap.size w6).alloc (Nat.le_refl _) _).block w.heap.size (by omega) |>.trans HB6.out
                · exact (T6.alloc (by omega) _).grown HO7.out.2 (by simp; omega) (fun k' hk => by have := (HO6.out.lt k' hk).1; omega)
                · have := HO7.out.2.size
                  simp at this
                  omega
              case measure => simp [intOf]; omega
          · obtain rfl : j = 4 := by omega
            have hw2 := HW2.out
            rw [← HST.out] at hw2
            have HF := Lib.hid hw2
            clear HW2 hw2
            go_wp2
            go_roundw
            case rel => exact ⟨k + 1, by omega, by go_num, HF.out⟩
            case measure => simp [intOf]; omega
      · obtain rfl : k = b.length := by omega
        have hw2 := HW.out
        rw [List.take_length, ← HP.out] at hw2
        have HF := Lib.hid hw2
        clear HW hw2
        go_wp2
        go_ret
        exact ⟨_, rfl, HF.out.1.mono (by omega), HF.out.2.2.1⟩
end Go.Proofs.Ytgkbgkgfjbmniaa
