/- Package phase: Points. -/
import Derived.Test.YtgkbgkgfjbmniaaPh3
namespace Go.Proofs.Ytgkbgkgfjbmniaa
open Go.RowKit

theorem rot_shift (x : UInt8) (t : Nat) (p : Pt) (m : Nat) (hm : m = x.toNat / 4 ^ (3 - t)) : rotK (m : Int) p = rotN (twoB x t) p := by
  unfold rotK
  rw [rest4_nat, hm]
  rfl
set_option maxHeartbeats 4000000 in
theorem points_any (A : Option Addr) (n c : Nat) (b : List UInt8) (w : World) (hB : Bys w A n c b) :
    Calls Try.prog 20 #[.slice A n c] w (GivesC w (pointsB b)) := by
  by_cases hbig : 4096 < n
  · have d : decide ((4096 : Int) < (n : Int)) = true := by simp; omega
    have HP : Hid (pointsB b = []) := by show _ = _; unfold pointsB; rw [if_pos (by rw [hB.len]; exact hbig)]
    clear hB hbig
    go_enter Try.func20, Try.ntmps20
    go_wp2
    go_ret
    exact ⟨_, rfl, by rw [HP.out]; exact OwnC.nil _ _, Below.refl _ _⟩
  · have d : decide ((4096 : Int) < (n : Int)) = false := by simp; omega
    have HP : Hid (pointsB b = wP (stepsB b)) := by show _ = _; unfold pointsB wP; rw [if_neg (by rw [hB.len]; exact hbig)]
    obtain ⟨hl, hnc, hcm, hcell⟩ := hB
    unfold maxLen at hcm
    subst hl
    have hn : b.length ≤ 4096 := by omega
    have HC := Lib.hid hcell
    have HO := Lib.hid (of_any (1, 1) w ⟨by decide, by decide, by decide, by decide⟩)
    clear hcell hbig
    go_enter Try.func20, Try.ntmps20
    go_wp2_with (fail)
    refine HO.out.mono ?_
    rintro e w1 ⟨a1, b1, rfl, f1, f2, T1⟩
    have z1 := T1.size
    have HI := Lib.hid (And.intro f1 (And.intro f2 (And.intro (OwnC.one w1 w.heap.size a1 b1 (1, 1) f1 f2 z1) (T1.alloc z1 (.cells #[.complex .f64 a1 b1] 23)))))
    clear f1 f2 T1
    go_wp2_with (fail)
    go_loopw [3, 4, 16] (fun z v i wr => ∃ k x y : Nat, k ≤ b.length ∧ z = .complex .f64 x y ∧ i = .int .i64 (k : Int) ∧ Hid (OwnC wr w.heap.size v (wP (stepsB (b.take k))) ∧ Fl x (endP (1, 1) (stepsB (b.take k))).1 ∧ Fl y (endP (1, 1) (stepsB (b.take k))).2 ∧ Below w.heap.size w wr)) (fun _ _ i _ => b.length - (intOf i).toNat)
    case atStart => exact ⟨0, a1, b1, Nat.zero_le _, rfl, rfl, HI.out.2.2.1, HI.out.1, HI.out.2.1, HI.out.2.2.2⟩
    case round =>
      obtain ⟨k, x, y, hk, rfl, rfl, HW⟩ := hrel
      by_cases hlt : k < b.length
      · obtain ⟨g, o, rfl, hg, hc⟩ := HC.out (by omega)
        have hc1 := (HW.out.2.2.2.cell (p := ⟨g, o + k, none⟩) hg).trans (hc k hlt)
        have hst := stepsB_take b k hlt
        rw [← twos_all] at hst
        have hsl : (stepsB (b.take k)).length ≤ 16384 := by rw [stepsB_len]; simp; omega
        generalize b[k] = q at *
        have HST := Lib.hid hst
        clear hc hst
        generalize stepsB (b.take k) = s at *
        have hq := q.toNat_lt
        go_wp2_with (fail)
        go_loopw [3, 4, 7] (fun z v i wr => ∃ t x y : Nat, t ≤ 4 ∧ z = .complex .f64 x y ∧ i = .int .i64 (6 - 2 * (t : Int)) ∧ Hid (OwnC wr w.heap.size v (wP (s ++ (List.range t).map (twoB q))) ∧ Fl x (endP (1, 1) (s ++ (List.range t).map (twoB q))).1 ∧ Fl y (endP (1, 1) (s ++ (List.range t).map (twoB q))).2 ∧ Below w.heap.size w wr)) (fun _ _ i _ => (intOf i + 2).toNat)
        case atStart => exact ⟨0, x, y, by decide, rfl, rfl, by show _ ∧ _; simpa using HW.out⟩
        case round =>
          obtain ⟨t, x2, y2, ht, rfl, rfl, HW2⟩ := hrel
          by_cases hlt2 : t < 4
          · have h4 : t = 0 ∨ t = 1 ∨ t = 2 ∨ t = 3 := by omega
            have ht2 : s ++ (List.range (t + 1)).map (twoB q) = (s ++ (List.range t).map (twoB q)) ++ [twoB q t] := by rw [twos_succ, ← List.append_assoc]
            have hw2 := HW2.out
            have htl : (s ++ (List.range t).map (twoB q)).length ≤ 20000 := by simp; omega
            generalize hs' : s ++ (List.range t).map (twoB q) = s' at *
            clear hs'
            have hw := wP_snoc s' (twoB q t)
            have hwl := wP_len s'
            have he : endP (1, 1) (s' ++ [twoB q t]) = rotN (twoB q t) (endP (1, 1) s') := endP_snoc _ _ _
            rw [← ht2] at hw he
            have hsh := fun m hm => rot_shift q t (endP (1, 1) s') m hm
            have htm := fun (m : Nat) (hm : m = q.toNat / 4 ^ (3 - t)) => turned_any x2 y2 (endP (1, 1) s') (m : Int) wr hw2.2.1 hw2.2.2.1
            generalize rotN (twoB q t) (endP (1, 1) s') = r at *
            generalize endP (1, 1) s' = z at *
            generalize wP s' = cur at *
            have htm : ∀ m : Nat, m = q.toNat / 4 ^ (3 - t) → Calls Try.prog 30 #[.complex .f64 x2 y2, .int .i64 (m : Int)] wr (GivesY wr r) := by
              intro m hm
              have := htm m hm
              rw [hsh m hm] at this
              exact this
            have HTM := Lib.hid htm
            have HO2 := Lib.hid hw2.1
            have hbel := hw2.2.2.2
            have HE := Lib.hid (And.intro hw he)
            have hz := hbel.size
            clear hw2 hsh htm hw he HW2 ht2
            obtain ⟨T, hT⟩ : ∃ T, T = t + 1 := ⟨_, rfl⟩
            rw [← hT] at HE
            rcases h4 with rfl | rfl | rfl | rfl
            · have HT0 : Hid (Calls Try.prog 30 #[.complex .f64 x2 y2, .int .i64 ((q.toNat : Int) / 64)] wr (GivesY wr r)) := HTM.out (q.toNat / 64) rfl
              clear HTM
              go_wp2_with (fail)
              refine HT0.out.mono ?_
              clear HT0
              rintro e w2 ⟨c3, d3, rfl, g1, g2, rfl⟩
              have G1 := Lib.hid (And.intro g1 g2)
              clear g1 g2
              go_wp2_with ((refine app_cx _ rfl (.tmp 30) (.tmp 32) rfl w.heap.size u4 cur rfl ?_ wr.heap.size c3 d3 r rfl ?_ G1.out.1 G1.out.2 ?_ ?_ ?_); (exact HO2.out.below ((Below.refl _ _).alloc (Nat.le_refl _) _)); (exact heap_alloc_new wr _); (omega); (simp; omega); intro v3 w3 hown3 hgrow3 hwhere3; have HO3 := Lib.hid (And.intro hown3 hgrow3); clear hown3 hgrow3 hwhere3)
              go_roundw
              case rel =>
                refine ⟨T, c3, d3, by omega, rfl, by simp [hT], ?_, ?_, ?_, ?_⟩
                · rw [HE.out.1]
                  exact HO3.out.1
                · rw [HE.out.2]
                  exact G1.out.1
                · rw [HE.out.2]
                  exact G1.out.2
                · exact (hbel.alloc hz _).grown HO3.out.2 (by simp; omega) (fun k' hk => (HO2.out.lt k' hk).1)
              case measure => simp [intOf]
            · have HT0 : Hid (Calls Try.prog 30 #[.complex .f64 x2 y2, .int .i64 ((q.toNat : Int) / 16)] wr (GivesY wr r)) := HTM.out (q.toNat / 16) rfl
              clear HTM
              go_wp2_with (fail)
              refine HT0.out.mono ?_
              clear HT0
              rintro e w2 ⟨c3, d3, rfl, g1, g2, rfl⟩
              have G1 := Lib.hid (And.intro g1 g2)
              clear g1 g2
              go_wp2_with ((refine app_cx _ rfl (.tmp 30) (.tmp 32) rfl w.heap.size u4 cur rfl ?_ wr.heap.size c3 d3 r rfl ?_ G1.out.1 G1.out.2 ?_ ?_ ?_); (exact HO2.out.below ((Below.refl _ _).alloc (Nat.le_refl _) _)); (exact heap_alloc_new wr _); (omega); (simp; omega); intro v3 w3 hown3 hgrow3 hwhere3; have HO3 := Lib.hid (And.intro hown3 hgrow3); clear hown3 hgrow3 hwhere3)
              go_roundw
              case rel =>
                refine ⟨T, c3, d3, by omega, rfl, by simp [hT], ?_, ?_, ?_, ?_⟩
                · rw [HE.out.1]
                  exact HO3.out.1
                · rw [HE.out.2]
                  exact G1.out.1
                · rw [HE.out.2]
                  exact G1.out.2
                · exact (hbel.alloc hz _).grown HO3.out.2 (by simp; omega) (fun k' hk => (HO2.out.lt k' hk).1)
              case measure => simp [intOf]
            · have HT0 : Hid (Calls Try.prog 30 #[.complex .f64 x2 y2, .int .i64 ((q.toNat : Int) / 4)] wr (GivesY wr r)) := HTM.out (q.toNat / 4) rfl
              clear HTM
              go_wp2_with (fail)
              refine HT0.out.mono ?_
              clear HT0
              rintro e w2 ⟨c3, d3, rfl, g1, g2, rfl⟩
              have G1 := Lib.hid (And.intro g1 g2)
              clear g1 g2
              go_wp2_with ((refine app_cx _ rfl (.tmp 30) (.tmp 32) rfl w.heap.size u4 cur rfl ?_ wr.heap.size c3 d3 r rfl ?_ G1.out.1 G1.out.2 ?_ ?_ ?_); (exact HO2.out.below ((Below.refl _ _).alloc (Nat.le_refl _) _)); (exact heap_alloc_new wr _); (omega); (simp; omega); intro v3 w3 hown3 hgrow3 hwhere3; have HO3 := Lib.hid (And.intro hown3 hgrow3); clear hown3 hgrow3 hwhere3)
              go_roundw
              case rel =>
                refine ⟨T, c3, d3, by omega, rfl, by simp [hT], ?_, ?_, ?_, ?_⟩
                · rw [HE.out.1]
                  exact HO3.out.1
                · rw [HE.out.2]
                  exact G1.out.1
                · rw [HE.out.2]
                  exact G1.out.2
                · exact (hbel.alloc hz _).grown HO3.out.2 (by simp; omega) (fun k' hk => (HO2.out.lt k' hk).1)
              case measure => simp [intOf]
            · have HT0 : Hid (Calls Try.prog 30 #[.complex .f64 x2 y2, .int .i64 (q.toNat : Int)] wr (GivesY wr r)) := HTM.out q.toNat (by rw [show 4 ^ (3 - 3) = 1 from rfl, Nat.div_one])
              clear HTM
              go_wp2_with (fail)
              refine HT0.out.mono ?_
              clear HT0
              rintro e w2 ⟨c3, d3, rfl, g1, g2, rfl⟩
              have G1 := Lib.hid (And.intro g1 g2)
              clear g1 g2
              go_wp2_with ((refine app_cx _ rfl (.tmp 30) (.tmp 32) rfl w.heap.size u4 cur rfl ?_ wr.heap.size c3 d3 r rfl ?_ G1.out.1 G1.out.2 ?_ ?_ ?_); (exact HO2.out.below ((Below.refl _ _).alloc (Nat.le_refl _) _)); (exact heap_alloc_new wr _); (omega); (simp; omega); intro v3 w3 hown3 hgrow3 hwhere3; have HO3 := Lib.hid (And.intro hown3 hgrow3); clear hown3 hgrow3 hwhere3)
              go_roundw
              case rel =>
                refine ⟨T, c3, d3, by omega, rfl, by simp [hT], ?_, ?_, ?_, ?_⟩
                · rw [HE.out.1]
                  exact HO3.out.1
                · rw [HE.out.2]
                  exact G1.out.1
                · rw [HE.out.2]
                  exact G1.out.2
                · exact (hbel.alloc hz _).grown HO3.out.2 (by simp; omega) (fun k' hk => (HO2.out.lt k' hk).1)
              case measure => simp [intOf]
          · obtain rfl : t = 4 := by omega
            have hw2 := HW2.out
            rw [← HST.out] at hw2
            have HF := Lib.hid hw2
            clear HW2 hw2
            go_wp2
            go_roundw
            case rel => exact ⟨k + 1, x2, y2, by omega, rfl, by go_num, HF.out⟩
            case measure => simp [intOf]; omega
      · obtain rfl : k = b.length := by omega
        have hw2 := HW.out
        rw [List.take_length, ← HP.out] at hw2
        have HF := Lib.hid hw2
        clear HW hw2
        go_wp2
        go_ret
        exact ⟨_, rfl, HF.out.1, HF.out.2.2.2⟩
end Go.Proofs.Ytgkbgkgfjbmniaa
