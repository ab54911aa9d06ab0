/- Package phase: of which kind a point is (a switch whose cases fall into one another). -/
import Derived.Test.YtgkbgkgfjbmniaaPhC
import Derived.WalkLawsBesides
namespace Go.Proofs.Ytgkbgkgfjbmniaa
open Go.RowKit

set_option maxHeartbeats 2000000 in
theorem pkind_any (a b : Nat) (p : Pt) (w : World) (ha : Fl a p.1) (hb : Fl b p.2) :
    Calls Try.prog 11 #[.complex .f64 a b] w fun e w' => e = .returned (.tuple #[.int .i64 (if kindI p < 0 then 0 else kindI p), .bool (decide (0 ≤ kindI p))]) ∧ Below w.heap.size w w' := by
  obtain ⟨m, n⟩ := p
  simp only at ha hb
  have a1 := fl_eq ha fl_one
  have a2 := fl_eq ha fl_minus
  have b1 := fl_eq hb fl_one
  have b2 := fl_eq hb fl_minus
  clear ha hb
  generalize hz : (if kindI (m, n) < 0 then 0 else kindI (m, n)) = kz
  generalize ht : decide (0 ≤ kindI (m, n)) = kt
  have hk : ∀ (z : Int) (t : Bool), (if kindI (m, n) < 0 then 0 else kindI (m, n)) = z → decide (0 ≤ kindI (m, n)) = t → Hid (kz = z ∧ kt = t) := fun z t h1 h2 => ⟨hz.symm.trans h1, ht.symm.trans h2⟩
  clear hz ht
  by_cases hm1 : m = 1
  · subst hm1
    rw [decide_eq_true rfl] at a1
    rw [decide_eq_false (by decide)] at a2
    by_cases hn1 : n = 1
    · subst hn1
      rw [decide_eq_true rfl] at b1
      rw [decide_eq_false (by decide)] at b2
      have HF := hk 0 true (by decide +kernel) (by decide +kernel)
      clear hk
      go_enter Try.func11, Try.ntmps11
      go_wp2
      go_ret2
      exact ⟨by rw [HF.out.1, HF.out.2]; rfl, Below.refl _ _⟩
    · rw [decide_eq_false hn1] at b1
      by_cases hn2 : n = -1
      · subst hn2
        rw [decide_eq_true rfl] at b2
        have HF := hk 3 true (by decide +kernel) (by decide +kernel)
        clear hk
        go_enter Try.func11, Try.ntmps11
        go_wp2
        go_ret2
        exact ⟨by rw [HF.out.1, HF.out.2]; rfl, Below.refl _ _⟩
      · rw [decide_eq_false hn2] at b2
        have hki : kindI (1, n) = -1 := by simp [kindI, hn1, hn2]
        have HF := hk 0 false (by rw [hki]; rfl) (by rw [hki]; rfl)
        clear hk hki hn1 hn2
        go_enter Try.func11, Try.ntmps11
        go_wp2
        go_ret2
        exact ⟨by rw [HF.out.1, HF.out.2]; rfl, Below.refl _ _⟩
  · rw [decide_eq_false hm1] at a1
    by_cases hm2 : m = -1
    · subst hm2
      rw [decide_eq_true rfl] at a2
      by_cases hn1 : n = 1
      · subst hn1
        rw [decide_eq_true rfl] at b1
        rw [decide_eq_false (by decide)] at b2
        have HF := hk 1 true (by decide +kernel) (by decide +kernel)
        clear hk
        go_enter Try.func11, Try.ntmps11
        go_wp2
        go_ret2
        exact ⟨by rw [HF.out.1, HF.out.2]; rfl, Below.refl _ _⟩
      · rw [decide_eq_false hn1] at b1
        by_cases hn2 : n = -1
        · subst hn2
          rw [decide_eq_true rfl] at b2
          have HF := hk 2 true (by decide +kernel) (by decide +kernel)
          clear hk
          go_enter Try.func11, Try.ntmps11
          go_wp2
          go_ret2
          exact ⟨by rw [HF.out.1, HF.out.2]; rfl, Below.refl _ _⟩
        · rw [decide_eq_false hn2] at b2
          have hki : kindI (-1, n) = -1 := by simp [kindI, hn1, hn2]
          have HF := hk 0 false (by rw [hki]; rfl) (by rw [hki]; rfl)
          clear hk hki hn1 hn2
          go_enter Try.func11, Try.ntmps11
          go_wp2
          go_ret2
          exact ⟨by rw [HF.out.1, HF.out.2]; rfl, Below.refl _ _⟩
    · rw [decide_eq_false hm2] at a2
      have hki : kindI (m, n) = -1 := by simp [kindI, hm1, hm2]
      have HF := hk 0 false (by rw [hki]; rfl) (by rw [hki]; rfl)
      clear hk hki hm1 hm2 b1 b2
      go_enter Try.func11, Try.ntmps11
      go_wp2
      go_ret2
      exact ⟨by rw [HF.out.1, HF.out.2]; rfl, Below.refl _ _⟩
end Go.Proofs.Ytgkbgkgfjbmniaa
