/- What the landed package weave answers: Place. -/
import Derived.Test.YtenbaljjncepeaaWeK
namespace Go.Proofs.Ytenbaljjncepeaa
open Go.RowKit
set_option maxRecDepth 20000

set_option maxHeartbeats 1000000 in
theorem place11_any (n rows at_ : Int) (w : World) :
    Calls Try.prog 8 #[.int .i64 n, .int .i64 rows, .int .i64 at_] w fun e w' => e = .returned (.tuple #[.int .i64 (placeR n rows at_).1, .bool (placeR n rows at_).2]) ∧ Below w.heap.size w w' := by
  have HRI := Lib.hid (may11_any n rows w)
  by_cases hok : (0 ≤ n ∧ n ≤ 65536 ∧ 1 ≤ rows ∧ rows ≤ 64) ∧ 0 ≤ at_ ∧ at_ < n
  · obtain ⟨hR, ha0, han⟩ := hok
    obtain ⟨N, rfl⟩ := Int.eq_ofNat_of_zero_le hR.1
    obtain ⟨R, rfl⟩ := Int.eq_ofNat_of_zero_le (show 0 ≤ rows by omega)
    obtain ⟨a, rfl⟩ := Int.eq_ofNat_of_zero_le ha0
    have haN : a < N := by omega
    have hR1 : 1 ≤ R := by omega
    have hpp := place_parts N R a hR1 haN
    have HP : Hid (placeR (N : Int) (R : Int) (a : Int) = ((placeF N (colsN N R) a : Int), true)) := by show _ = _; unfold placeR; rw [if_pos ⟨hR, ha0, han⟩, Int.toNat_natCast, Int.toNat_natCast, Int.toNat_natCast, hpp]
    have HAC := Lib.hid (across11_any N R w (by omega) (by omega) (by omega))
    have hC3 : colsN N R ≤ 65536 := by have := colsN_le N R hR1; omega
    have hge := colsN_ge N R hR1
    have hC0 : 0 < colsN N R := by
      rcases Nat.eq_zero_or_pos (colsN N R) with e | e
      · rw [e] at hge; omega
      · exact e
    rw [decide_eq_true hR] at HRI
    have d1 : decide ((a : Int) < 0) = false := by simp
    have d2 : decide ((N : Int) ≤ (a : Int)) = false := by simp; omega
    have hN6 : N ≤ 65536 := by omega
    clear hge hpp hR
    unfold placeF at HP
    generalize colsN N R = C at *
    have hdm := Nat.div_add_mod N C
    have hml := Nat.mod_lt N hC0
    have hfull : N / C ≤ 65536 := Nat.le_trans (Nat.div_le_self _ _) hN6
    have q1 : (N : Int) / (C : Int) = ((N / C : Nat) : Int) := by push_cast; rfl
    have q2 : (N : Int) % (C : Int) = ((N % C : Nat) : Int) := by push_cast; rfl
    have q1t : Int.tdiv (N : Int) (C : Int) = ((N / C : Nat) : Int) := by rw [← q1]; exact Int.tdiv_eq_ediv_of_nonneg (by omega)
    have q2t : Int.tmod (N : Int) (C : Int) = ((N % C : Nat) : Int) := by rw [← q2]; exact Int.tmod_eq_emod_of_nonneg (by omega)
    generalize N / C = full at *
    generalize N % C = left at *
    obtain ⟨F, hF⟩ : ∃ F, full + 1 = F := ⟨_, rfl⟩
    have eF : (full : Int) + 1 = (F : Int) := by omega
    rw [hF] at HP
    obtain ⟨L, hL⟩ : ∃ L, left * F = L := ⟨_, rfl⟩
    have eL : (left : Int) * (F : Int) = (L : Int) := by rw [← hL]; push_cast; rfl
    have hLN : L ≤ N := by
      rw [← hL, ← hF, Nat.mul_add, Nat.mul_one, ← hdm]
      have : left * full ≤ C * full := Nat.mul_le_mul_right _ (by omega)
      omega
    have hf0 : 0 < full ∨ N ≤ L := by
      rcases Nat.eq_zero_or_pos full with e | e
      · right
        rw [← hL, ← hF, ← hdm, e]
        simp
      · exact .inl e
    clear hdm
    rw [hL] at HP
    have hC0i : ((C : Int) == 0) = false := by simp; omega
    have hC0d : decide ((C : Int) = 0) = false := by simp; omega
    by_cases hlt : a < L
    · rw [if_pos hlt] at HP
      have d3 : decide ((a : Int) < (L : Int)) = true := by simp; omega
      have hF0 : 0 < F := by omega
      have p1 : (a : Int) / (F : Int) = ((a / F : Nat) : Int) := by push_cast; rfl
      have p2 : (a : Int) % (F : Int) = ((a % F : Nat) : Int) := by push_cast; rfl
      have p1t : Int.tdiv (a : Int) (F : Int) = ((a / F : Nat) : Int) := by rw [← p1]; exact Int.tdiv_eq_ediv_of_nonneg (by omega)
      have p2t : Int.tmod (a : Int) (F : Int) = ((a % F : Nat) : Int) := by rw [← p2]; exact Int.tmod_eq_emod_of_nonneg (by omega)
      have hrl := Nat.mod_lt a hF0
      have hql : a / F ≤ 65536 := Nat.le_trans (Nat.div_le_self _ _) (by omega)
      generalize a / F = qq at *
      generalize a % F = rr at *
      obtain ⟨p, hp⟩ : ∃ p, rr * C = p := ⟨_, rfl⟩
      have hrr : rr ≤ 65537 := by omega
      have hpb : p ≤ 4300000000 := by rw [← hp]; exact Nat.le_trans (Nat.mul_le_mul hrr hC3) (by decide)
      have ep : (rr : Int) * (C : Int) = (p : Int) := by rw [← hp]; push_cast; rfl
      rw [hp] at HP
      obtain ⟨z, hz⟩ : ∃ z, p + qq = z := ⟨_, rfl⟩
      have ez : (p : Int) + (qq : Int) = (z : Int) := by omega
      have hF0i : ((F : Int) == 0) = false := by simp; omega
      have hF0d : decide ((F : Int) = 0) = false := by simp; omega
      rw [hz] at HP
      have HQ := Lib.hid (And.intro (And.intro p1 p1t) (And.intro p2 p2t))
      clear p1 p1t p2 p2t
      have hlt' := hlt
      clear hp hz hL hF hlt hml hf0
      go_enter Try.func8, Try.ntmps8
      go_wp2_with (fail)
      refine HRI.out.mono ?_
      rintro e w1 ⟨rfl, rfl⟩
      go_wp2_with (fail)
      refine HAC.out.mono ?_
      rintro e w2 ⟨rfl, rfl⟩
      go_wp2_with (fail)
      go_big_region
      clear q1 q1t q2 q2t
      have d3n : decide (a < L) = true := decide_eq_true hlt'
      go_wp2_with (fail)
      obtain ⟨⟨p1, p1t⟩, p2, p2t⟩ := HQ.out
      go_big_region
      clear p1 p1t p2 p2t
      go_wp2
      go_ret2
      exact ⟨by rw [HP.out]; rfl, below_drewN' (Below.refl _ _) 2⟩
    · rw [if_neg hlt] at HP
      have d3 : decide ((a : Int) < (L : Int)) = false := by simp; omega
      have hf1 : 0 < full := by omega
      obtain ⟨y, hy⟩ : ∃ y, a - L = y := ⟨_, rfl⟩
      have ey : (a : Int) - (L : Int) = (y : Int) := by omega
      have hyb : y ≤ 65536 := by omega
      rw [hy] at HP
      have p1 : (y : Int) / (full : Int) = ((y / full : Nat) : Int) := by push_cast; rfl
      have p2 : (y : Int) % (full : Int) = ((y % full : Nat) : Int) := by push_cast; rfl
      have p1t : Int.tdiv (y : Int) (full : Int) = ((y / full : Nat) : Int) := by rw [← p1]; exact Int.tdiv_eq_ediv_of_nonneg (by omega)
      have p2t : Int.tmod (y : Int) (full : Int) = ((y % full : Nat) : Int) := by rw [← p2]; exact Int.tmod_eq_emod_of_nonneg (by omega)
      have hrl := Nat.mod_lt y hf1
      have hql : y / full ≤ 65536 := Nat.le_trans (Nat.div_le_self _ _) hyb
      generalize y / full = qq at *
      generalize y % full = rr at *
      obtain ⟨p, hp⟩ : ∃ p, rr * C = p := ⟨_, rfl⟩
      have hrr : rr ≤ 65537 := by omega
      have hpb : p ≤ 4300000000 := by rw [← hp]; exact Nat.le_trans (Nat.mul_le_mul hrr hC3) (by decide)
      have ep : (rr : Int) * (C : Int) = (p : Int) := by rw [← hp]; push_cast; rfl
      rw [hp] at HP
      have hlb : left ≤ 65536 := by omega
      obtain ⟨z, hz⟩ : ∃ z, p + left + qq = z := ⟨_, rfl⟩
      have ez : (p : Int) + (left : Int) + (qq : Int) = (z : Int) := by omega
      have hF0i : ((full : Int) == 0) = false := by simp; omega
      have hF0d : decide ((full : Int) = 0) = false := by simp; omega
      rw [hz] at HP
      have HQ := Lib.hid (And.intro (And.intro p1 p1t) (And.intro p2 p2t))
      clear p1 p1t p2 p2t
      have d3n : decide (a < L) = false := decide_eq_false hlt
      clear hp hz hL hF hlt hml hf0 hy
      go_enter Try.func8, Try.ntmps8
      go_wp2_with (fail)
      refine HRI.out.mono ?_
      rintro e w1 ⟨rfl, rfl⟩
      go_wp2_with (fail)
      refine HAC.out.mono ?_
      rintro e w2 ⟨rfl, rfl⟩
      go_wp2_with (fail)
      go_big_region
      clear q1 q1t q2 q2t
      go_wp2_with (fail)
      obtain ⟨⟨p1, p1t⟩, p2, p2t⟩ := HQ.out
      go_big_region
      clear p1 p1t p2 p2t
      go_wp2
      go_ret2
      exact ⟨by rw [HP.out]; rfl, below_drewN' (Below.refl _ _) 2⟩
  · have HP : Hid (placeR n rows at_ = (0, false)) := by show _ = _; unfold placeR; rw [if_neg hok]
    obtain ⟨t1, d1⟩ : ∃ t, decide (0 ≤ n ∧ n ≤ 65536 ∧ 1 ≤ rows ∧ rows ≤ 64) = t := ⟨_, rfl⟩
    obtain ⟨t2, d2⟩ : ∃ t, decide (at_ < 0) = t := ⟨_, rfl⟩
    obtain ⟨t3, d3⟩ : ∃ t, decide (n ≤ at_) = t := ⟨_, rfl⟩
    have ht : t1 = false ∨ t2 = true ∨ t3 = true := by
      rw [← d1, ← d2, ← d3]
      by_cases hR : 0 ≤ n ∧ n ≤ 65536 ∧ 1 ≤ rows ∧ rows ≤ 64
      · right
        have : at_ < 0 ∨ n ≤ at_ := by omega
        simpa using this
      · left
        simpa using hR
    rw [d1] at HRI
    clear hok d1
    cases t1 <;> cases t2 <;> cases t3
    all_goals
      first
        | (simp at ht; done)
        | (clear ht
           go_enter Try.func8, Try.ntmps8
           go_wp2_with (fail)
           refine HRI.out.mono ?_
           rintro e w1 ⟨rfl, rfl⟩
           go_wp2
           go_ret2
           exact ⟨by rw [HP.out]; rfl, Below.refl _ _⟩)
end Go.Proofs.Ytenbaljjncepeaa
