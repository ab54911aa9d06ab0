/- Package corr: Peak. -/
import Derived.Test.YtmpelpmgpklidaaCo1
import Derived.Test.YtmpelpmgpklidaaLaws08c
namespace Go.Proofs.Ytmpelpmgpklidaa
open Go.RowKit

/-- best and most, so far -/
def PkS (l mark : List Pt) (k : Nat) (bz : Nat) (sz : Int) : Prop :=
  (k = 0 ∧ bz = 0 ∧ sz = -1) ∨ (bz < k ∧ sz = fitI l mark bz ∧ (∀ a, a < k → fitI l mark a ≤ fitI l mark bz) ∧ ∀ a, a < bz → fitI l mark a < fitI l mark bz)
theorem sizeI_nonneg (p : Pt) : 0 ≤ sizeI p := by
  have e : ∀ n : Int, 0 ≤ n * n := fun n => by
    rcases Int.le_total 0 n with h | h
    · exact Int.mul_nonneg h h
    · exact Int.mul_nonneg_of_nonpos_of_nonpos h h
  have := e p.1
  have := e p.2
  unfold sizeI
  omega
theorem PkS.more {l mark : List Pt} {k bz : Nat} {sz : Int} (h : PkS l mark k bz sz) (hl : sz < fitI l mark k) : PkS l mark (k + 1) k (fitI l mark k) := by
  refine .inr ⟨by omega, rfl, fun a ha => ?_, fun a ha => ?_⟩
  · rcases h with ⟨rfl, -, -⟩ | ⟨h1, h2, h3, h4⟩
    · rw [show a = 0 by omega]; exact Int.le_refl _
    · by_cases hk : a < k
      · have := h3 a hk; omega
      · rw [show a = k by omega]; exact Int.le_refl _
  · rcases h with ⟨rfl, -, -⟩ | ⟨h1, h2, h3, h4⟩
    · omega
    · have := h3 a ha; omega
theorem PkS.same {l mark : List Pt} {k bz : Nat} {sz : Int} (h : PkS l mark k bz sz) (hl : ¬ sz < fitI l mark k) : PkS l mark (k + 1) bz sz := by
  rcases h with ⟨rfl, h2, h3⟩ | ⟨h1, h2, h3, h4⟩
  · have : 0 ≤ fitI l mark 0 := sizeI_nonneg _
    omega
  · refine .inr ⟨by omega, h2, fun a ha => ?_, h4⟩
    by_cases hk : a < k
    · exact h3 a hk
    · rw [show a = k by omega]; omega
theorem placesN_zero {n m : Nat} (h : placesN n m = 0) : m = 0 ∨ n < m := by
  unfold placesN at h
  split at h <;> omega
theorem placesN_pos {n m : Nat} (h : placesN n m ≠ 0) : 0 < m ∧ placesN n m + m = n + 1 := by
  unfold placesN at h ⊢
  split at h
  · omega
  · rename_i h0
    rw [if_neg h0]
    omega
set_option maxHeartbeats 4000000 in
theorem peak_any (A : Option Addr) (n c : Nat) (l : List Pt) (B : Option Addr) (m d : Nat) (mark : List Pt) (w : World) (hP : Cs w A n c l) (hQ : Cs w B m d mark) (hl : ∀ p ∈ l, Near p) (hr : ∀ p ∈ mark, Near p) (hn : n ≤ 400) (hm : m ≤ 400) :
    Calls Try.prog 20 #[.slice A n c, .slice B m d] w (GivesPk w l mark) := by
  have hl1 := hP.len
  have hl2 := hQ.len
  have hnc := hP.le
  have hcm := hP.cap
  have hmd := hQ.le
  have hdm := hQ.cap
  have HPL := Lib.hid (places_any A n c B m d w (by omega) (by omega))
  by_cases h0 : placesN n m = 0
  · have HF : Hid (PeakR l mark 0 false) := .inr ⟨rfl, rfl, by have := placesN_zero h0; omega⟩
    rw [h0] at HPL
    clear hP hQ hl hr hl1 hl2 h0
    go_enter Try.func20, Try.ntmps20
    go_wp2_with (fail)
    refine HPL.out.mono ?_
    rintro e w1 ⟨rfl, rfl⟩
    go_wp2_with (fail)
    go_loopw [7, 15] (fun b i wr => b = .int .i64 0 ∧ i = .int .i64 0 ∧ w = wr) (fun _ _ _ => 0)
    case atStart => exact ⟨rfl, rfl, rfl⟩
    case round =>
      obtain ⟨rfl, rfl, rfl⟩ := hrel
      go_wp2
      go_ret2
      exact ⟨0, false, rfl, HF.out, Below.refl _ _⟩
  · obtain ⟨hm0, hpm⟩ := placesN_pos h0
    generalize placesN n m = P at *
    have hp0 : 0 < P := by omega
    have dp : decide ((0 : Int) < (P : Int)) = true := by simp; omega
    obtain ⟨g, o, -, -, rfl, hg, -⟩ := hP.at_ 0 (by omega)
    have HDT : Hid (∀ (k : Nat) W, Below w.heap.size w W → k ≤ n → Calls Try.prog 9 #[.slice (some ⟨g, o + k, none⟩) (n - k) (c - k), .slice B m d] W (GivesZ W (dotP (l.drop k) mark))) := fun k W kk hk =>
      dot_any _ _ _ _ B m d mark W ((hP.below kk).drop k hk) (hQ.below kk) (fun p hp => hl p (List.mem_of_mem_drop hp)) hr (by omega) hm
    have HSZ : Hid (∀ (k : Nat) W x y, Fl x (dotP (l.drop k) mark).1 → Fl y (dotP (l.drop k) mark).2 → Calls Try.prog 13 #[.complex .f64 x y] W (GivesX W (fitI l mark k))) := fun k W x y hx hy => by
      have hd := dot_near (l.drop k) mark (fun p hp => hl p (List.mem_of_mem_drop hp)) hr (by omega)
      exact size_any x y _ W hx hy (by omega)
    subst hl1 hl2
    clear hP hQ hl hr h0
    go_enter Try.func20, Try.ntmps20
    go_wp2_with (fail)
    refine HPL.out.mono ?_
    rintro e w1 ⟨rfl, rfl⟩
    go_wp2_with (fail)
    go_loopw [7, 8, 15] (fun bv sv i wr => ∃ (k bz x : Nat) (sz : Int), i = .int .i64 (k : Int) ∧ bv = .int .i64 (bz : Int) ∧ sv = .float .f64 x ∧ k ≤ P ∧ Hid (Fl x sz) ∧ Hid (PkS l mark k bz sz) ∧ Below w.heap.size w wr) (fun _ _ i _ => P - (intOf i).toNat)
    case atStart => exact ⟨0, 0, _, -1, rfl, rfl, rfl, by omega, fl_minus, .inl ⟨rfl, rfl, rfl⟩, Below.refl _ _⟩
    case round =>
      obtain ⟨k, bz, x, sz, rfl, rfl, rfl, hk, HX, HB, hbel⟩ := hrel
      by_cases h2 : k < P
      · have d1 : decide ((k : Int) < (P : Int)) = true := by simp; omega
        have HD := Lib.hid (HDT.out k _ hbel (by omega))
        have HS := Lib.hid (HSZ.out k)
        have i1 : (k : Int) ≤ (l.length : Int) := by omega
        go_wp2_with (fail)
        refine HD.out.mono ?_
        rintro e w2 ⟨z1, z2, rfl, f1, f2, T2⟩
        have HS2 := Lib.hid (fun W => HS.out W z1 z2 f1 f2)
        clear f1 f2
        go_wp2_with (fail)
        refine (HS2.out _).mono ?_
        rintro e w3 ⟨y, rfl, f3, T3⟩
        have T3 := nxt (nxt hbel T2) T3
        have F3 := Lib.hid f3
        by_cases hgt : sz < fitI l mark k
        · have q1 : (FloatKind.f64.format.order y x == some .gt) = true := by rw [fl_gt f3 HX.out]; simpa using hgt
          have HN := Lib.hid (HB.out.more hgt)
          clear f3
          go_wp2
          go_roundw
          case rel => exact ⟨k + 1, k, y, _, by go_num, rfl, rfl, by omega, F3, HN, T3⟩
          case measure => simp [intOf]; omega
        · have q1 : (FloatKind.f64.format.order y x == some .gt) = false := by rw [fl_gt f3 HX.out]; simpa using hgt
          have HN := Lib.hid (HB.out.same hgt)
          clear f3
          go_wp2
          go_roundw
          case rel => exact ⟨k + 1, bz, x, sz, by go_num, rfl, rfl, by omega, HX, HN, T3⟩
          case measure => simp [intOf]; omega
      · obtain rfl : k = P := by omega
        have d1 : decide ((k : Int) < (k : Int)) = false := by simp
        have HF : Hid (PeakR l mark bz true) := by
          rcases HB.out with ⟨h, -⟩ | ⟨h3, h4, h5, h6⟩
          · omega
          · exact .inl ⟨rfl, by omega, by omega, fun a ha => h5 a (by omega), h6⟩
        go_wp2
        go_ret2
        exact ⟨bz, true, rfl, HF.out, hbel⟩
end Go.Proofs.Ytmpelpmgpklidaa
