/- What edit.Forged and kedgeref06.Forged answer. -/
import Derived.Test.YtjpmfomabofjpaaEdEq
import Derived.Test.YtjpmfomabofjpaaEditM
import Derived.Test.YtjpmfomabofjpaaDef4
import Derived.Test.YtjpmfomabofjpaaRscan
namespace Go.Proofs.Ytjpmfomabofjpaa
open Go.RowKit

theorem forgedB_nil {first w : List UInt8} (h : foundB w = []) : forgedB first w = false := by simp [forgedB, h]
theorem forgedB_some {first w : List UInt8} (h : foundB w ≠ []) : forgedB first w = !decide (foundB w = foundB first) := by
  unfold forgedB
  by_cases e : foundB w = foundB first
  · rw [decide_eq_true e]; simp [e]
  · rw [decide_eq_false e]; simp [e, h]

set_option maxHeartbeats 1000000 in
theorem forged_any (t : Addr) (A : Option Addr) (n c : Nat) (f : List UInt8) (A2 : Option Addr) (n2 c2 : Nat) (b : List UInt8) (w : World) (ht : Tab w t) (hF : Bys w A n c f) (hB : Bys w A2 n2 c2 b) (hn : n ≤ 1000000) (hn2 : n2 ≤ 1000000) :
    Calls Try.prog 16 #[.pointer (some t), .slice A n c, .slice A2 n2 c2] w fun e w' => e = .returned (.bool (forgedB f b)) ∧ Below w.heap.size w w' := by
  have H1 := Lib.hid (all_any t A2 n2 c2 b w ht hB (by omega))
  have H2 : Hid (∀ W, Below w.heap.size w W → Calls Try.prog 28 #[.pointer (some t), .slice A n c] W (AllP W (foundB f))) := fun W k => all_any t A n c f W (ht.below k) (hF.below k) (by omega)
  have e1 : (scRun (scNew, []) b).2 = foundB b := rfl
  rw [e1] at H1
  clear ht hF hB e1
  have HN := Lib.hid (fun h => @forgedB_nil f b h)
  have HS := Lib.hid (fun h => @forgedB_some f b h)
  go_enter Try.func16, Try.ntmps16
  go_wp2_with (fail)
  refine H1.out.mono ?_
  rintro e w1 ⟨v1, rfl, hO1, T1⟩
  obtain ⟨P1, m1, rfl, hR1⟩ := hO1.shape
  have hR1 := hR1.rws
  generalize foundB b = x at *
  by_cases h0 : x = []
  · subst h0
    have HF := Lib.hid (HN.out rfl)
    have e0 : decide ((0 : Int) < (([] : List (List UInt8)).length : Int)) = false := by simp
    clear hO1 hR1 HN HS H1
    go_wp2
    go_ret
    exact ⟨ret_bool HF.out.symm, T1⟩
  · have HF := Lib.hid (HS.out h0)
    have hpos : 0 < x.length := List.length_pos_iff.2 h0
    have HR1 := Lib.hid hR1
    clear HN HS H1 h0 hO1 hR1
    obtain ⟨m, hm⟩ : ∃ m, x.length = m := ⟨_, rfl⟩
    rw [hm] at hpos ⊢
    have HM := Lib.hid hm
    clear hm
    have e0 : decide ((0 : Int) < (m : Int)) = true := by simp; omega
    go_wp2_with (fail)
    refine (H2.out _ T1).mono ?_
    rintro e w2 ⟨v2, rfl, hO2, T2⟩
    obtain ⟨P2, m2, rfl, hR2⟩ := hO2.shape
    have HE := Lib.hid (eqf_any P1 P2 _ _ _ _ x (foundB f) w2 (HR1.out.below T2) hR2.rws)
    rw [HM.out] at HE
    generalize foundB f = y at *
    obtain ⟨q, hq⟩ : ∃ q, y.length = q := ⟨_, rfl⟩
    rw [hq] at HE ⊢
    clear hO2 hR2 hq
    generalize decide (x = y) = r at *
    go_wp2_with (fail)
    refine HE.out.mono ?_
    rintro e w3 ⟨rfl, T3⟩
    have T := nxt (nxt T1 T2) T3
    go_wp2
    go_ret
    exact ⟨ret_bool HF.out.symm, T⟩

set_option maxHeartbeats 1000000 in
theorem forged_nil (A : Option Addr) (n c : Nat) (A2 : Option Addr) (n2 c2 : Nat) (w : World) :
    Calls Try.prog 16 #[.pointer none, .slice A n c, .slice A2 n2 c2] w fun e w' => e = .returned (.bool false) ∧ Below w.heap.size w w' := by
  have H1 := Lib.hid (all_nil A2 n2 c2 w)
  go_enter Try.func16, Try.ntmps16
  go_wp2_with (fail)
  refine H1.out.mono ?_
  rintro e w1 ⟨rfl, T1⟩
  go_wp2
  go_ret
  exact ⟨rfl, T1⟩

set_option maxHeartbeats 2000000 in
theorem rforged_any (A : Option Addr) (n c : Nat) (f : List UInt8) (A2 : Option Addr) (n2 c2 : Nat) (b : List UInt8) (w : World) (hF : Bys w A n c f) (hB : Bys w A2 n2 c2 b) (hn : n ≤ 1000000) (hn2 : n2 ≤ 1000000) :
    Calls Try.prog 17 #[.slice A n c, .slice A2 n2 c2] w fun e w' => e = .returned (.bool (forgedB f b)) ∧ Below w.heap.size w w' := by
  have H1 := Lib.hid (scan_any A2 n2 c2 b w hB (by omega))
  have H2 : Hid (∀ W, Below w.heap.size w W → Calls Try.prog 31 #[.slice A n c] W (ScanP W f)) := fun W k => scan_any A n c f W (hF.below k) (by omega)
  clear hF hB
  have HN := Lib.hid (fun h => @forgedB_nil f b h)
  have HS := Lib.hid (fun h => @forgedB_some f b h)
  go_enter Try.func17, Try.ntmps17
  go_wp2_with (fail)
  refine H1.out.mono ?_
  rintro e w1 ⟨P1, m1, g1, bd1, l1, z1, rfl, hR1, -, T1⟩
  have e1 : (scRun (scNew, []) b).2 = foundB b := rfl
  rw [e1] at hR1 ⊢
  have HR1 := Lib.hid hR1
  clear H1 hR1 e1
  generalize foundB b = x at *
  obtain ⟨m, hm⟩ : ∃ m, x.length = m := ⟨_, rfl⟩
  rw [hm] at HR1 ⊢
  have HM := Lib.hid hm
  clear hm
  unfold talR
  go_wp2_with (fail)
  refine (H2.out _ (T1.alloc T1.size _)).mono ?_
  rintro e w2 ⟨P2, m2, g2, bd2, l2, z2, rfl, hR2, -, T2⟩
  have T12 := ((Below.refl w1.heap.size w1).alloc (Nat.le_refl _) (.cells #[.int .i64 (g1 : Int), .int .i64 (bd1 : Int), .int .i64 (l1 : Int), .int .i64 (z1 : Int)] 53)).trans (T2.mono (by simp))
  have e2 : (scRun (scNew, []) f).2 = foundB f := rfl
  rw [e2] at hR2 ⊢
  have HR2 := Lib.hid hR2
  clear H2 hR2 e2
  generalize foundB f = y at *
  obtain ⟨q, hq⟩ : ∃ q, y.length = q := ⟨_, rfl⟩
  rw [hq] at HR2 ⊢
  clear hq T2
  unfold talR
  have T2 := nxt T1 T12
  have HE : Hid (∀ W, Below w2.heap.size w2 W → Calls Try.prog 32 #[.slice P1 m m1, .slice P2 q m2] W fun e w' => e = .returned (.bool (decide (x = y))) ∧ Below W.heap.size W w') := fun W k => sameall_any P1 P2 m m1 q m2 x y W ((HR1.out.below T12).below k) (HR2.out.below k)
  by_cases h0 : x = []
  · have HF := Lib.hid (HN.out h0)
    have hm0 : m = 0 := by have := HM.out; rw [h0] at this; exact this.symm
    clear HN HS h0
    subst hm0
    go_wp2
    go_ret
    exact ⟨ret_bool HF.out.symm, T2.alloc T2.size _⟩
  · have HF := Lib.hid (HS.out h0)
    have hpos : 0 < m := by have := HM.out; have := List.length_pos_iff.2 h0; omega
    have e0 : decide ((0 : Int) < (m : Int)) = true := by simp; omega
    clear HN HS h0
    generalize decide (x = y) = r at *
    go_wp2_with (fail)
    refine (HE.out _ ((Below.refl _ _).alloc (Nat.le_refl _) _)).mono ?_
    rintro e w3 ⟨rfl, T3⟩
    have T := nxt (T2.alloc T2.size _) T3
    go_wp2
    go_ret
    exact ⟨ret_bool HF.out.symm, T⟩
end Go.Proofs.Ytjpmfomabofjpaa
