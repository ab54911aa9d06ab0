/- The walks of FrameBack and FrameTurned. -/
import Derived.Test.YtopdbkiadgiicaaLive04
namespace Go.Proofs.Ytopdbkiadgiicaa
open Go.RowKit

/-- the second half of FrameBack: what is opened of whatever bytes is wrapped as it was -/
theorem back2 (s : List UInt8) : (frameO s = none) ∨ ∃ y, frameO s = some y ∧ y.length ≤ 96 ∧ frameW y = s := by
  rcases h : frameO s with _ | y
  · exact Or.inl rfl
  · exact Or.inr ⟨y, rfl, (frameO_back s y h).2, (frameO_back s y h).1⟩

set_option maxRecDepth 20000 in
set_option maxHeartbeats 4000000 in
theorem walk_FrameBack (A : Option Addr) (n c : Nat) (l : List UInt8) (A' : Option Addr) (n' c' : Nat) (s : List UInt8) (w : World) (hB : Bys w A n c l) (hS : Bys w A' n' c' s) (hn' : n' ≤ 140737488351232) :
    Calls Try.prog 5 #[.slice A n c, .slice A' n' c'] w fun e w' => e = .returned (.bool true) ∧ Below w.heap.size w w' := by
  have HO := fun a W t b => open_any a A' n' c' s W t b hn'
  have h2 := back2 s
  by_cases hn : n ≤ 96
  · have hd : decide ((n : Int) ≤ 96) = true := by simp; omega
    have HW := fun a W t b => wrap_any a A n c l W t b hn
    have hlen : (frameW l).length ≤ 202 := by have := (frameW_len l).2; have := hB.len; omega
    have HP := fun a A1 c1 W t b => open_any a A1 (frameW l).length c1 (frameW l) W t b (by omega)
    rw [frameO_put l (by have := hB.len; omega), show frameE (some l) = 0 from rfl] at HP
    generalize frameW l = f at *
    unfold GivesF at HW
    generalize f.length = m at *
    have HW := Lib.hid HW
    have HP := Lib.hid HP
    rcases h2 with h2 | ⟨y, h2, hy, hw⟩
    · rw [h2, show frameE none = 40 from rfl] at HO
      have HO := Lib.hid HO
      have H0 := Lib.hid (fun a A1 c1 W t b => wrap_any a A1 0 c1 [] W t b (by decide))
      clear h2
      go_enter Try.func5, Try.ntmps5
      go_wp2_with (fail)
      refine (new_any w).mono ?_
      rintro e w1 ⟨a, rfl, Ta, T⟩
      have hB := hB.below T
      have hS := hS.below T
      go_wp2_with (fail)
      refine (HW.out a _ Ta hB).mono ?_
      rintro e w2 ⟨g2, c2, rfl, O2, G⟩
      have B2 := O2.bys
      have T := nxt T G
      have hB := hB.below G
      have hS := hS.below G
      have Ta := Ta.below G
      clear G O2
      go_wp2_with (fail)
      refine (HP.out a _ _ _ Ta B2).mono ?_
      rintro e w3 ⟨A3, n3, c3, rfl, B3, G⟩
      have T := nxt T G
      have hB := hB.below G
      have hS := hS.below G
      have Ta := Ta.below G
      clear G B2
      go_wp2_with (fail)
      refine (num_any _ _).mono ?_
      rintro e w' ⟨rfl, rfl⟩
      go_wp2_with (fail)
      refine (num_any _ _).mono ?_
      rintro e w' ⟨rfl, rfl⟩
      go_wp2_with (fail)
      refine (num_any _ _).mono ?_
      rintro e w' ⟨rfl, rfl⟩
      go_wp2_with (fail)
      refine (same_true _ _ _ _ _ _ l _ B3 hB).mono ?_
      rintro e w4 ⟨rfl, G⟩
      have T := nxt T G
      have hS := hS.below G
      have Ta := Ta.below G
      clear G
      go_wp2_with (fail)
      refine (HO.out a _ Ta hS).mono ?_
      rintro e w5 ⟨A5, n5, c5, rfl, B5, G⟩
      obtain rfl : n5 = 0 := B5.len.symm
      have T := nxt T G
      have Ta := Ta.below G
      clear G
      go_wp2_with (fail)
      refine (H0.out a _ _ _ Ta B5).mono ?_
      rintro e w6 ⟨g6, c6, rfl, -, G⟩
      have T := nxt T G
      clear G
      go_wp2_with (fail)
      refine (num_any _ _).mono ?_
      rintro e w' ⟨rfl, rfl⟩
      go_wp2_with (fail)
      refine (live04 _).mono ?_
      rintro e w7 ⟨rfl, G⟩
      have T := nxt T G
      clear G
      go_wp2_with (fail)
      go_ret
      exact ⟨rfl, T⟩
    · rw [h2, show frameE (some y) = 0 from rfl] at HO
      have HO := Lib.hid HO
      have H0 := fun a A1 n1 c1 W t (b : Bys W A1 n1 c1 y) => wrap_any a A1 n1 c1 y W t b (by have := b.len; omega)
      rw [hw] at H0
      unfold GivesF at H0
      rw [hS.len] at H0
      have H0 := Lib.hid H0
      clear h2 hw hy
      go_enter Try.func5, Try.ntmps5
      go_wp2_with (fail)
      refine (new_any w).mono ?_
      rintro e w1 ⟨a, rfl, Ta, T⟩
      have hB := hB.below T
      have hS := hS.below T
      go_wp2_with (fail)
      refine (HW.out a _ Ta hB).mono ?_
      rintro e w2 ⟨g2, c2, rfl, O2, G⟩
      have B2 := O2.bys
      have T := nxt T G
      have hB := hB.below G
      have hS := hS.below G
      have Ta := Ta.below G
      clear G O2
      go_wp2_with (fail)
      refine (HP.out a _ _ _ Ta B2).mono ?_
      rintro e w3 ⟨A3, n3, c3, rfl, B3, G⟩
      have T := nxt T G
      have hB := hB.below G
      have hS := hS.below G
      have Ta := Ta.below G
      clear G B2
      go_wp2_with (fail)
      refine (num_any _ _).mono ?_
      rintro e w' ⟨rfl, rfl⟩
      go_wp2_with (fail)
      refine (num_any _ _).mono ?_
      rintro e w' ⟨rfl, rfl⟩
      go_wp2_with (fail)
      refine (num_any _ _).mono ?_
      rintro e w' ⟨rfl, rfl⟩
      go_wp2_with (fail)
      refine (same_true _ _ _ _ _ _ l _ B3 hB).mono ?_
      rintro e w4 ⟨rfl, G⟩
      have T := nxt T G
      have hS := hS.below G
      have Ta := Ta.below G
      clear G
      go_wp2_with (fail)
      refine (HO.out a _ Ta hS).mono ?_
      rintro e w5 ⟨A5, n5, c5, rfl, B5, G⟩
      have T := nxt T G
      have Ta := Ta.below G
      have hS := hS.below G
      clear G
      go_wp2_with (fail)
      refine (H0.out a _ _ _ _ Ta B5).mono ?_
      rintro e w6 ⟨g6, c6, rfl, O6, G⟩
      have B6 := O6.bys
      have T := nxt T G
      have hS := hS.below G
      clear G O6
      go_wp2_with (fail)
      refine (num_any _ _).mono ?_
      rintro e w' ⟨rfl, rfl⟩
      go_wp2_with (fail)
      refine (num_any _ _).mono ?_
      rintro e w' ⟨rfl, rfl⟩
      go_wp2_with (fail)
      refine (same_true _ _ _ _ _ _ s _ B6 hS).mono ?_
      rintro e w7 ⟨rfl, G⟩
      have T := nxt T G
      clear G
      go_wp2_with (fail)
      refine (live04 _).mono ?_
      rintro e w8 ⟨rfl, G⟩
      have T := nxt T G
      clear G
      go_wp2_with (fail)
      go_ret
      exact ⟨rfl, T⟩
  · have hd : decide ((n : Int) ≤ 96) = false := by simp; omega
    have HW := Lib.hid (fun a W t => wrap_long a A n c W t (by omega))
    have HP := Lib.hid (fun a W t => open_any a none 0 0 [] W t (Bys.nil W) (by decide))
    rcases h2 with h2 | ⟨y, h2, hy, hw⟩
    · rw [h2, show frameE none = 40 from rfl] at HO
      have HO := Lib.hid HO
      have H0 := Lib.hid (fun a A1 c1 W t b => wrap_any a A1 0 c1 [] W t b (by decide))
      clear h2
      go_enter Try.func5, Try.ntmps5
      go_wp2_with (fail)
      refine (new_any w).mono ?_
      rintro e w1 ⟨a, rfl, Ta, T⟩
      have hS := hS.below T
      go_wp2_with (fail)
      refine (HW.out a _ Ta).mono ?_
      rintro e w2 ⟨rfl, G⟩
      have T := nxt T G
      have hS := hS.below G
      have Ta := Ta.below G
      clear G
      go_wp2_with (fail)
      refine (HP.out a _ Ta).mono ?_
      rintro e w3 ⟨A3, n3, c3, rfl, -, G⟩
      have T := nxt T G
      have hS := hS.below G
      have Ta := Ta.below G
      clear G
      go_wp2_with (fail)
      refine (num_any _ _).mono ?_
      rintro e w' ⟨rfl, rfl⟩
      go_wp2_with (fail)
      refine (num_any _ _).mono ?_
      rintro e w' ⟨rfl, rfl⟩
      go_wp2_with (fail)
      refine (HO.out a _ Ta hS).mono ?_
      rintro e w5 ⟨A5, n5, c5, rfl, B5, G⟩
      obtain rfl : n5 = 0 := B5.len.symm
      have T := nxt T G
      have Ta := Ta.below G
      clear G
      go_wp2_with (fail)
      refine (H0.out a _ _ _ Ta B5).mono ?_
      rintro e w6 ⟨g6, c6, rfl, -, G⟩
      have T := nxt T G
      clear G
      go_wp2_with (fail)
      refine (num_any _ _).mono ?_
      rintro e w' ⟨rfl, rfl⟩
      go_wp2_with (fail)
      refine (live04 _).mono ?_
      rintro e w7 ⟨rfl, G⟩
      have T := nxt T G
      clear G
      go_wp2_with (fail)
      go_ret
      exact ⟨rfl, T⟩
    · rw [h2, show frameE (some y) = 0 from rfl] at HO
      have HO := Lib.hid HO
      have H0 := fun a A1 n1 c1 W t (b : Bys W A1 n1 c1 y) => wrap_any a A1 n1 c1 y W t b (by have := b.len; omega)
      rw [hw] at H0
      unfold GivesF at H0
      rw [hS.len] at H0
      have H0 := Lib.hid H0
      clear h2 hw hy
      go_enter Try.func5, Try.ntmps5
      go_wp2_with (fail)
      refine (new_any w).mono ?_
      rintro e w1 ⟨a, rfl, Ta, T⟩
      have hS := hS.below T
      go_wp2_with (fail)
      refine (HW.out a _ Ta).mono ?_
      rintro e w2 ⟨rfl, G⟩
      have T := nxt T G
      have hS := hS.below G
      have Ta := Ta.below G
      clear G
      go_wp2_with (fail)
      refine (HP.out a _ Ta).mono ?_
      rintro e w3 ⟨A3, n3, c3, rfl, -, G⟩
      have T := nxt T G
      have hS := hS.below G
      have Ta := Ta.below G
      clear G
      go_wp2_with (fail)
      refine (num_any _ _).mono ?_
      rintro e w' ⟨rfl, rfl⟩
      go_wp2_with (fail)
      refine (num_any _ _).mono ?_
      rintro e w' ⟨rfl, rfl⟩
      go_wp2_with (fail)
      refine (HO.out a _ Ta hS).mono ?_
      rintro e w5 ⟨A5, n5, c5, rfl, B5, G⟩
      have T := nxt T G
      have Ta := Ta.below G
      have hS := hS.below G
      clear G
      go_wp2_with (fail)
      refine (H0.out a _ _ _ _ Ta B5).mono ?_
      rintro e w6 ⟨g6, c6, rfl, O6, G⟩
      have B6 := O6.bys
      have T := nxt T G
      have hS := hS.below G
      clear G O6
      go_wp2_with (fail)
      refine (num_any _ _).mono ?_
      rintro e w' ⟨rfl, rfl⟩
      go_wp2_with (fail)
      refine (num_any _ _).mono ?_
      rintro e w' ⟨rfl, rfl⟩
      go_wp2_with (fail)
      refine (same_true _ _ _ _ _ _ s _ B6 hS).mono ?_
      rintro e w7 ⟨rfl, G⟩
      have T := nxt T G
      clear G
      go_wp2_with (fail)
      refine (live04 _).mono ?_
      rintro e w8 ⟨rfl, G⟩
      have T := nxt T G
      clear G
      go_wp2_with (fail)
      go_ret
      exact ⟨rfl, T⟩
end Go.Proofs.Ytopdbkiadgiicaa
