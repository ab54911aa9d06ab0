/- What kedgeref01.Join answers. -/
import Derived.Test.YtbeaeameaakphaaWords
namespace Go.Proofs.Ytbeaeameaakphaa
open Go.RowKit

set_option maxHeartbeats 1000000 in
theorem rjoin_any (P : Option Addr) (n c : Nat) (ls : List (List UInt8)) (w : World) (h : Rws w P n c ls) (hs : Lib.lens ls ≤ 140737488355328) :
    Calls Try.prog 17 #[.slice P n c] w (GivesB w ls.flatten) := by
  have hl := h.1
  have hnc := h.2.1
  have hcm := h.2.2.1
  unfold maxLen at hcm
  have hat := h.at_
  have HA := Lib.hid hat; clear hat h
  subst hl
  go_enter Try.func17, Try.ntmps17
  go_wp2
  go_loopw [3, 4] (fun v i wr => ∃ k : Nat, k ≤ ls.length ∧ i = .int .i64 k ∧ ∃ m, wr.ownsRow w.heap.size 5 1 v m (bvs (ls.take k).flatten) ∧ Below w.heap.size w wr) (fun _ i _ => ls.length - (intOf i).toNat)
  case atStart => exact ⟨0, Nat.zero_le _, rfl, 0, World.ownsRow_nil _ _ _ _, Below.refl _ _⟩
  case round =>
    obtain ⟨k, hk, rfl, m, hown, hbel⟩ := hrel
    by_cases hlt : k < ls.length
    · obtain ⟨b, o, A, d, rfl, hb, hk', hc, hB⟩ := HA.out k hlt
      have c1 := (hbel.cell (p := ⟨b, o + k, none⟩) hb).trans hc
      have hB1 := hB.below hbel
      have hm : m = (ls.take k).flatten.length := by have := hown.1; rw [bvs_length] at this; omega
      have HF := Lib.hid (flat_take ls k hlt)
      have hle : m + ls[k].length ≤ 140737488355328 := by rw [hm]; exact Nat.le_trans (lens_take_le ls k hlt) hs
      clear hc hB hm
      have HB1 := Lib.hid hB1; clear hB1
      generalize ls[k] = x at *
      go_wp2_with ((with_reducible refine app_bys _ rfl (.tmp 11) (.tmp 15) rfl w.heap.size u3 m (bvs (ls.take k).flatten) rfl hown A x.length d x rfl HB1.out hle hbel.size ?_); intro v1 w1 hown1 hgrow1 hwhere1)
      go_roundw
      case rel =>
        rw [← bvs_append, ← HF.out] at hown1
        exact ⟨k + 1, by omega, by go_num, _, hown1, hbel.grown hgrow1 hbel.size (fun g hg => (hown.lt g hg).1)⟩
      case measure => simp [intOf]; omega
    · go_wp2
      go_ret
      obtain rfl : k = ls.length := by omega
      obtain ⟨A, c', rfl⟩ := own_shape hown
      rw [List.take_length] at hown
      exact ⟨_, _, _, rfl, Bys.of_own hown, hbel⟩
end Go.Proofs.Ytbeaeameaakphaa
