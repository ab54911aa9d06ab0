/- What kedgeref01.SameAll answers of two lists that read the same. -/
import Derived.Test.YtoajbocpebfjoaaSame
import Derived.Test.YtoajbocpebfjoaaFresh
import Derived.Deep.RegionHeld3
namespace Go.Proofs.Ytoajbocpebfjoaa
open Go.RowKit
set_option maxRecDepth 20000

set_option maxHeartbeats 1000000 in
theorem sameall_true (P P' : Option Addr) (n c n' c' : Nat) (ls : List (List UInt8)) (w : World) (h : Rws w P n c ls) (h' : Rws w P' n' c' ls) :
    Calls Try.prog 20 #[.slice P n c, .slice P' n' c'] w fun e w' => e = .returned (.bool true) ∧ Below w.heap.size w w' := by
  have hl := h.1
  have hl' := h'.1
  have hnc := h.2.1
  have hnc' := h'.2.1
  have hcm := h.2.2.1
  have hcm' := h'.2.2.1
  unfold maxLen at hcm hcm'
  obtain rfl : n' = n := by omega
  subst hl
  clear hl'
  have HA := Lib.hid h.at_
  have HA' := Lib.hid h'.at_
  clear h h'
  have hbb : ((ls.length : Int) != (ls.length : Int)) = false := by simp
  go_enter Try.func20, Try.ntmps20
  go_wp2
  go_loopw [5] (fun i wr => ∃ k : Nat, k ≤ ls.length ∧ i = .int .i64 k ∧ Below w.heap.size w wr) (fun i _ => ls.length - (intOf i).toNat)
  case atStart => exact ⟨0, Nat.zero_le _, rfl, Below.refl _ _⟩
  case round =>
    obtain ⟨k, hk, rfl, hbel⟩ := hrel
    by_cases hlt : k < ls.length
    · obtain ⟨b, o, A, d, rfl, hb, hk1, hc, hB⟩ := HA.out k hlt
      obtain ⟨b', o', A', d', rfl, hb', hk2, hc', hB'⟩ := HA'.out k hlt
      have hSM := same_true A A' _ d _ d' ls[k] wr.drew (hB.below hbel.drew) (hB'.below hbel.drew)
      generalize ls[k] = x at *
      generalize x.length = m at *
      have c1 := (hbel.cell (p := ⟨b, o + k, none⟩) hb).trans hc
      have c2 := (hbel.cell (p := ⟨b', o' + k, none⟩) hb').trans hc'
      have hbz : b < wr.heap.size := by have := hbel.size; omega
      have hbz' : b' < wr.heap.size := by have := hbel.size; omega
      have HSM := Lib.hid hSM
      clear hc hc' hB hB' hSM
      go_wp2_with (fail)
      go_region_held3 (fun w' => w'.cell? ⟨b, o + k, none⟩ = some (.slice A m d) ∧ w'.cell? ⟨b', o' + k, none⟩ = some (.slice A' m d')) (first | exact ⟨c1, c2⟩ | exact ⟨e1, e2⟩)
        (first | (go_at_call 18; (with_reducible refine HSM.out.mono ?_); rintro e w5 ⟨rfl, G⟩; have G := undrew G; have e1 := (G.cell (p := ⟨b, o + k, none⟩) hbz).trans c1; have e2 := (G.cell (p := ⟨b', o' + k, none⟩) hbz').trans c2))
      go_wp2
      go_roundw
      case rel => exact ⟨k + 1, by omega, by go_num, nxt hbel G⟩
      case measure => simp [intOf]; omega
    · obtain rfl : k = ls.length := by omega
      go_wp2
      go_ret
      exact ⟨rfl, hbel⟩
end Go.Proofs.Ytoajbocpebfjoaa
