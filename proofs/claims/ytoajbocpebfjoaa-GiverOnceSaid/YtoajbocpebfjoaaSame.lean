/- What kedgeref01.Same answers: whether two slices read as the same bytes. -/
import Derived.Test.YtoajbocpebfjoaaBase
namespace Go.Proofs.Ytoajbocpebfjoaa
open Go.RowKit
set_option maxRecDepth 20000

def sameB (l m : List UInt8) : Bool := decide (l = m)
theorem sameB_self (l : List UInt8) : sameB l l = true := by simp [sameB]
theorem sameB_eq {l m : List UInt8} (h : l = m) : sameB l m = true := by simp [sameB, h]
theorem sameB_iff (l m : List UInt8) : sameB l m = true ↔ l = m := by simp [sameB]

set_option maxHeartbeats 1000000 in
theorem same_any (A A' : Option Addr) (n c n' c' : Nat) (l m : List UInt8) (w : World) (h : Bys w A n c l) (h' : Bys w A' n' c' m) :
    Calls Try.prog 18 #[.slice A n c, .slice A' n' c'] w fun e w' => e = .returned (.bool (sameB l m)) ∧ ∃ k, w' = w.drewN k := by
  obtain ⟨hl, hnc, hcm, hcell⟩ := h
  obtain ⟨hl', hnc', hcm', hcell'⟩ := h'
  unfold maxLen at hcm hcm'
  by_cases hnn : n = n'
  · subst hnn
    subst hl
    have hbb : ((l.length : Int) != (l.length : Int)) = false := by simp
    have HL := Lib.hid hl'; clear hl'
    have HC := Lib.hid hcell; clear hcell
    have HC' := Lib.hid hcell'; clear hcell'
    go_enter Try.func18, Try.ntmps18
    go_wp2
    go_loopw [5] (fun i wr => ∃ k : Nat, k ≤ l.length ∧ i = .int .i64 k ∧ l.take k = m.take k ∧ ∃ nd, wr = w.drewN nd) (fun i _ => l.length - (intOf i).toNat)
    case atStart => exact ⟨0, Nat.zero_le _, rfl, by simp, 0, rfl⟩
    case round =>
      obtain ⟨k, hk, rfl, heq, nd, rfl⟩ := hrel
      have HE := Lib.hid heq; clear heq
      by_cases hlt : k < l.length
      · obtain ⟨b, o, rfl, hb, hc⟩ := HC.out (by omega)
        obtain ⟨b', o', rfl, hb', hc'⟩ := HC'.out (by omega)
        have hm : k < m.length := by have := HL.out; omega
        have c1 := hc k hlt
        have c2 := hc' k hm
        clear hc hc'
        have HTL : Hid (l.take (k + 1) = l.take k ++ [l[k]]) := by rw [List.take_succ_eq_append_getElem hlt]; rfl
        have HTM : Hid (m.take (k + 1) = m.take k ++ [m[k]]) := by rw [List.take_succ_eq_append_getElem hm]; rfl
        go_wp2
        go_quiet (fail)
        go_wp2
        · have hne : ((l[k].toNat : Int) != (m[k].toNat : Int)) = true := by assumption
          go_ret
          refine ⟨ret_bool ?_, _, World.drewN_drewN _ _ _⟩
          refine (Bool.eq_false_iff.2 fun h => ?_).symm
          have := (sameB_iff l m).1 h
          subst this
          simp at hne
        · have heq : ((l[k].toNat : Int) != (m[k].toNat : Int)) = false := by assumption
          go_roundw
          case rel =>
            refine ⟨k + 1, by omega, by go_num, ?_, _, rfl⟩
            rw [HTL.out, HTM.out, HE.out]
            have : l[k] = m[k] := UInt8.toNat_inj.1 (by simp at heq; omega)
            rw [this]
          case measure => simp [intOf]; omega
      · go_wp2
        go_ret
        refine ⟨ret_bool (sameB_eq ?_).symm, _, rfl⟩
        have e := HE.out
        have := HL.out
        rw [List.take_of_length_le (by omega), List.take_of_length_le (by omega)] at e
        exact e
  · have hbb : ((n : Int) != (n' : Int)) = true := by simp; omega
    clear hcell hcell'
    have HL := Lib.hid hl; clear hl
    have HL' := Lib.hid hl'; clear hl'
    go_enter Try.func18, Try.ntmps18
    go_wp2
    go_ret
    refine ⟨ret_bool ?_, 0, rfl⟩
    refine (Bool.eq_false_iff.2 fun h => ?_).symm
    have := (sameB_iff l m).1 h
    subst this
    exact hnn (HL.out.symm.trans HL'.out)
theorem same_true (A A' : Option Addr) (n c n' c' : Nat) (l : List UInt8) (w : World) (h : Bys w A n c l) (h' : Bys w A' n' c' l) :
    Calls Try.prog 18 #[.slice A n c, .slice A' n' c'] w fun e w' => e = .returned (.bool true) ∧ Below w.heap.size w w' := by
  have := same_any A A' n c n' c' l l w h h'
  rw [sameB_self] at this
  refine this.mono ?_
  rintro e w' ⟨he, k, rfl⟩
  exact ⟨he, below_drewN' (Below.refl _ _) _⟩
end Go.Proofs.Ytoajbocpebfjoaa
