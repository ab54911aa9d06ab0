/- What kedgeref01.SameAll and slices.EqualFunc over octet.Same answer of any two lists. -/
import Derived.Test.YtjpmfomabofjpaaSame
import Derived.Test.YtjpmfomabofjpaaOsame
import Derived.Test.YtjpmfomabofjpaaFresh
import Derived.Deep.RegionHeld3
namespace Go.Proofs.Ytjpmfomabofjpaa
open Go.RowKit

theorem lists_eq {ls ms : List (List UInt8)} (hl : ls.length = ms.length) (h : ls.take ls.length = ms.take ls.length) : decide (ls = ms) = true := by
  rw [decide_eq_true_iff]
  rw [List.take_length] at h
  rw [h, hl, List.take_length]
theorem lists_ne {ls ms : List (List UInt8)} {k : Nat} (h1 : k < ls.length) (h2 : k < ms.length) (h : ls[k] ≠ ms[k]) : decide (ls = ms) = false := by
  rw [decide_eq_false_iff_not]
  intro e
  subst e
  exact h rfl
theorem lists_len {ls ms : List (List UInt8)} (h : ls.length ≠ ms.length) : decide (ls = ms) = false := by
  rw [decide_eq_false_iff_not]
  rintro rfl
  exact h rfl
theorem lists_step {ls ms : List (List UInt8)} {k : Nat} (h1 : k < ls.length) (h2 : k < ms.length) (h : ls.take k = ms.take k) (he : ls[k] = ms[k]) : ls.take (k + 1) = ms.take (k + 1) := by
  rw [List.take_succ_eq_append_getElem h1, List.take_succ_eq_append_getElem h2, h, he]

set_option maxHeartbeats 1000000 in
theorem sameall_any (P P' : Option Addr) (n c n' c' : Nat) (ls ms : List (List UInt8)) (w : World) (h : Rws w P n c ls) (h' : Rws w P' n' c' ms) :
    Calls Try.prog 32 #[.slice P n c, .slice P' n' c'] w fun e w' => e = .returned (.bool (decide (ls = ms))) ∧ Below w.heap.size w w' := by
  have hl := h.1
  have hl' := h'.1
  have hnc := h.2.1
  have hnc' := h'.2.1
  have hcm := h.2.2.1
  have hcm' := h'.2.2.1
  unfold maxLen at hcm hcm'
  by_cases hnn : n = n'
  · subst hnn
    subst hl
    have HL := Lib.hid hl'
    clear hl'
    have HA := Lib.hid h.at_
    have HA' := Lib.hid h'.at_
    clear h h'
    have hbb : ((ls.length : Int) != (ls.length : Int)) = false := by simp
    go_enter Try.func32, Try.ntmps32
    go_wp2
    go_loopw [5] (fun i wr => ∃ k : Nat, k ≤ ls.length ∧ i = .int .i64 k ∧ Hid (ls.take k = ms.take k) ∧ Below w.heap.size w wr) (fun i _ => ls.length - (intOf i).toNat)
    case atStart => exact ⟨0, Nat.zero_le _, rfl, rfl, Below.refl _ _⟩
    case round =>
      obtain ⟨k, hk, rfl, HT, hbel⟩ := hrel
      by_cases hlt : k < ls.length
      · obtain ⟨b, o, A, d, rfl, hb, hk1, hc, hB⟩ := HA.out k hlt
        obtain ⟨b', o', A', d', rfl, hb', hk2, hc', hB'⟩ := HA'.out k hlt
        have hSM := same_any A A' _ d _ d' ls[k] ms[k] wr.drew (hB.below hbel.drew) (hB'.below hbel.drew)
        have c1 := (hbel.cell (p := ⟨b, o + k, none⟩) hb).trans hc
        have c2 := (hbel.cell (p := ⟨b', o' + k, none⟩) hb').trans hc'
        have hr1 : sameB ls[k] ms[k] = true → ls.take (k + 1) = ms.take (k + 1) := fun e => lists_step hlt hk2 HT.out ((sameB_iff _ _).1 e)
        have hr2 : sameB ls[k] ms[k] = false → decide (ls = ms) = false := fun e => lists_ne hlt hk2 (fun e2 => by rw [sameB_eq e2] at e; cases e)
        generalize sameB ls[k] ms[k] = r at *
        generalize ls[k].length = m1 at *
        generalize ms[k].length = m2 at *
        have HR1 := Lib.hid hr1
        have HR2 := Lib.hid hr2
        have HSM := Lib.hid hSM
        clear hc hc' hB hB' hSM hr1 hr2
        go_wp2_with (fail)
        go_region_held3 (fun w' => w'.cell? ⟨b, o + k, none⟩ = some (.slice A m1 d) ∧ w'.cell? ⟨b', o' + k, none⟩ = some (.slice A' m2 d')) (first | exact ⟨c1, c2⟩)
          (first | (go_at_call 10; (with_reducible refine HSM.out.mono ?_); rintro e w5 ⟨rfl, kk, rfl⟩))
        cases r with
        | true =>
          have KR1 := Lib.hid (HR1.out rfl)
          clear HR1 HR2
          go_wp2
          go_roundw
          case rel => exact ⟨k + 1, by omega, by go_num, KR1.out, below_drewN' hbel _⟩
          case measure => simp [intOf]; omega
        | false =>
          have KR2 := Lib.hid (HR2.out rfl)
          clear HR1 HR2
          go_wp2
          go_ret
          exact ⟨ret_bool KR2.out.symm, below_drewN' hbel _⟩
      · obtain rfl : k = ls.length := by omega
        have HF := Lib.hid (lists_eq HL.out.symm HT.out)
        go_wp2
        go_ret
        exact ⟨ret_bool HF.out.symm, hbel⟩
  · have hbb : ((n : Int) != (n' : Int)) = true := by simp; omega
    have HF := Lib.hid (lists_len (ls := ls) (ms := ms) (by omega))
    clear h h' hl hl'
    go_enter Try.func32, Try.ntmps32
    go_wp2
    go_ret
    exact ⟨ret_bool HF.out.symm, Below.refl _ _⟩

set_option maxHeartbeats 1000000 in
theorem eqf_any (P P' : Option Addr) (n c n' c' : Nat) (ls ms : List (List UInt8)) (w : World) (h : Rws w P n c ls) (h' : Rws w P' n' c' ms) :
    Calls Try.prog 29 #[.slice P n c, .slice P' n' c', .func (.func 30) #[] #[]] w fun e w' => e = .returned (.bool (decide (ls = ms))) ∧ Below w.heap.size w w' := by
  have hl := h.1
  have hl' := h'.1
  have hnc := h.2.1
  have hnc' := h'.2.1
  have hcm := h.2.2.1
  have hcm' := h'.2.2.1
  unfold maxLen at hcm hcm'
  by_cases hnn : n = n'
  · subst hnn
    subst hl
    have HL := Lib.hid hl'
    clear hl'
    have HA := Lib.hid h.at_
    have HA' := Lib.hid h'.at_
    clear h h'
    have hbb : ((ls.length : Int) != (ls.length : Int)) = false := by simp
    go_enter Try.func29, Try.ntmps29
    go_wp2
    go_loopw [17] (fun i wr => ∃ k : Nat, k ≤ ls.length ∧ i = .int .i64 k ∧ Hid (ls.take k = ms.take k) ∧ Below w.heap.size w wr) (fun i _ => ls.length - (intOf i).toNat)
    case atStart => exact ⟨0, Nat.zero_le _, rfl, rfl, Below.refl _ _⟩
    case round =>
      obtain ⟨k, hk, rfl, HT, hbel⟩ := hrel
      by_cases hlt : k < ls.length
      · obtain ⟨b, o, A, d, rfl, hb, hk1, hc, hB⟩ := HA.out k hlt
        obtain ⟨b', o', A', d', rfl, hb', hk2, hc', hB'⟩ := HA'.out k hlt
        have hSM := osame_any A A' _ d _ d' ls[k] ms[k] wr (hB.below hbel) (hB'.below hbel)
        have c1 := (hbel.cell (p := ⟨b, o + k, none⟩) hb).trans hc
        have c2 := (hbel.cell (p := ⟨b', o' + k, none⟩) hb').trans hc'
        have hr1 : sameB ls[k] ms[k] = true → ls.take (k + 1) = ms.take (k + 1) := fun e => lists_step hlt hk2 HT.out ((sameB_iff _ _).1 e)
        have hr2 : sameB ls[k] ms[k] = false → decide (ls = ms) = false := fun e => lists_ne hlt hk2 (fun e2 => by rw [sameB_eq e2] at e; cases e)
        generalize sameB ls[k] ms[k] = r at *
        generalize ls[k].length = m1 at *
        generalize ms[k].length = m2 at *
        have HR1 := Lib.hid hr1
        have HR2 := Lib.hid hr2
        have HSM := Lib.hid hSM
        clear hc hc' hB hB' hSM hr1 hr2
        go_wp2_with (fail)
        refine HSM.out.mono ?_
        rintro e w5 ⟨rfl, rfl⟩
        cases r with
        | true =>
          have KR1 := Lib.hid (HR1.out rfl)
          clear HR1 HR2
          go_wp2
          go_roundw
          case rel => exact ⟨k + 1, by omega, by go_num, KR1.out, hbel⟩
          case measure => simp [intOf]; omega
        | false =>
          have KR2 := Lib.hid (HR2.out rfl)
          clear HR1 HR2
          go_wp2
          go_ret
          exact ⟨ret_bool KR2.out.symm, hbel⟩
      · obtain rfl : k = ls.length := by omega
        have HF := Lib.hid (lists_eq HL.out.symm HT.out)
        go_wp2
        go_ret
        exact ⟨ret_bool HF.out.symm, hbel⟩
  · have hbb : ((n : Int) != (n' : Int)) = true := by simp; omega
    have HF := Lib.hid (lists_len (ls := ls) (ms := ms) (by omega))
    clear h h' hl hl'
    go_enter Try.func29, Try.ntmps29
    go_wp2
    go_ret
    exact ⟨ret_bool HF.out.symm, Below.refl _ _⟩
end Go.Proofs.Ytjpmfomabofjpaa
