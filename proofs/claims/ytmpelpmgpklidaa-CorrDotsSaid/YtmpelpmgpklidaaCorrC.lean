/- Package corr by its contracts (phase's beside it); what the law's own small and live answer over them. -/
import Derived.Test.YtmpelpmgpklidaaPhL
import Derived.Test.YtmpelpmgpklidaaRcor3
namespace Go.Proofs.Ytmpelpmgpklidaa
open Go.RowKit

/-- A call's end that tells a float which is this whole number. -/
def GivesX (w : World) (n : Int) (e : Ending) (w' : World) : Prop := ∃ a, e = .returned (.float .f64 a) ∧ Fl a n ∧ Below w.heap.size w w'
/-- what package corr answers, in plain words -/
structure CoC : Prop where
  dot : ∀ (A : Option Addr) (n c : Nat) (l : List Pt) (B : Option Addr) (m d : Nat) (r : List Pt) (w : World), Cs w A n c l → Cs w B m d r → (∀ p ∈ l, Near p) → (∀ p ∈ r, Near p) → n ≤ 400 → m ≤ 400 → Calls Try.prog 9 #[.slice A n c, .slice B m d] w (GivesZ w (dotP l r))
  size : ∀ (a b : Nat) (p : Pt) (w : World), Fl a p.1 → Fl b p.2 → (-50000000 ≤ p.1 ∧ p.1 ≤ 50000000 ∧ -50000000 ≤ p.2 ∧ p.2 ≤ 50000000) → Calls Try.prog 13 #[.complex .f64 a b] w (GivesX w (sizeI p))
  find : ∀ (A : Option Addr) (n c : Nat) (l : List Pt) (B : Option Addr) (m d : Nat) (r : List Pt) (w : World), Cs w A n c l → Cs w B m d r → (∀ p ∈ l, Near p) → (∀ p ∈ r, Near p) → n ≤ 400 → m ≤ 400 → Calls Try.prog 18 #[.slice A n c, .slice B m d] w (GivesFd w l r)
  peak : ∀ (A : Option Addr) (n c : Nat) (l : List Pt) (B : Option Addr) (m d : Nat) (r : List Pt) (w : World), Cs w A n c l → Cs w B m d r → (∀ p ∈ l, Near p) → (∀ p ∈ r, Near p) → n ≤ 400 → m ≤ 400 → Calls Try.prog 20 #[.slice A n c, .slice B m d] w (GivesPk w l r)
  sliced : ∀ (A : Option Addr) (n c : Nat) (l : List Pt) (w : World), Cs w A n c l → n ≤ 400 → Calls Try.prog 16 #[.slice A n c] w (GivesC w (slicedB l))

/-- small's end -/
def SmallN (w : World) (n : Nat) (l : List Pt) (e : Ending) (w' : World) : Prop := ∃ r, e = .returned (.bool r) ∧ (r = true → n ≤ 400 ∧ ∀ p ∈ l, Near p) ∧ w = w'
set_option maxHeartbeats 2000000 in
theorem small8_any (A : Option Addr) (n c : Nat) (l : List Pt) (w : World) (hP : Ps w A n c l) :
    Calls Try.prog 7 #[.slice A n c] w (SmallN w n l) := by
  obtain ⟨hl, hnc, hcm, hcell⟩ := hP
  unfold maxLen at hcm
  subst hl
  have HC := Lib.hid hcell
  clear hcell
  go_enter Try.func7, Try.ntmps7
  go_wp2_with (fail)
  go_loopw [3] (fun i wr => ∃ j : Nat, j ≤ l.length ∧ i = .int .i64 (j : Int) ∧ Hid (∀ p ∈ l.take j, Near p) ∧ w = wr ∧ j ≤ 500) (fun i _ => l.length - (intOf i).toNat)
  case atStart => exact ⟨0, Nat.zero_le _, rfl, fun p hp => by simp at hp, rfl, by omega⟩
  case round =>
    obtain ⟨j, hj, rfl, HL, rfl, h500⟩ := hrel
    by_cases hlt : j < l.length
    · by_cases h5 : j < 500
      · have d5 : decide ((j : Int) < 500) = true := by simp; omega
        obtain ⟨g, o, rfl, hg, hc⟩ := HC.out (by omega)
        obtain ⟨c1, c2⟩ := hc j hlt
        have hst : ∀ p ∈ l.take (j + 1), p ∈ l.take j ∨ p = l[j] := by
          intro p hp
          rw [List.take_succ_eq_append_getElem hlt] at hp
          rcases List.mem_append.1 hp with h | h
          · exact .inl h
          · exact .inr (List.mem_singleton.1 h)
        generalize l[j] = x at *
        obtain ⟨xa, xb⟩ := x
        simp only at c1 c2
        have HST := Lib.hid hst
        clear hst hc
        by_cases y1 : xa < -100
        · have z1 : decide (xa < -100) = true := by simpa using y1
          go_wp2
          go_ret
          exact ⟨false, rfl, fun h => (by cases h), rfl⟩
        · have z1 : decide (xa < -100) = false := by simpa using y1
          by_cases y2 : 100 < xa
          · have z2 : decide (100 < xa) = true := by simpa using y2
            go_wp2
            go_ret
            exact ⟨false, rfl, fun h => (by cases h), rfl⟩
          · have z2 : decide (100 < xa) = false := by simpa using y2
            by_cases y3 : xb < -100
            · have z3 : decide (xb < -100) = true := by simpa using y3
              go_wp2
              go_ret
              exact ⟨false, rfl, fun h => (by cases h), rfl⟩
            · have z3 : decide (xb < -100) = false := by simpa using y3
              by_cases y4 : 100 < xb
              · have z4 : decide (100 < xb) = true := by simpa using y4
                go_wp2
                go_ret
                exact ⟨false, rfl, fun h => (by cases h), rfl⟩
              · have z4 : decide (100 < xb) = false := by simpa using y4
                have HLX : Hid (Near (xa, xb)) := ⟨by show -100 ≤ xa; omega, by show xa ≤ 100; omega, by show -100 ≤ xb; omega, by show xb ≤ 100; omega⟩
                go_wp2
                go_roundw
                case rel =>
                  refine ⟨j + 1, by omega, by go_num, fun p hp => ?_, trivial, by omega⟩
                  rcases HST.out p hp with h | h
                  · exact HL.out p h
                  · rw [h]; exact HLX.out
                case measure => simp [intOf]; omega
      · have d5 : decide ((j : Int) < 500) = false := by simp; omega
        have d6 : decide ((l.length : Int) ≤ 400) = false := by simp; omega
        go_wp2
        go_ret
        exact ⟨false, rfl, fun h => (by cases h), rfl⟩
    · obtain rfl : j = l.length := by omega
      obtain ⟨r, hr⟩ : ∃ r, decide ((l.length : Int) ≤ 400) = r := ⟨_, rfl⟩
      have HR : Hid (r = true → l.length ≤ 400) := fun h => by rw [h] at hr; simp at hr; omega
      have HL2 : Hid (∀ p ∈ l, Near p) := by have := HL.out; rw [List.take_length] at this; exact this
      go_wp2
      go_ret
      exact ⟨r, rfl, fun h => ⟨HR.out h, HL2.out⟩, rfl⟩
end Go.Proofs.Ytmpelpmgpklidaa
