/- Package corr: two rows of points held against each other. -/
import Derived.Test.YtmpelpmgpklidaaCo3
namespace Go.Proofs.Ytmpelpmgpklidaa
open Go.RowKit

theorem take_more {l r : List Pt} {j : Nat} (h : l.take j = r.take j) (h1 : j < l.length) (h2 : j < r.length) (he : l[j] = r[j]) : l.take (j + 1) = r.take (j + 1) := by
  rw [List.take_succ_eq_append_getElem h1, List.take_succ_eq_append_getElem h2, h, he]
theorem take_never {l r : List Pt} {j : Nat} (h1 : j < l.length) (h2 : j < r.length) (he : ¬ l[j] = r[j]) : ¬ l = r := fun h => he (by subst h; rfl)
/-- a truth, told -/
def GivesT8 (w : World) (b : Prop) (e : Ending) (w' : World) : Prop := ∃ x : Bool, e = .returned (.bool x) ∧ (x = true ↔ b) ∧ Below w.heap.size w w'
set_option maxHeartbeats 4000000 in
theorem eqc_any (A : Option Addr) (n c : Nat) (l : List Pt) (B : Option Addr) (m d : Nat) (r : List Pt) (w : World) (hP : Cs w A n c l) (hQ : Cs w B m d r) :
    Calls Try.prog 29 #[.slice A n c, .slice B m d] w (GivesT8 w (l = r)) := by
  obtain rfl := hP.len
  obtain rfl := hQ.len
  have hnc := hP.le
  have hcm := hP.cap
  have hmd := hQ.le
  have hdm := hQ.cap
  by_cases hne : l.length = r.length
  · have e0 : ((l.length : Int) != (r.length : Int)) = false := by simp [hne]
    have HC := Lib.hid (fun j => hP.at_ j)
    have HD := Lib.hid (fun j => hQ.at_ j)
    have HNE := Lib.hid hne
    have hle1 : l.length ≤ r.length := by omega
    clear hP hQ hne
    go_enter Try.func29, Try.ntmps29
    go_wp2_with (fail)
    go_loopw [13] (fun i wr => ∃ j : Nat, i = .int .i64 (j : Int) ∧ j ≤ l.length ∧ Hid (l.take j = r.take j) ∧ Below w.heap.size w wr) (fun i _ => l.length - (intOf i).toNat)
    case atStart => exact ⟨0, rfl, Nat.zero_le _, rfl, Below.refl _ _⟩
    case round =>
      obtain ⟨j, rfl, hj, HA, hbel⟩ := hrel
      by_cases h3 : j < l.length
      · have d3 : decide ((j : Int) < (l.length : Int)) = true := by simp; omega
        have i1 : (j : Int) < (l.length : Int) := by omega
        have i2 : (j : Int) < (r.length : Int) := by omega
        obtain ⟨g1, o1, a1, b1, rfl, hg1, hk1, hc1, hx1, hy1⟩ := HC.out j h3
        obtain ⟨g2, o2, a2, b2, rfl, hg2, hk2, hc2, hx2, hy2⟩ := HD.out j (by omega)
        have q1 := (hbel.cell (p := ⟨g1, o1 + j, none⟩) hg1).trans hc1
        have q2 := (hbel.cell (p := ⟨g2, o2 + j, none⟩) hg2).trans hc2
        have e1 := fl_eq hx1 hx2
        have e2 := fl_eq hy1 hy2
        have HX := Lib.hid (And.intro e1 e2)
        clear hx1 hy1 hx2 hy2 e1 e2 hc1 hc2
        go_wp2_with (fail)
        go_quiet (fail)
        go_wp2
        · have he := (pt_cmp HX.out.1 HX.out.2).1 (by assumption)
          have HF := Lib.hid (take_never hk1 hk2 he)
          go_ret
          exact ⟨false, rfl, ⟨fun h => (by cases h), fun h => absurd h HF.out⟩, by first | exact hbel | exact hbel.drew | exact below_drewN' hbel _⟩
        · have he := (pt_cmp HX.out.1 HX.out.2).2 (by assumption)
          have HA2 := Lib.hid (take_more HA.out hk1 hk2 he)
          go_roundw
          case rel => exact ⟨j + 1, by go_num, by omega, HA2.out, by first | exact hbel | exact hbel.drew | exact below_drewN' hbel _⟩
          case measure => simp [intOf]; omega
      · obtain rfl : j = l.length := by omega
        have d3 : decide ((l.length : Int) < (l.length : Int)) = false := by simp
        have HF : Hid (l = r) := by
          have h := HA.out
          rw [List.take_length, HNE.out, List.take_length] at h
          exact h
        go_wp2
        go_ret
        exact ⟨true, rfl, ⟨fun _ => HF.out, fun _ => rfl⟩, hbel⟩
  · have e0 : ((l.length : Int) != (r.length : Int)) = true := by simp; omega
    have HNE : Hid (¬ l = r) := fun h => hne (by rw [h])
    clear hP hQ
    go_enter Try.func29, Try.ntmps29
    go_wp2
    go_ret
    exact ⟨false, rfl, ⟨fun h => (by cases h), fun h => absurd h HNE.out⟩, Below.refl _ _⟩
end Go.Proofs.Ytmpelpmgpklidaa
