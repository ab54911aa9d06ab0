/- What the law's own 'large' answers, and edit.Between of two texts of one byte. -/
import Derived.Test.YtjpmfomabofjpaaEdV
namespace Go.Proofs.Ytjpmfomabofjpaa
open Go.RowKit

set_option maxHeartbeats 1000000 in
theorem large_any (A : Option Addr) (n c : Nat) (A2 : Option Addr) (n2 c2 : Nat) (w : World) :
    Calls Try.prog 7 #[.slice A n c, .slice A2 n2 c2] w fun e w' => e = .returned (.bool (decide (600 < n ∨ 100 < n2))) ∧ w = w' := by
  by_cases h1 : 600 < n
  · have d1 : decide ((600 : Int) < (n : Int)) = true := by simp; omega
    have HD : Hid (decide (600 < n ∨ 100 < n2) = true) := by show _ = _; simp; omega
    clear h1
    go_enter Try.func7, Try.ntmps7
    go_wp2
    go_ret
    exact ⟨ret_bool HD.out.symm, rfl⟩
  · have d1 : decide ((600 : Int) < (n : Int)) = false := by simp; omega
    by_cases h2 : 100 < n2
    · have d2 : decide ((100 : Int) < (n2 : Int)) = true := by simp; omega
      have HD : Hid (decide (600 < n ∨ 100 < n2) = true) := by show _ = _; simp; omega
      clear h1 h2
      go_enter Try.func7, Try.ntmps7
      go_wp2
      go_ret
      exact ⟨ret_bool HD.out.symm, rfl⟩
    · have d2 : decide ((100 : Int) < (n2 : Int)) = false := by simp; omega
      have HD : Hid (decide (600 < n ∨ 100 < n2) = false) := by show _ = _; simp; omega
      clear h1 h2
      go_enter Try.func7, Try.ntmps7
      go_wp2
      go_ret
      exact ⟨ret_bool HD.out.symm, rfl⟩

theorem Try.infoEd : (Try.prog.info? 37).map (fun i => (i.zero, i.size, i.bytes)) = some (some (.agg #[.int .i64 0, .int .i64 0, .int .u8 0]), 3, 24) := by kernel_rfl
set_option maxHeartbeats 2000000 in
theorem between_one (A A2 : Option Addr) (c c2 : Nat) (x y : UInt8) (w : World) (hx : ((x.toNat : Int) != (y.toNat : Int)) = true) (hB : Bys w A 1 c [x]) (hB2 : Bys w A2 1 c2 [y]) :
    Calls Try.prog 19 #[.slice A 1 c, .slice A2 1 c2] w fun e w' => (∃ P d, e = .returned (.slice P 1 d)) ∧ Below w.heap.size w w' := by
  obtain ⟨g, o, rfl, hg, hc⟩ := hB.at_ (Nat.zero_lt_one)
  obtain ⟨g2, o2, rfl, hg2, hc2⟩ := hB2.at_ (Nat.zero_lt_one)
  have q1 := hc 0 (by simp)
  have q2 := hc2 0 (by simp)
  simp only [List.getElem_cons_zero, Nat.add_zero] at q1 q2
  clear hc hc2 hB hB2
  have Q1 := Lib.hid q1
  have Q2 := Lib.hid q2
  clear q1 q2
  obtain ⟨i0, hi, hz0, hz1, hz2⟩ := info_parts Try.infoEd
  go_enter Try.func19, Try.ntmps19
  go_wp2
  go_loopw [5, 17] (fun v i wr => ∃ k : Nat, k ≤ 1 ∧ i = .int .i64 k ∧ (k = 0 → v = .slice none 0 0) ∧ (k = 1 → ∃ P d, v = .slice P 1 d) ∧ Below w.heap.size w wr) (fun _ i _ => 1 - (intOf i).toNat)
  case atStart => exact ⟨0, Nat.zero_le _, rfl, fun _ => rfl, fun h => absurd h (by decide), Below.refl _ _⟩
  case round =>
    obtain ⟨k, hk, rfl, h0, h1, hbel⟩ := hrel
    by_cases hk0 : k = 0
    · obtain rfl := h0 hk0
      subst hk0
      clear h0 h1
      have c1 := (hbel.cell (p := ⟨g, o, none⟩) hg).trans Q1.out
      have c2 := (hbel.cell (p := ⟨g2, o2, none⟩) hg2).trans Q2.out
      have hz := hbel.size
      go_wp2
      go_roundw
      case rel => exact ⟨1, Nat.le_refl _, rfl, fun h => absurd h (by decide), fun _ => ⟨_, _, rfl⟩, ((hbel.alloc hz _).alloc (by simp; omega) _).drew⟩
      case measure => simp [intOf]
    · obtain rfl : k = 1 := by omega
      obtain ⟨P, d, rfl⟩ := h1 rfl
      clear h0 h1
      go_wp2
      go_ret
      exact ⟨⟨_, _, rfl⟩, hbel⟩
end Go.Proofs.Ytjpmfomabofjpaa
