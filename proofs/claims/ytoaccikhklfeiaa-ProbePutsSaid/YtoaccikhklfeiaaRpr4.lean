/- What kedgeref13.Get answers of any bytes; Same. -/
import Derived.Test.YtoaccikhklfeiaaRpr3
namespace Go.Proofs.Ytoaccikhklfeiaa
open Go.RowKit
set_option maxRecDepth 20000

theorem rpget_any (A : Option Addr) (n c : Nat) (b : List UInt8) (w : World) (hB : Bys w A n c b) (hn : n ≤ 140737488355328) :
    Calls Try.prog 12 #[.slice A n c] w (GivesPr w (prGetK b) (prGetL b) (prGetD b) (prGetE b)) := by
  match b, hB with
  | [], hB => exact rpget_bad A n c [] w hB (fun _ _ h => by cases h)
  | x :: d, hB =>
    by_cases hx : x.toNat = 3 ∨ 8 ≤ x.toNat
    · have ho : prOk (x :: d) = false := by
        rw [prOk_cons]
        rcases hx with hx | hx
        · simp [hx]
        · have : decide (x.toNat < 8) = false := by simp; omega
          rw [this]; simp
      have := rpget_bad A n c (x :: d) w hB (fun y e h => by injection h with h1 h2; subst h1; exact hx)
      rw [prGetK_cons, prGetL_cons, prGetD_cons]
      unfold prGetE
      rw [ho]
      exact this
    · have ho : prOk (x :: d) = prRight (prKind x.toNat) (prLabel x.toNat) d.length := by
        rw [prOk_cons]
        have h1 : decide (x.toNat ≠ 3) = true := by simp; omega
        have h2 : decide (x.toNat < 8) = true := by simp; omega
        rw [h1, h2]
        simp
      rw [prGetK_cons, prGetL_cons, prGetD_cons]
      unfold prGetE
      rw [ho]
      by_cases hd : d = []
      · subst hd
        have := rpget_one A n c x w hB (by omega) _ _ rfl rfl _ rfl
        simp only [List.length_nil]
        split
        · rename_i h; rw [h] at this; exact this
        · rename_i h; rw [Bool.not_eq_true] at h; rw [h] at this; exact this
      · have hdl : 0 < d.length := List.length_pos_iff.2 hd
        exact rpget_more A n c x d w hB hn hdl (by omega) _ _ rfl rfl _ rfl
/-- whether two packets are the same -/
def prSame (k l : Int) (d : List UInt8) (k' l' : Int) (d' : List UInt8) : Bool := decide (k = k' ∧ l = l' ∧ d = d')
theorem prSame_self (k l : Int) (d : List UInt8) : prSame k l d k l d = true := by simp [prSame]
set_option maxHeartbeats 4000000 in
theorem rpsame_any (k l : Int) (A : Option Addr) (n c : Nat) (d : List UInt8) (k' l' : Int) (A' : Option Addr) (n' c' : Nat) (d' : List UInt8) (w : World) (hB : Bys w A n c d) (hB' : Bys w A' n' c' d') :
    Calls Try.prog 13 #[.agg #[.int .i64 k, .int .i64 l, .slice A n c], .agg #[.int .i64 k', .int .i64 l', .slice A' n' c']] w fun e w' => e = .returned (.bool (prSame k l d k' l' d')) ∧ Below w.heap.size w w' := by
  have T0 : Below w.heap.size w ((w.alloc (.cells #[.int .i64 k, .int .i64 l, .slice A n c] 24)).alloc (.cells #[.int .i64 k', .int .i64 l', .slice A' n' c'] 24)) := ((Below.refl _ w).alloc (Nat.le_refl _) _).alloc (by simp) _
  by_cases h1 : k = k'
  · subst h1
    have e1 : (k == k) = true := by simp
    by_cases h2 : l = l'
    · subst h2
      have e2 : (l == l) = true := by simp
      have HS := Lib.hid (fun W (h : Below w.heap.size w W) => same_any A A' n c n' c' d d' W (hB.below h) (hB'.below h))
      have hr : prSame k l d k l d' = sameB d d' := by unfold prSame sameB; simp
      rw [hr]
      have HT := Lib.hid T0
      clear hB hB' hr T0
      go_enter Try.func13, Try.ntmps13
      go_wp2_with (fail)
      refine (HS.out _ HT.out).mono ?_
      rintro e w1 ⟨rfl, q, rfl⟩
      go_wp2
      go_ret
      exact ⟨rfl, below_drewN' HT.out _⟩
    · have e2 : (l == l') = false := by simpa using h2
      have hr : prSame k l d k l' d' = false := by unfold prSame; simp [h2]
      rw [hr]
      clear hB hB' hr
      go_enter Try.func13, Try.ntmps13
      go_wp2
      go_ret
      exact ⟨rfl, T0⟩
  · have e1 : (k == k') = false := by simpa using h1
    have hr : prSame k l d k' l' d' = false := by unfold prSame; simp [h1]
    rw [hr]
    clear hB hB' hr
    go_enter Try.func13, Try.ntmps13
    go_wp2
    go_ret
    exact ⟨rfl, T0⟩
end Go.Proofs.Ytoaccikhklfeiaa
