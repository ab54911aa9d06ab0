/- What kedgeref16's New, Len, Sent, At answer. -/
import Derived.Test.YtgppoapdpgblmaaFliO
import Derived.Deep.RegionHeld3
import Derived.IntWalk
namespace Go.Proofs.Ytgppoapdpgblmaa
open Go.RowKit
set_option maxRecDepth 20000

def flAt (l : List Frm) (i : Int) : Frm × Nat := if 0 ≤ i ∧ i < l.length then (l.getD i.toNat (0, [], []), 0) else ((0, [], []), 4)
def fsAt (s : Fs) (d i : Int) : Frm × Nat := if d = 0 then flAt s.l0 i else if d = 1 then flAt s.l1 i else ((0, [], []), 1)
def fsLen (s : Fs) (d : Int) : Nat := if d = 0 then s.l0.length else if d = 1 then s.l1.length else 0
def fsSent (s : Fs) (d : Int) : Nat := if d = 0 then s.s0 else if d = 1 then s.s1 else 0
/-- A call's end that tells a frame, its texts at no block of Y. -/
def GivesFr (w : World) (Y : Nat → Prop) (r : Frm × Nat) (e : Ending) (w' : World) : Prop := ∃ u1 u2, e = .returned (.tuple #[.agg #[.int .i64 (r.1.1 : Int), u1, u2], .int .i64 (r.2 : Int)]) ∧ Tx w' Y r.1.2.1 u1 ∧ Tx w' Y r.1.2.2 u2 ∧ Below w.heap.size w w'
theorem tx_nil (w : World) (Y : Nat → Prop) : Tx w Y [] (.slice none 0 0) := ⟨none, 0, rfl, Bys.nil _, fun h => absurd h (by simp)⟩
/-- what a frame that is told keeps clear of -/
def Yn (X : Nat → Prop) (g : Nat) (v0 v1 : Value) : Nat → Prop := fun k => ¬ X k ∨ k = g ∨ v0.ownBlock = some k ∨ v1.ownBlock = some k
theorem fsNew_ok (life : Nat) (h : life ≤ 4096) : FsOk ⟨life, 0, [], 0, [], 0⟩ := ⟨h, by show 0 ≤ _; omega, ⟨by show 0 ≤ _; omega, by show 0 ≤ _; omega, fun f h => by cases h⟩, ⟨by show 0 ≤ _; omega, by show 0 ≤ _; omega, fun f h => by cases h⟩⟩
theorem rfnew_yes (life : Nat) (w : World) (h : life ≤ 4096) : Calls Try.prog 9 #[.int .i64 (life : Int)] w fun e w' => e = .returned (.tuple #[.pointer (some ⟨w.heap.size, 0, none⟩), .int .i64 0]) ∧ RF w.heap.size ⟨life, 0, [], 0, [], 0⟩ w' (· = w.heap.size) ∧ Below w.heap.size w w' := by
  have d1 : decide ((life : Int) < 0) = false := by simp
  have d2 : decide ((4096 : Int) < (life : Int)) = false := by simp; omega
  have hok := Lib.hid (fsNew_ok life h)
  clear h
  go_enter Try.func9, Try.ntmps9
  go_wp2
  go_ret2
  refine ⟨rfl, ⟨.slice none 0 0, .slice none 0 0, rfl, fun k hk => by subst hk; simp, hok.out, heap_alloc_new w _, ⟨OwnF.nil _ _ _, fun k hk => by simp [Value.ownBlock] at hk⟩, ⟨OwnF.nil _ _ _, fun k hk => by simp [Value.ownBlock] at hk⟩⟩, (Below.refl _ _).alloc (Nat.le_refl _) _⟩
theorem rfnew_no (life : Int) (w : World) (h : life < 0 ∨ 4096 < life) : Calls Try.prog 9 #[.int .i64 life] w fun e w' => e = .returned (.tuple #[.pointer none, .int .i64 1]) ∧ w = w' := by
  by_cases h1 : life < 0
  · have d1 : decide (life < 0) = true := by simpa using h1
    clear h h1
    go_enter Try.func9, Try.ntmps9
    go_wp2
    go_ret2
    exact ⟨rfl, rfl⟩
  · have d1 : decide (life < 0) = false := by simpa using h1
    have d2 : decide (4096 < life) = true := by simp; omega
    clear h h1
    go_enter Try.func9, Try.ntmps9
    go_wp2
    go_ret2
    exact ⟨rfl, rfl⟩
set_option maxHeartbeats 1000000 in
theorem rflen_any (g : Nat) (s : Fs) (v0 v1 : Value) (d : Int) (w : World) (X : Nat → Prop) (h : RFv g s v0 v1 w X) :
    Calls Try.prog 32 #[.pointer (some ⟨g, 0, none⟩), .int .i64 d] w fun e w' => e = .returned (.int .i64 ((fsLen s d : Nat) : Int)) ∧ w = w' := by
  by_cases h1 : d < 0
  · have d1 : decide (d < 0) = true := by simpa using h1
    have HR : Hid (fsLen s d = 0) := by show _ = _; unfold fsLen; rw [if_neg (by omega), if_neg (by omega)]
    clear h h1
    go_enter Try.func32, Try.ntmps32
    go_wp2
    go_ret
    exact ⟨by rw [HR.out]; rfl, rfl⟩
  by_cases h2 : 1 < d
  · have d1 : decide (d < 0) = false := by simpa using h1
    have d2 : decide (1 < d) = true := by simpa using h2
    have HR : Hid (fsLen s d = 0) := by show _ = _; unfold fsLen; rw [if_neg (by omega), if_neg (by omega)]
    clear h h1 h2
    go_enter Try.func32, Try.ntmps32
    go_wp2
    go_ret
    exact ⟨by rw [HR.out]; rfl, rfl⟩
  obtain ⟨c0, c1, c2, c3, c4, c5, -, hg⟩ := h.cells
  obtain ⟨P0, k0, rfl, hk0, hm0, -⟩ := h.2.2.2.2.1.1.shape
  obtain ⟨P1, k1, rfl, hk1, hm1, -⟩ := h.2.2.2.2.2.1.shape
  have hd : d = 0 ∨ d = 1 := by omega
  clear h h1 h2
  rcases hd with rfl | rfl
  · have HR : Hid (fsLen s 0 = s.l0.length) := rfl
    generalize s.l0.length = r at *
    go_enter Try.func32, Try.ntmps32
    go_wp2
    go_ret
    exact ⟨by rw [HR.out]; rfl, rfl⟩
  · have HR : Hid (fsLen s 1 = s.l1.length) := rfl
    generalize s.l1.length = r at *
    go_enter Try.func32, Try.ntmps32
    go_wp2
    go_ret
    exact ⟨by rw [HR.out]; rfl, rfl⟩
set_option maxHeartbeats 1000000 in
theorem rfsent_any (g : Nat) (s : Fs) (v0 v1 : Value) (d : Int) (w : World) (X : Nat → Prop) (h : RFv g s v0 v1 w X) :
    Calls Try.prog 33 #[.pointer (some ⟨g, 0, none⟩), .int .i64 d] w fun e w' => e = .returned (.int .i64 ((fsSent s d : Nat) : Int)) ∧ w = w' := by
  by_cases h1 : d < 0
  · have d1 : decide (d < 0) = true := by simpa using h1
    have HR : Hid (fsSent s d = 0) := by show _ = _; unfold fsSent; rw [if_neg (by omega), if_neg (by omega)]
    clear h h1
    go_enter Try.func33, Try.ntmps33
    go_wp2
    go_ret
    exact ⟨by rw [HR.out]; rfl, rfl⟩
  by_cases h2 : 1 < d
  · have d1 : decide (d < 0) = false := by simpa using h1
    have d2 : decide (1 < d) = true := by simpa using h2
    have HR : Hid (fsSent s d = 0) := by show _ = _; unfold fsSent; rw [if_neg (by omega), if_neg (by omega)]
    clear h h1 h2
    go_enter Try.func33, Try.ntmps33
    go_wp2
    go_ret
    exact ⟨by rw [HR.out]; rfl, rfl⟩
  obtain ⟨c0, c1, c2, c3, c4, c5, -, hg⟩ := h.cells
  have hd : d = 0 ∨ d = 1 := by omega
  clear h h1 h2
  rcases hd with rfl | rfl
  · have HR : Hid (fsSent s 0 = s.s0) := rfl
    generalize s.s0 = r at *
    go_enter Try.func33, Try.ntmps33
    go_wp2
    go_ret
    exact ⟨by rw [HR.out]; rfl, rfl⟩
  · have HR : Hid (fsSent s 1 = s.s1) := rfl
    generalize s.s1 = r at *
    go_enter Try.func33, Try.ntmps33
    go_wp2
    go_ret
    exact ⟨by rw [HR.out]; rfl, rfl⟩
end Go.Proofs.Ytgppoapdpgblmaa
