/- Counts of open questions, in plain words; what kedgeref17 answers. -/
import Derived.Test.YtpdnpfohcnpenaaResC
namespace Go.Proofs.Ytpdnpfohcnpenaa
open Go.RowKit
set_option maxRecDepth 20000

def ldS (o : Nat) : Bool := decide (o = 18446744073709551615)
def ldAsk (o : Nat) : Nat := if ldS o then o else o + 1
def ldCan (o : Nat) : Bool := decide (o ≠ 18446744073709551615 ∧ o ≠ 0)
def ldHear (o : Nat) : Nat := if ldCan o then o - 1 else o
def ldMark (o k : Nat) : Nat := if ldS o then k else o
def ldEnough (o k m : Nat) : Bool := decide (o ≠ 18446744073709551615 ∧ k < m)
theorem ldAsk_lt {o : Nat} (h : o < 18446744073709551616) : ldAsk o < 18446744073709551616 := by
  unfold ldAsk ldS
  split
  · exact h
  · rename_i h2
    simp at h2
    omega
theorem ldHear_lt {o : Nat} (h : o < 18446744073709551616) : ldHear o < 18446744073709551616 := by unfold ldHear; split <;> omega
theorem ldMark_lt {o k : Nat} (h : o < 18446744073709551616) (h2 : k < 18446744073709551616) : ldMark o k < 18446744073709551616 := by unfold ldMark; split <;> omega
theorem ldEnough_self (o k : Nat) : ldEnough o k k = false := by simp [ldEnough]
/-- the document's own ledger, at block g -/
def LRow (w : World) (g o k : Nat) : Prop := w.heap[g]? = some (.cells #[.int .u64 (o : Int), .int .u64 (k : Int), .bool (ldS o)] 82 (0, 0))
theorem LRow.off {w w' : World} {g o k : Nat} {X : Nat → Prop} (h : LRow w g o k) (T : Off X w w') (hx : ¬ X g) : LRow w' g o k := (T.block g (lt_row h) hx).trans h
theorem LRow.below {w w' : World} {g o k : Nat} (h : LRow w g o k) (T : Below w.heap.size w w') : LRow w' g o k := (T.block g (lt_row h)).trans h
theorem rlnew_any (o : Nat) (w : World) :
    Calls Try.prog 27 #[.int .u64 (o : Int)] w fun e w' => e = .returned (.pointer (some ⟨w.heap.size, 0, none⟩)) ∧ LRow w' w.heap.size o o ∧ Below w.heap.size w w' := by
  have hs : ((o : Int) == 18446744073709551615) = ldS o := by unfold ldS; rw [Bool.eq_iff_iff]; simp; omega
  generalize hb : ldS o = b at *
  go_enter Try.func27, Try.ntmps27
  go_wp2
  go_ret
  exact ⟨rfl, by unfold LRow; rw [hb]; exact heap_alloc_new w _, (Below.refl _ _).alloc (Nat.le_refl _) _⟩
set_option maxHeartbeats 2000000 in
theorem rlask_any (g o k : Nat) (w : World) (ho : o < 18446744073709551616) (h : LRow w g o k) :
    Calls Try.prog 31 #[.pointer (some ⟨g, 0, none⟩)] w fun e w' => e = .returned (.bool (!ldS o)) ∧ LRow w' g (ldAsk o) k ∧ Off (· = g) w w' := by
  have HR := Lib.hid h
  unfold LRow at h
  obtain ⟨c0, c1, c2, f0, f1, f2⟩ := row3 h
  have h0 := Lib.hid h
  clear h
  by_cases h1 : o = 18446744073709551615
  · have e : ldS o = true := by unfold ldS; simpa using h1
    have ea : ldAsk o = o := by unfold ldAsk; rw [e]; rfl
    rw [ea]
    rw [e] at c2 ⊢
    clear h1
    go_enter Try.func31, Try.ntmps31
    go_wp2
    go_ret
    exact ⟨rfl, HR.out, Off.refl _ _⟩
  · have e : ldS o = false := by unfold ldS; simpa using h1
    have ea : ldAsk o = o + 1 := by unfold ldAsk; rw [e]; rfl
    rw [ea]
    rw [e] at c2 ⊢
    have h00 := h0.out
    rw [e] at h00
    have h0 := Lib.hid h00
    clear h00
    by_cases h2 : o = 18446744073709551614
    · subst h2
      go_enter Try.func31, Try.ntmps31
      go_wp2
      go_ret
      exact ⟨rfl, heap_setCell_same _ _ _ _ _ _ (heap_setCell_same _ _ _ _ _ _ h0.out), ((Off.refl (· = g) w).setCell (p := ⟨g, 0, none⟩) (.inl rfl) _).setCell (p := ⟨g, 2, none⟩) (.inl rfl) _⟩
    · have e2 : ((o : Int) + 1 == 18446744073709551615) = false := by simp; omega
      have hw : IntKind.u64.wrap ((o : Int) + 1) = (o : Int) + 1 := IntWalk.u64_in _ (by omega)
      have es : ldS (o + 1) = false := by unfold ldS; simp; omega
      have hE := Lib.hid es
      clear h1 h2 es
      go_enter Try.func31, Try.ntmps31
      go_wp2
      go_ret
      exact ⟨rfl, by unfold LRow; rw [hE.out]; exact heap_setCell_same _ _ _ _ _ _ h0.out, (Off.refl (· = g) w).setCell (p := ⟨g, 0, none⟩) (.inl rfl) _⟩
set_option maxHeartbeats 2000000 in
theorem rlhear_any (g o k : Nat) (w : World) (ho : o < 18446744073709551616) (h : LRow w g o k) :
    Calls Try.prog 33 #[.pointer (some ⟨g, 0, none⟩)] w fun e w' => e = .returned (.bool (ldCan o)) ∧ LRow w' g (ldHear o) k ∧ Off (· = g) w w' := by
  have HR := Lib.hid h
  unfold LRow at h
  obtain ⟨c0, c1, c2, f0, f1, f2⟩ := row3 h
  have h0 := Lib.hid h
  clear h
  by_cases h1 : o = 18446744073709551615
  · have e : ldS o = true := by unfold ldS; simpa using h1
    have ec : ldCan o = false := by unfold ldCan; simp [h1]
    have ea : ldHear o = o := by unfold ldHear; rw [ec]; rfl
    rw [ea, ec]
    rw [e] at c2
    clear h1
    go_enter Try.func33, Try.ntmps33
    go_wp2
    go_ret
    exact ⟨rfl, HR.out, Off.refl _ _⟩
  · have e : ldS o = false := by unfold ldS; simpa using h1
    by_cases h2 : o = 0
    · subst h2
      have ec : ldCan 0 = false := rfl
      have ea : ldHear 0 = 0 := rfl
      rw [ea, ec]
      rw [e] at c2
      go_enter Try.func33, Try.ntmps33
      go_wp2
      go_ret
      exact ⟨rfl, HR.out, Off.refl _ _⟩
    · have ec : ldCan o = true := by unfold ldCan; simp; omega
      have ea : ldHear o = o - 1 := by unfold ldHear; rw [ec]; rfl
      have es : ldS (o - 1) = false := by unfold ldS; simp; omega
      obtain ⟨p, rfl⟩ : ∃ p, o = p + 1 := ⟨o - 1, by omega⟩
      rw [ea, ec]
      rw [e] at c2
      have h00 := h0.out
      rw [e] at h00
      have h0 := Lib.hid h00
      clear h00
      have e0 : (((p + 1 : Nat) : Int) == 0) = false := by simp; omega
      have hw : IntKind.u64.wrap (((p + 1 : Nat) : Int) - 1) = (p : Int) := by rw [IntWalk.u64_in _ (by omega)]; omega
      have hE := Lib.hid es
      clear h1 h2 es ea ec
      go_enter Try.func33, Try.ntmps33
      go_wp2
      go_ret
      refine ⟨rfl, ?_, (Off.refl (· = g) w).setCell (p := ⟨g, 0, none⟩) (.inl rfl) _⟩
      have hh := heap_setCell_same _ _ 0 _ _ (.int .u64 (p : Int)) h0.out
      unfold LRow
      rw [hE.out]
      simpa using hh
set_option maxHeartbeats 2000000 in
theorem rlset_any (g o k : Nat) (w : World) (_ho : o < 18446744073709551616) (h : LRow w g o k) :
    Calls Try.prog 53 #[.pointer (some ⟨g, 0, none⟩)] w fun e w' => e = .returned (.tuple #[]) ∧ LRow w' g o (ldMark o k) ∧ Off (· = g) w w' := by
  have HR := Lib.hid h
  unfold LRow at h
  obtain ⟨c0, c1, c2, f0, f1, f2⟩ := row3 h
  have h0 := Lib.hid h
  clear h
  cases e : ldS o with
  | true =>
    have ea : ldMark o k = k := by unfold ldMark; rw [e]; rfl
    rw [ea]
    rw [e] at c2
    go_enter Try.func53, Try.ntmps53
    go_wp2
    go_end0
    exact ⟨rfl, HR.out, Off.refl _ _⟩
  | false =>
    have ea : ldMark o k = o := by unfold ldMark; rw [e]; rfl
    rw [ea]
    rw [e] at c2
    go_enter Try.func53, Try.ntmps53
    go_wp2
    go_end0
    exact ⟨rfl, heap_setCell_same _ _ _ _ _ _ h0.out, (Off.refl (· = g) w).setCell (p := ⟨g, 1, none⟩) (.inl rfl) _⟩
set_option maxHeartbeats 2000000 in
theorem rlenough_any (g o k m : Nat) (w : World) (h : LRow w g o k) :
    Calls Try.prog 51 #[.pointer (some ⟨g, 0, none⟩), .int .u64 (m : Int)] w fun e w' => e = .returned (.bool (ldEnough o k m)) ∧ w = w' := by
  unfold LRow at h
  obtain ⟨c0, c1, c2, f0, f1, f2⟩ := row3 h
  clear h
  cases e : ldS o with
  | true =>
    have h1 : o = 18446744073709551615 := by unfold ldS at e; simpa using e
    have er : ldEnough o k m = false := by unfold ldEnough; simp [h1]
    rw [er]
    rw [e] at c2
    clear h1
    go_enter Try.func51, Try.ntmps51
    go_wp2
    go_ret
    exact ⟨rfl, rfl⟩
  | false =>
    have h1 : o ≠ 18446744073709551615 := by unfold ldS at e; simpa using e
    rw [e] at c2
    by_cases h2 : k < m
    · have er : ldEnough o k m = true := by unfold ldEnough; simp [h1, h2]
      have d1 : decide ((k : Int) < (m : Int)) = true := by simp; omega
      have d1n : decide (k < m) = true := by simpa using h2
      rw [er]
      clear h1 h2
      go_enter Try.func51, Try.ntmps51
      go_wp2
      go_ret
      exact ⟨by first | rfl | (rw [← d1n]; rfl), rfl⟩
    · have er : ldEnough o k m = false := by unfold ldEnough; simp [h2]
      have d1 : decide ((k : Int) < (m : Int)) = false := by simp; omega
      have d1n : decide (k < m) = false := by simpa using h2
      rw [er]
      clear h1 h2
      go_enter Try.func51, Try.ntmps51
      go_wp2
      go_ret
      exact ⟨by first | rfl | (rw [← d1n]; rfl), rfl⟩
end Go.Proofs.Ytpdnpfohcnpenaa
