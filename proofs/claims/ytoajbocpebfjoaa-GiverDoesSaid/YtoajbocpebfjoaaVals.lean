/- A slice value that reads as a list of values of one cell each (bools, numbers). Nothing of the program's own functions is in here. -/
import Derived.Test.YtoajbocpebfjoaaWords
namespace Go.Proofs.Ytoajbocpebfjoaa
open Go.RowKit
set_option maxRecDepth 20000

/-- The slice '.slice A n c' reads as the values vs. -/
def Vals (w : World) (A : Option Addr) (n c : Nat) (vs : List Value) : Prop :=
  vs.length = n ∧ n ≤ c ∧ c ≤ maxLen ∧ (0 < n → ∃ b o, A = some ⟨b, o, none⟩ ∧ b < w.heap.size ∧ ∀ j (h : j < vs.length), w.cell? ⟨b, o + j, none⟩ = some vs[j])
section
variable {w w' : World} {A : Option Addr} {n c : Nat} {vs : List Value}
theorem Vals.len (h : Vals w A n c vs) : vs.length = n := h.1
theorem Vals.le (h : Vals w A n c vs) : n ≤ c := h.2.1
theorem Vals.cap (h : Vals w A n c vs) : c ≤ 9223372036854775807 := h.2.2.1
theorem Vals.at_ (h : Vals w A n c vs) (hn : 0 < n) : ∃ b o, A = some ⟨b, o, none⟩ ∧ b < w.heap.size ∧ ∀ j (h : j < vs.length), w.cell? ⟨b, o + j, none⟩ = some vs[j] := h.2.2.2 hn
theorem Vals.below (h : Vals w A n c vs) (hb : Below w.heap.size w w') : Vals w' A n c vs :=
  ⟨h.1, h.2.1, h.2.2.1, fun hn => by
    obtain ⟨b, o, e, hlt, hc⟩ := h.2.2.2 hn
    exact ⟨b, o, e, by have := hb.size; omega, fun j hj => (hb.cell (p := ⟨b, o + j, none⟩) hlt).trans (hc j hj)⟩⟩
theorem Vals.alloc (h : Vals w A n c vs) (o : Obj) : Vals (w.alloc o) A n c vs := h.below ((Below.refl _ _).alloc (Nat.le_refl _) _)
theorem Vals.of_own {base : Nat} {e : TypeId} (h : w.ownsRow base e 1 (.slice A n c) n vs) : Vals w A n c vs := by
  have hl : vs.length = n := by have := h.1; simpa using this
  rcases h.2 with ⟨hv, hn⟩ | ⟨g, cap, cur, hv, hg, hh, hnc, hcm, hcs, ht⟩
  · injection hv with h1 h2 h3
    subst h1; subst h3; subst hn
    exact ⟨hl, Nat.le_refl _, Nat.zero_le _, fun h => absurd h (by omega)⟩
  · injection hv with h1 h2 h3
    subst h1; subst h3
    refine ⟨hl, hnc, hcm, fun hn => ⟨g, 0, rfl, (h.lt g rfl).2, fun j hj => ?_⟩⟩
    rw [Nat.zero_add, h.cellAt j (by omega), List.getElem?_eq_getElem hj]
end
/-- A call's end that makes a slice of such values. -/
def GivesV (w : World) (vs : List Value) (e : Ending) (w' : World) : Prop := ∃ A c, e = .returned (.slice A vs.length c) ∧ Vals w' A vs.length c vs ∧ Below w.heap.size w w'
end Go.Proofs.Ytoajbocpebfjoaa
