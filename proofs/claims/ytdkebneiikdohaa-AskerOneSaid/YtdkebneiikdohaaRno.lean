/- The document's own source of numbers (kedgeref26) as an object: New, Next; its First, Same. -/
import Derived.Test.YtdkebneiikdohaaUntV
import Derived.Deep.RegionHeld3
import Derived.Deep.RegionLaw
import Derived.IntWalk
namespace Go.Proofs.Ytdkebneiikdohaa
open Go.RowKit
set_option maxRecDepth 20000

/-- the i'th number that is drawn -/
def nx (l : List Nat) (i : Nat) : Nat := if i < l.length then l.getD i 0 else 9223372036854775808 + (i - l.length)
def drawn (l : List Nat) (k : Nat) : List Nat := (List.range k).map (nx l)
theorem drawn_len (l : List Nat) (k : Nat) : (drawn l k).length = k := by simp [drawn]
theorem drawn_succ (l : List Nat) (k : Nat) : drawn l (k + 1) = drawn l k ++ [nx l k] := by simp [drawn, List.range_succ]
theorem row2u {w : World} {g : Nat} {t : TypeId} {a b : Value} (h : w.heap[g]? = some (.cells #[a, b] t (0, 0))) :
    w.cell? ⟨g, 0, none⟩ = some a ∧ w.cell? ⟨g, 1, none⟩ = some b ∧ w.frozen? ⟨g, 0, none⟩ = false ∧ w.frozen? ⟨g, 1, none⟩ = false :=
  ⟨cell_of_row _ _ _ _ _ _ h, cell_of_row _ _ _ _ _ _ h, frozen_of_row w _ _ _ _ h, frozen_of_row w _ _ _ _ h⟩
/-- the first number that is the same as one ahead of it -/
def Dup (l : List Nat) (r : Nat × Nat × Bool) : Prop :=
  (∃ k i, r = (k, i, true) ∧ k < i ∧ i < l.length ∧ l.getD k 0 = l.getD i 0 ∧ (∀ a b, a < b → b < i → l.getD a 0 ≠ l.getD b 0) ∧ ∀ a, a < k → l.getD a 0 ≠ l.getD i 0) ∨
  (r = (0, 0, false) ∧ ∀ a b, a < b → b < l.length → l.getD a 0 ≠ l.getD b 0)
theorem Dup.unique {l : List Nat} {r r' : Nat × Nat × Bool} (h : Dup l r) (h' : Dup l r') : r = r' := by
  rcases h with ⟨k, i, rfl, h1, h2, h3, h4, h5⟩ | ⟨rfl, h1⟩
  · rcases h' with ⟨k', i', rfl, j1, j2, j3, j4, j5⟩ | ⟨rfl, j1⟩
    · have e : i = i' := by
        rcases Nat.lt_trichotomy i i' with h | h | h
        · exact absurd h3 (j4 k i h1 h)
        · exact h
        · exact absurd j3 (h4 k' i' j1 h)
      subst e
      have e : k = k' := by
        rcases Nat.lt_trichotomy k k' with h | h | h
        · exact absurd h3 (j5 k h)
        · exact h
        · exact absurd j3 (h5 k' h)
      subst e
      rfl
    · exact absurd h3 (j1 k i h1 h2)
  · rcases h' with ⟨k', i', rfl, j1, j2, j3, j4, j5⟩ | ⟨rfl, j1⟩
    · exact absurd j3 (h1 k' i' j1 j2)
    · rfl
def GivesDup (w : World) (l : List Nat) (e : Ending) (w' : World) : Prop := (∃ k i t, e = .returned (.tuple #[.int .i64 ((k : Nat) : Int), .int .i64 ((i : Nat) : Int), .bool t]) ∧ Dup l (k, i, t)) ∧ Below w.heap.size w w'
end Go.Proofs.Ytdkebneiikdohaa
