/- A scope in which the run jumps to labels, several of them: what holds at each jump ('J'), and a measure that every pass lowers. Nothing of the program is in here. -/
import Derived.Test.YtoajbocpebfjoaaBase
import Derived.Scope
import Derived.WalkMore
namespace Go.Proofs.Ytoajbocpebfjoaa
open Go.RowKit
set_option maxRecDepth 20000

/-- As Q; by a goto to label l: J l. -/
def Jumps (J : Nat → Act → World → Prop) (Q : Exit → Act → World → Prop) : Exit → Act → World → Prop
  | .goto l, a, w => J l a w
  | e, a, w => Q e a w
theorem Jumps.ret {J Q} {a : Act} {w : World} : Jumps J Q .ret a w = Q .ret a w := rfl
theorem Jumps.other {J Q} {e : Exit} {a : Act} {w : World} (he : ∀ l, e ≠ .goto l) (h : Jumps J Q e a w) : Q e a w := by
  cases e <;> first | exact h | exact absurd rfl (he _)

/-- whoever leaves a scope, but by a goto, leaves it for what stands behind it -/
theorem leave_scope {P : Program} {f : Machine} {b : Frame} {k : List Item} {cs : List Frame} {c : Code} {e : Exit} {a : Act} {w : World} (he : ∀ l, e ≠ .goto l)
    (h : Arrives P f b (.inScope c :: k) cs e a w) : Arrives P f b k cs e a w := by
  cases e
  case normal => exact Steps.trans h (.one step_inScope)
  case exit => exact fun r hr => h r (by simpa [exitTo] using hr)
  case goto l => exact absurd rfl (he l)
  all_goals exact h
/-- where the run goes on behind a jump out of a scope's code -/
theorem jump_back {c rest : Code} {l : Nat} (h : findLabel c l = some rest) (k : List Item) : gotoIn l (.inScope c :: k) = some (.code rest :: .inScope c :: k) := by
  unfold gotoIn
  rw [h]

theorem wp_scope_labels {P : Program} {a : Act} {w : World} {Q : Exit → Act → World → Prop} {c : Code} (J : Nat → Act → World → Prop) (μ : Act → World → Nat)
    (first : c.wp P (Jumps J Q) a w)
    (pass : ∀ l a w, J l a w → ∃ rest, findLabel c l = some rest ∧ rest.wp P (Jumps (fun l' a' w' => J l' a' w' ∧ μ a' w' < μ a w) Q) a w) : (Code.scope c).wp P Q a w := by
  intro b k cs
  -- from any jump on, by the measure
  have after : ∀ n l a w, μ a w < n → J l a w → ∃ rest, findLabel c l = some rest ∧ ∃ e a' w', Q e a' w' ∧ Arrives P (lone (b.at a (.code rest :: .inScope c :: k)) cs w) b k cs e a' w' := by
    intro n
    induction n with
    | zero => exact fun l a w h => absurd h (Nat.not_lt_zero _)
    | succ n ih =>
      intro l a w hn hJ
      obtain ⟨rest, hr, hp⟩ := pass l a w hJ
      obtain ⟨e, a1, w1, hq, way⟩ := hp b (.inScope c :: k) cs
      refine ⟨rest, hr, ?_⟩
      by_cases he : ∃ l1, e = .goto l1
      · obtain ⟨l1, rfl⟩ := he
        obtain ⟨rest1, hr1, e2, a2, w2, hq2, way2⟩ := ih l1 a1 w1 (by have := hq.2; omega) hq.1
        exact ⟨e2, a2, w2, hq2, .of_steps (way _ (jump_back hr1 k)) way2⟩
      · have he : ∀ l, e ≠ .goto l := fun l h => he ⟨l, h⟩
        exact ⟨e, a1, w1, Jumps.other he hq, leave_scope he way⟩
  obtain ⟨e, a1, w1, hq, way⟩ := first b (.inScope c :: k) cs
  by_cases he : ∃ l1, e = .goto l1
  · obtain ⟨l1, rfl⟩ := he
    obtain ⟨rest1, hr1, e2, a2, w2, hq2, way2⟩ := after (μ a1 w1 + 1) l1 a1 w1 (Nat.lt_succ_self _) hq
    exact ⟨e2, a2, w2, hq2, .of_steps (.one step_scope) (.of_steps (way _ (jump_back hr1 k)) way2)⟩
  · have he : ∀ l, e ≠ .goto l := fun l h => he ⟨l, h⟩
    exact ⟨e, a1, w1, Jumps.other he hq, .of_steps (.one step_scope) (leave_scope he way)⟩
end Go.Proofs.Ytoajbocpebfjoaa
