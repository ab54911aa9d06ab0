/- A map[int]bool that the call itself makes, as a set of numbers: looked up, written, kept. Nothing of the program's own functions is in here. -/
import Derived.Test.YtdkebneiikdohaaFresh
import Derived.Maps.Own
import Derived.Maps.OwnOps
import Derived.WalkArith
namespace Go.Proofs.Ytdkebneiikdohaa
open Go.RowKit Go.Maps
set_option maxRecDepth 20000

def I64k (k : Int) : Prop := -9223372036854775808 ≤ k ∧ k ≤ 9223372036854775807
/-- block b is a map of at most n numbers: just those that T tells -/
def SetI (w : World) (b n : Nat) (T : Int → Bool) : Prop := ∃ D : DataW Unit, w.ownsMap Try.prog 3 (plainElem Try.prog 4) b n D ∧ IsMap D ∧ ∀ k : Int, D.atKey (.int .i64 k) (.lit (.bool false)) = .lit (.bool (T k))
theorem zero_bool (w : World) : (zeroValue 4).run Try.prog w = .ok (.bool false) w := by kernel_rfl
theorem wf_of {k : Int} (h : I64k k) : (Lit.int .i64 k).wf = true := WalkArith.wf_i64 ⟨h.1, h.2⟩
theorem plainElem_bool_inv {v : Value} {z : DataW Unit × List MemPlace} (h : plainElem Try.prog 4 v = some z) : ∃ x, v = .bool x ∧ z = (.lit (.bool x), []) := by
  unfold plainElem at h
  rw [Try.underlying4] at h
  cases v <;> simp at h
  exact ⟨_, rfl, h.symm⟩
theorem SetI.made (w : World) : SetI (w.alloc (.map #[] 0)) w.heap.size 0 (fun _ => false) := ⟨.map [], World.ownsMap_made _ _ _ _, ⟨[], rfl⟩, fun _ => rfl⟩
theorem SetI.lt {w : World} {b n : Nat} {T : Int → Bool} (h : SetI w b n T) : b < w.heap.size := by
  obtain ⟨D, h1, _⟩ := h
  exact h1.lt
theorem SetI.off {X : Nat → Prop} {w w' : World} {b n : Nat} {T : Int → Bool} (h : SetI w b n T) (o : Off X w w') (hb : ¬ X b) : SetI w' b n T := by
  have hlt := h.lt
  obtain ⟨D, ⟨es, clock, hh, F, hs, hD⟩, h2⟩ := h
  exact ⟨D, ⟨es, clock, (o.block b hlt hb).trans hh, F, hs, hD⟩, h2⟩
theorem SetI.below {w w' : World} {b n : Nat} {T : Int → Bool} (h : SetI w b n T) (U : Below w.heap.size w w') : SetI w' b n T := h.off (X := fun _ => False) (Off.of_below U) (fun h => h)
/-- 'm[k]' -/
theorem SetI.look {w : World} {b n : Nat} {T : Int → Bool} (h : SetI w b n T) (k : Int) (hk : I64k k) : (Instr.lookup 59 (.map (some b)) (.int .i64 k) false).run Try.prog w = .ok (.bool (T k)) w := by
  obtain ⟨D, h1, _, h3⟩ := h
  obtain ⟨v, ps, hrun, hv⟩ := h1.lookup (int_keyed Try.underlying3) Try.underlying59 (zero_bool w) (plainElem_bool Try.underlying4 false) (keyOf_int_mk Try.underlying3 (wf_of hk))
  obtain ⟨x, rfl, e⟩ := plainElem_bool_inv hv
  have e1 := congrArg Prod.fst e
  simp only at e1
  rw [h3 k] at e1
  injection e1 with e1
  injection e1 with e1
  rw [hrun, e1]
/-- 'm[k] = true' -/
theorem SetI.put {w : World} {b n : Nat} {T : Int → Bool} (h : SetI w b n T) (hn : n < maxLen) (k : Int) (hk : I64k k) : ∃ w', (Instr.mapUpdate 59 (.map (some b)) (.int .i64 k) (.bool true)).run Try.prog w = .ok () w' ∧ SetI w' b (n + 1) (fun j => decide (j = k) || T j) ∧ w.grownBy w' (some b) := by
  obtain ⟨D, h1, h2, h3⟩ := h
  obtain ⟨w', hrun, h4, h5⟩ := h1.update (int_keyed Try.underlying3) Try.underlying59 hn (keyOf_int_mk Try.underlying3 (wf_of hk)) (plainElem_bool Try.underlying4 true)
  refine ⟨w', hrun, ⟨_, h4, h2.put _ _, fun j => ?_⟩, h5⟩
  by_cases e : j = k
  · subst e
    rw [atKey_put_same h2 (by simp [WideAt.IsKeyLit])]
    simp
  · rw [atKey_put_other (fun h => e (by injection h)), h3 j]
    simp [e]
end Go.Proofs.Ytdkebneiikdohaa
