/- A map[byte]uint64 that the call itself makes, as counts: looked up, written, kept. Nothing of the program's own functions is in here. -/
import Derived.Test.YtpdnpfohcnpenaaFresh
import Derived.Maps.Own
import Derived.Maps.OwnOps
import Derived.WalkArith
namespace Go.Proofs.Ytpdnpfohcnpenaa
open Go.RowKit Go.Maps
set_option maxRecDepth 20000

/-- block b is a map of at most n keys: T tells the counts -/
def MapC (w : World) (b n : Nat) (T : Int → Nat) : Prop := ∃ D : DataW Unit, w.ownsMap Try.prog 5 (plainElem Try.prog 22) b n D ∧ IsMap D ∧ ∀ k : Int, D.atKey (.int .u8 k) (.lit (.int .u64 0)) = .lit (.int .u64 (T k : Int))
theorem zero_u64c (w : World) : (zeroValue 22).run Try.prog w = .ok (.int .u64 0) w := by kernel_rfl
theorem MapC.made (w : World) : MapC (w.alloc (.map #[] 0)) w.heap.size 0 (fun _ => 0) := ⟨.map [], World.ownsMap_made _ _ _ _, ⟨[], rfl⟩, fun _ => rfl⟩
theorem MapC.lt {w : World} {b n : Nat} {T : Int → Nat} (h : MapC w b n T) : b < w.heap.size := by
  obtain ⟨D, h1, _⟩ := h
  exact h1.lt
theorem MapC.off {X : Nat → Prop} {w w' : World} {b n : Nat} {T : Int → Nat} (h : MapC w b n T) (o : Off X w w') (hb : ¬ X b) : MapC w' b n T := by
  have hlt := h.lt
  obtain ⟨D, ⟨es, clock, hh, F, hs, hD⟩, h2⟩ := h
  exact ⟨D, ⟨es, clock, (o.block b hlt hb).trans hh, F, hs, hD⟩, h2⟩
theorem MapC.below {w w' : World} {b n : Nat} {T : Int → Nat} (h : MapC w b n T) (U : Below w.heap.size w w') : MapC w' b n T := h.off (X := fun _ => False) (Off.of_below U) (fun h => h)
/-- 'm[k]' -/
theorem MapC.look {w : World} {b n : Nat} {T : Int → Nat} (h : MapC w b n T) (k : Int) (hk : 0 ≤ k ∧ k ≤ 255) : (Instr.lookup 48 (.map (some b)) (.int .u8 k) false).run Try.prog w = .ok (.int .u64 (T k : Int)) w := by
  obtain ⟨D, h1, _, h3⟩ := h
  obtain ⟨v, ps, hrun, hv⟩ := h1.lookup (int_keyed Try.underlying5) Try.underlying48 (zero_u64c w) (plainElem_int Try.underlying22 (WalkArith.wf_u64 ⟨by omega, by omega⟩)) (keyOf_int_mk Try.underlying5 (WalkArith.wf_u8 hk))
  obtain ⟨x, rfl, e, -⟩ := plainElem_int_inv Try.underlying22 hv
  have e1 := congrArg Prod.fst e
  simp only at e1
  rw [h3 k] at e1
  injection e1 with e1
  injection e1 with e1 e2
  rw [hrun, e2]
/-- 'm[k] = v' -/
theorem MapC.put {w : World} {b n : Nat} {T : Int → Nat} (h : MapC w b n T) (hn : n < maxLen) (k : Int) (hk : 0 ≤ k ∧ k ≤ 255) (v : Nat) (hv : v < 18446744073709551616) : ∃ w', (Instr.mapUpdate 48 (.map (some b)) (.int .u8 k) (.int .u64 (v : Int))).run Try.prog w = .ok () w' ∧ MapC w' b (n + 1) (fun j => if j = k then v else T j) ∧ w.grownBy w' (some b) := by
  obtain ⟨D, h1, h2, h3⟩ := h
  obtain ⟨w', hrun, h4, h5⟩ := h1.update (int_keyed Try.underlying5) Try.underlying48 hn (keyOf_int_mk Try.underlying5 (WalkArith.wf_u8 hk)) (plainElem_int Try.underlying22 (WalkArith.wf_u64 (n := (v : Int)) ⟨by omega, by omega⟩))
  refine ⟨w', hrun, ⟨_, h4, h2.put _ _, fun j => ?_⟩, h5⟩
  by_cases e : j = k
  · subst e
    rw [atKey_put_same h2 (by simp [WideAt.IsKeyLit])]
    simp
  · rw [atKey_put_other (fun h => e (by injection h)), h3 j]
    simp [e]
end Go.Proofs.Ytpdnpfohcnpenaa
