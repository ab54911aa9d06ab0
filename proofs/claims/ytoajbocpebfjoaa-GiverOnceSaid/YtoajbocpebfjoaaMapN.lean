/- A map[uint64]uint64 (looked up with 'ok') and a map[uint64]bool that the call itself makes: looked up, written, kept. Nothing of the program's own functions is in here. -/
import Derived.Test.YtoajbocpebfjoaaFresh
import Derived.Maps.Own
import Derived.Maps.OwnOps
import Derived.WalkArith
namespace Go.Proofs.Ytoajbocpebfjoaa
open Go.RowKit Go.Maps
set_option maxRecDepth 20000

theorem keyOf_u64n {c : Nat} (hc : c < 18446744073709551616) : keyOf Try.prog 38 (.int .u64 (c : Int)) = some (.int .u64 (c : Int)) := keyOf_int_mk Try.underlying38 (WalkArith.wf_u64 ⟨by omega, by omega⟩)
/-- block b is a map of at most n keys: T tells what each has -/
def MapO (w : World) (b n : Nat) (T : Nat → Option Nat) : Prop := ∃ D : DataW Unit, w.ownsMap Try.prog 38 (plainElem Try.prog 38) b n D ∧ IsMap D ∧ ∀ c : Nat, c < 18446744073709551616 → ∀ zd, D.atKey (.int .u64 (c : Int)) zd = (match T c with | some i => .lit (.int .u64 (i : Int)) | none => zd)
theorem zero_u64n (w : World) : (zeroValue 38).run Try.prog w = .ok (.int .u64 0) w := by kernel_rfl
theorem MapO.made (w : World) : MapO (w.alloc (.map #[] 0)) w.heap.size 0 (fun _ => none) := ⟨.map [], World.ownsMap_made _ _ _ _, ⟨[], rfl⟩, fun _ _ _ => rfl⟩
theorem MapO.lt {w : World} {b n : Nat} {T : Nat → Option Nat} (h : MapO w b n T) : b < w.heap.size := by
  obtain ⟨D, h1, _⟩ := h
  exact h1.lt
theorem MapO.off {X : Nat → Prop} {w w' : World} {b n : Nat} {T : Nat → Option Nat} (h : MapO w b n T) (o : Off X w w') (hb : ¬ X b) : MapO w' b n T := by
  have hlt := h.lt
  obtain ⟨D, ⟨es, clock, hh, F, hs, hD⟩, h2⟩ := h
  exact ⟨D, ⟨es, clock, (o.block b hlt hb).trans hh, F, hs, hD⟩, h2⟩
/-- 'm[c]' with 'ok' -/
theorem MapO.look {w : World} {b n : Nat} {T : Nat → Option Nat} (h : MapO w b n T) (c : Nat) (hc : c < 18446744073709551616) : (Instr.lookup 62 (.map (some b)) (.int .u64 (c : Int)) true).run Try.prog w = .ok (.tuple #[.int .u64 (((T c).getD 0 : Nat) : Int), .bool (T c).isSome]) w := by
  obtain ⟨D, ⟨es, clock, hb, F, _, rfl⟩, _, h3⟩ := h
  have h4 := h3 c hc
  rcases fit_look true (int_keyed Try.underlying38) Try.underlying62 (zero_u64n w) hb F (keyOf_u64n hc) with ⟨hrun, _, hat⟩ | ⟨e0, y, _, _, hrun, hRv, hat, _⟩
  · cases hT : T c with
    | none => rw [hrun]; rfl
    | some i =>
      have e1 := (hat (.lit (.bool true))).symm.trans (h4 (.lit (.bool true)))
      rw [hT] at e1
      cases e1
  · cases hT : T c with
    | none =>
      have e1 := (hat (.lit (.bool true))).symm.trans (h4 (.lit (.bool true)))
      have e2 := (hat (.lit (.bool false))).symm.trans (h4 (.lit (.bool false)))
      rw [hT] at e1 e2
      have := e1.symm.trans e2
      cases this
    | some i =>
      obtain ⟨x, hx, e, -⟩ := plainElem_int_inv Try.underlying38 hRv
      have e1 := (hat (.lit (.bool true))).symm.trans (h4 (.lit (.bool true)))
      rw [hT] at e1
      rw [e] at e1
      simp only at e1
      injection e1 with e1
      injection e1 with _ e2
      rw [hrun, hx, e2]
      rfl
/-- 'm[c] = v' -/
theorem MapO.put {w : World} {b n : Nat} {T : Nat → Option Nat} (h : MapO w b n T) (hn : n < maxLen) (c v : Nat) (hc : c < 18446744073709551616) (hv : v < 18446744073709551616) : ∃ w', (Instr.mapUpdate 62 (.map (some b)) (.int .u64 (c : Int)) (.int .u64 (v : Int))).run Try.prog w = .ok () w' ∧ MapO w' b (n + 1) (fun j => if j = c then some v else T j) ∧ w.grownBy w' (some b) := by
  obtain ⟨D, h1, h2, h3⟩ := h
  obtain ⟨w', hrun, h4, h5⟩ := h1.update (int_keyed Try.underlying38) Try.underlying62 hn (keyOf_u64n hc) (plainElem_int Try.underlying38 (WalkArith.wf_u64 (n := (v : Int)) ⟨by omega, by omega⟩))
  refine ⟨w', hrun, ⟨_, h4, h2.put _ _, fun j hj zd => ?_⟩, h5⟩
  by_cases e : j = c
  · subst e
    rw [atKey_put_same h2 (by simp [WideAt.IsKeyLit])]
    simp
  · rw [atKey_put_other (fun h => e (by injection h with _ h; omega)), h3 j hj]
    simp [e]
/-- block b is a map of at most n keys: T tells whether each is in it as true -/
def MapB (w : World) (b n : Nat) (T : Nat → Bool) : Prop := ∃ D : DataW Unit, w.ownsMap Try.prog 38 (plainElem Try.prog 4) b n D ∧ IsMap D ∧ ∀ c : Nat, c < 18446744073709551616 → D.atKey (.int .u64 (c : Int)) (.lit (.bool false)) = .lit (.bool (T c))
theorem zero_boolb (w : World) : (zeroValue 4).run Try.prog w = .ok (.bool false) w := by kernel_rfl
theorem plainElem_bool_inv {v : Value} {z : DataW Unit × List MemPlace} (h : plainElem Try.prog 4 v = some z) : ∃ x, v = .bool x ∧ z = (.lit (.bool x), []) := by
  unfold plainElem at h
  rw [Try.underlying4] at h
  cases v <;> simp at h
  exact ⟨_, rfl, h.symm⟩
theorem MapB.made (w : World) : MapB (w.alloc (.map #[] 0)) w.heap.size 0 (fun _ => false) := ⟨.map [], World.ownsMap_made _ _ _ _, ⟨[], rfl⟩, fun _ _ => rfl⟩
theorem MapB.lt {w : World} {b n : Nat} {T : Nat → Bool} (h : MapB w b n T) : b < w.heap.size := by
  obtain ⟨D, h1, _⟩ := h
  exact h1.lt
theorem MapB.off {X : Nat → Prop} {w w' : World} {b n : Nat} {T : Nat → Bool} (h : MapB w b n T) (o : Off X w w') (hb : ¬ X b) : MapB w' b n T := by
  have hlt := h.lt
  obtain ⟨D, ⟨es, clock, hh, F, hs, hD⟩, h2⟩ := h
  exact ⟨D, ⟨es, clock, (o.block b hlt hb).trans hh, F, hs, hD⟩, h2⟩
/-- 'm[c]' -/
theorem MapB.look {w : World} {b n : Nat} {T : Nat → Bool} (h : MapB w b n T) (c : Nat) (hc : c < 18446744073709551616) : (Instr.lookup 63 (.map (some b)) (.int .u64 (c : Int)) false).run Try.prog w = .ok (.bool (T c)) w := by
  obtain ⟨D, h1, _, h3⟩ := h
  obtain ⟨v, ps, hrun, hv⟩ := h1.lookup (int_keyed Try.underlying38) Try.underlying63 (zero_boolb w) (plainElem_bool Try.underlying4 false) (keyOf_u64n hc)
  obtain ⟨x, rfl, e⟩ := plainElem_bool_inv hv
  have e1 := congrArg Prod.fst e
  simp only at e1
  rw [h3 c hc] at e1
  injection e1 with e1
  injection e1 with e1
  rw [hrun, e1]
/-- 'm[c] = true' -/
theorem MapB.put {w : World} {b n : Nat} {T : Nat → Bool} (h : MapB w b n T) (hn : n < maxLen) (c : Nat) (hc : c < 18446744073709551616) : ∃ w', (Instr.mapUpdate 63 (.map (some b)) (.int .u64 (c : Int)) (.bool true)).run Try.prog w = .ok () w' ∧ MapB w' b (n + 1) (fun j => if j = c then true else T j) ∧ w.grownBy w' (some b) := by
  obtain ⟨D, h1, h2, h3⟩ := h
  obtain ⟨w', hrun, h4, h5⟩ := h1.update (int_keyed Try.underlying38) Try.underlying63 hn (keyOf_u64n hc) (plainElem_bool Try.underlying4 true)
  refine ⟨w', hrun, ⟨_, h4, h2.put _ _, fun j hj => ?_⟩, h5⟩
  by_cases e : j = c
  · subst e
    rw [atKey_put_same h2 (by simp [WideAt.IsKeyLit])]
    simp
  · rw [atKey_put_other (fun h => e (by injection h with _ h; omega)), h3 j hj]
    simp [e]
end Go.Proofs.Ytoajbocpebfjoaa
