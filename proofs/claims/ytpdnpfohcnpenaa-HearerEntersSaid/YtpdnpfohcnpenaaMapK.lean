/- A map whose key is a struct of a number and a text, as package tally keeps it: looked up (with 'ok'), written, kept. -/
import Derived.Test.YtpdnpfohcnpenaaFresh
import Derived.Maps.Own
import Derived.Maps.OwnOps
import Derived.WalkArith
import Derived.DeepKeys5
namespace Go.Proofs.Ytpdnpfohcnpenaa
open Go.RowKit Go.Maps
set_option maxRecDepth 20000

/-- a key as a value -/
def kv (a : Int) (t : List UInt8) : Value := .agg #[.int .i64 a, .string ⟨t.toArray⟩]
theorem laidOutK : laidOutB Try.prog = true := by kernel_rfl
theorem keyedK : Keyed Try.prog 111 := Keyed.of_law (deep_law_gate laidOutK (of_decide_eq_true (by kernel_rfl)) (of_decide_eq_true (by kernel_rfl)) (by kernel_rfl) (by kernel_rfl))
def I64m (a : Int) : Prop := -9223372036854775808 ≤ a ∧ a ≤ 9223372036854775807
def kl (a : Int) (t : List UInt8) : Lit := .string (keyBytes [.int .i64 a, .string t])
theorem keyOf_kv (a : Int) (t : List UInt8) (ha : I64m a) (ht : t.length ≤ maxLen) : keyOf Try.prog 111 (kv a t) = some (kl a t) := by
  have h1 : Try.prog.keyType 111 = true := by kernel_rfl
  have c2 : Try.prog.cellsOf 111 = 2 := by kernel_rfl
  have c0 : Try.prog.cellsOf 3 = 1 := by kernel_rfl
  have c1 : Try.prog.cellsOf 9 = 1 := by kernel_rfl
  have hw : (Lit.int .i64 a).wf = true := WalkArith.wf_i64 ha
  have hs : (ByteArray.mk t.toArray).size ≤ maxLen := by show t.toArray.size ≤ maxLen; simpa using ht
  obtain ⟨m, hm⟩ : ∃ m, Try.prog.types.size = m + 1 := ⟨Try.prog.types.size - 1, by have : 0 < Try.prog.types.size := of_decide_eq_true (by kernel_rfl); omega⟩
  have h2 : (kv a t).formed Try.prog 111 = true := by
    unfold kv Value.formed
    simp only [Try.underlying111]
    rw [c2]
    rfl
  unfold keyOf
  simp only [Try.underlying111]
  rw [h1, h2, hm]
  unfold Program.keyLits
  simp only [Try.underlying111, kv, Value.cells]
  rw [c2]
  simp [Program.keyLits, Try.underlying3, Try.underlying9, c0, c1, hw, hs, kl]
theorem kl_inj {a b : Int} {t u : List UInt8} (ha : I64m a) (ht : t.length ≤ maxLen) (hb : I64m b) (hu : u.length ≤ maxLen) (h : kl a t = kl b u) : a = b ∧ t = u := by
  have h1 := keyOf_kv a t ha ht
  have h2 := keyOf_kv b u hb hu
  rw [h] at h1
  have h3 := keyedK.inj h1 h2
  unfold kv at h3
  simp at h3
  exact h3
/-- block b is a map of at most n keys: T tells where each stands -/
def MapK (w : World) (b n : Nat) (T : Int → List UInt8 → Option Nat) : Prop := ∃ D : DataW Unit, w.ownsMap Try.prog 111 (plainElem Try.prog 3) b n D ∧ IsMap D ∧ ∀ a t, I64m a → t.length ≤ maxLen → ∀ zd, D.atKey (kl a t) zd = (match T a t with | some i => .lit (.int .i64 (i : Int)) | none => zd)
theorem zero_i64k (w : World) : (zeroValue 3).run Try.prog w = .ok (.int .i64 0) w := by kernel_rfl
theorem MapK.made (w : World) : MapK (w.alloc (.map #[] 0)) w.heap.size 0 (fun _ _ => none) := ⟨.map [], World.ownsMap_made _ _ _ _, ⟨[], rfl⟩, fun _ _ _ _ _ => rfl⟩
theorem MapK.lt {w : World} {b n : Nat} {T : Int → List UInt8 → Option Nat} (h : MapK w b n T) : b < w.heap.size := by
  obtain ⟨D, h1, _⟩ := h
  exact h1.lt
theorem MapK.off {X : Nat → Prop} {w w' : World} {b n : Nat} {T : Int → List UInt8 → Option Nat} (h : MapK w b n T) (o : Off X w w') (hb : ¬ X b) : MapK w' b n T := by
  have hlt := h.lt
  obtain ⟨D, ⟨es, clock, hh, F, hs, hD⟩, h2⟩ := h
  exact ⟨D, ⟨es, clock, (o.block b hlt hb).trans hh, F, hs, hD⟩, h2⟩
theorem MapK.below {w w' : World} {b n : Nat} {T : Int → List UInt8 → Option Nat} (h : MapK w b n T) (U : Below w.heap.size w w') : MapK w' b n T := h.off (X := fun _ => False) (Off.of_below U) (fun h => h)
/-- 'm[k]' with 'ok' -/
theorem MapK.look {w : World} {b n : Nat} {T : Int → List UInt8 → Option Nat} (h : MapK w b n T) (a : Int) (t : List UInt8) (ha : I64m a) (ht : t.length ≤ maxLen) : (Instr.lookup 92 (.map (some b)) (kv a t) true).run Try.prog w = .ok (.tuple #[.int .i64 (((T a t).getD 0 : Nat) : Int), .bool (T a t).isSome]) w := by
  obtain ⟨D, ⟨es, clock, hb, F, _, rfl⟩, _, h3⟩ := h
  have h4 := h3 a t ha ht
  rcases fit_look true keyedK Try.underlying92 (zero_i64k w) hb F (keyOf_kv a t ha ht) with ⟨hrun, _, hat⟩ | ⟨e0, y, _, _, hrun, hRv, hat, _⟩
  · cases hT : T a t with
    | none => rw [hrun]; rfl
    | some i =>
      have e1 := (hat (.lit (.bool true))).symm.trans (h4 (.lit (.bool true)))
      rw [hT] at e1
      cases e1
  · cases hT : T a t with
    | none =>
      have e1 := (hat (.lit (.bool true))).symm.trans (h4 (.lit (.bool true)))
      have e2 := (hat (.lit (.bool false))).symm.trans (h4 (.lit (.bool false)))
      rw [hT] at e1 e2
      have := e1.symm.trans e2
      cases this
    | some i =>
      obtain ⟨x, hx, e, -⟩ := plainElem_int_inv Try.underlying3 hRv
      have e1 := (hat (.lit (.bool true))).symm.trans (h4 (.lit (.bool true)))
      rw [hT] at e1
      rw [e] at e1
      simp only at e1
      injection e1 with e1
      injection e1 with _ e2
      rw [hrun, hx, e2]
      rfl
/-- 'm[k] = i' -/
theorem MapK.put {w : World} {b n : Nat} {T : Int → List UInt8 → Option Nat} (h : MapK w b n T) (hn : n < maxLen) (a : Int) (t : List UInt8) (ha : I64m a) (ht : t.length ≤ maxLen) (v : Nat) (hv : (v : Int) ≤ 9223372036854775807) : ∃ w', (Instr.mapUpdate 92 (.map (some b)) (kv a t) (.int .i64 (v : Int))).run Try.prog w = .ok () w' ∧ MapK w' b (n + 1) (fun c u => if c = a ∧ u = t then some v else T c u) ∧ w.grownBy w' (some b) := by
  obtain ⟨D, h1, h2, h3⟩ := h
  obtain ⟨w', hrun, h4, h5⟩ := h1.update keyedK Try.underlying92 hn (keyOf_kv a t ha ht) (plainElem_int Try.underlying3 (WalkArith.wf_i64 (n := (v : Int)) ⟨by omega, hv⟩))
  refine ⟨w', hrun, ⟨_, h4, h2.put _ _, fun c u hc hu zd => ?_⟩, h5⟩
  by_cases e : c = a ∧ u = t
  · obtain ⟨rfl, rfl⟩ := e
    rw [atKey_put_same h2 (keyedK.key (keyOf_kv c u hc hu))]
    simp
  · rw [atKey_put_other (fun h => e (kl_inj hc hu ha ht h)), h3 c u hc hu]
    simp [e]
end Go.Proofs.Ytpdnpfohcnpenaa
