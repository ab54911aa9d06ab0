/- A map[int][]byte (a number to a text) that the call itself makes: looked up with 'ok', written, deleted from, its keys. Nothing of the program's own functions is in here. -/
import Derived.Test.YtpidbgnlehikeaaFresh
import Derived.Maps.Own
import Derived.Maps.OwnSet
import Derived.Maps.Views
import Derived.Lib.SlKeysI
import Derived.WalkArith
namespace Go.Proofs.Ytpidbgnlehikeaa
open Go.RowKit Go.Maps
set_option maxRecDepth 20000

/-- an element stands as itself -/
def rdS (v : Value) : Option (DataW Value × List MemPlace) := some (.held v, [])
/-- block b is a map: T tells what each key has -/
def MapS (w : World) (b : Nat) (T : Int → Option Value) : Prop := ∃ D : DataW Value, w.ownsMap Try.prog 3 rdS b (Maps.size D) D ∧ IsMap D ∧ ∀ (k : Int) zd, D.atKey (.int .i64 k) zd = (match T k with | some v => .held v | none => zd)
theorem size_tightS {P : Program} {k : TypeId} {R : Value → Option (DataW Value × List MemPlace)} {w : World} {b n : Nat} {D : DataW Value} (h : w.ownsMap P k R b n D) : w.ownsMap P k R b (Maps.size D) D := by
  obtain ⟨es, clock, hb, F, hs, rfl⟩ := h
  refine ⟨es, clock, hb, F, ?_, rfl⟩
  simp [Maps.size, length_sorted]
theorem zero_bs (w : World) : (zeroValue 36).run Try.prog w = .ok (.slice none 0 0) w := by kernel_rfl
def I64s (k : Int) : Prop := -9223372036854775808 ≤ k ∧ k ≤ 9223372036854775807
theorem keyOf_is {k : Int} (hk : I64s k) : keyOf Try.prog 3 (.int .i64 k) = some (.int .i64 k) := keyOf_int_mk Try.underlying3 (WalkArith.wf_i64 hk)
theorem MapS.made (w : World) : MapS (w.alloc (.map #[] 0)) w.heap.size (fun _ => none) := ⟨.map [], size_tightS (World.ownsMap_made _ _ _ _), ⟨[], rfl⟩, fun _ _ => rfl⟩
theorem MapS.lt {w : World} {b : Nat} {T : Int → Option Value} (h : MapS w b T) : b < w.heap.size := by
  obtain ⟨D, h1, _⟩ := h
  exact h1.lt
theorem MapS.off {X : Nat → Prop} {w w' : World} {b : Nat} {T : Int → Option Value} (h : MapS w b T) (o : Off X w w') (hb : ¬ X b) : MapS w' b T := by
  have hlt := h.lt
  obtain ⟨D, ⟨es, clock, hh, F, hs, hD⟩, h2⟩ := h
  exact ⟨D, ⟨es, clock, (o.block b hlt hb).trans hh, F, hs, hD⟩, h2⟩
/-- 'v, ok := m[k]' -/
theorem MapS.look {w : World} {b : Nat} {T : Int → Option Value} (h : MapS w b T) (k : Int) (hk : I64s k) : (Instr.lookup 71 (.map (some b)) (.int .i64 k) true).run Try.prog w = .ok (.tuple #[(T k).getD (.slice none 0 0), .bool (T k).isSome]) w := by
  obtain ⟨D, ⟨es, clock, hb, F, _, rfl⟩, _, h3⟩ := h
  have h4 := h3 k
  rcases fit_look true (int_keyed Try.underlying3) Try.underlying71 (zero_bs w) hb F (keyOf_is hk) with ⟨hrun, _, hat⟩ | ⟨e0, y, _, _, hrun, hRv, hat, _⟩
  · cases hT : T k with
    | none => rw [hrun]; rfl
    | some p =>
      have e1 := (hat (.lit (.bool true))).symm.trans (h4 (.lit (.bool true)))
      rw [hT] at e1
      cases e1
  · cases hT : T k with
    | none =>
      have e1 := (hat (.lit (.bool true))).symm.trans (h4 (.lit (.bool true)))
      have e2 := (hat (.lit (.bool false))).symm.trans (h4 (.lit (.bool false)))
      rw [hT] at e1 e2
      have := e1.symm.trans e2
      cases this
    | some p =>
      unfold rdS at hRv
      injection hRv with hRv
      have e1 := (hat (.lit (.bool true))).symm.trans (h4 (.lit (.bool true)))
      rw [hT, ← hRv] at e1
      injection e1 with e1
      rw [hrun, e1]
      rfl
/-- its keys -/
theorem MapS.keys {w : World} {b : Nat} {D : DataW Value} {T : Int → Option Value} (h1 : w.ownsMap Try.prog 3 rdS b (Maps.size D) D) (h3 : ∀ (k : Int) zd, D.atKey (.int .i64 k) zd = (match T k with | some v => .held v | none => zd)) (ks : List Int) (hs : ks.Pairwise (· < ·)) (hk : ∀ x, x ∈ ks ↔ (T x).isSome = true) : ks.Perm (intKeys D) := by
  obtain ⟨es, rfl, hpw, _⟩ := h1.entries (int_keyed Try.underlying3)
  obtain ⟨es', hD', hko⟩ := h1.keysOf
  injection hD' with hD'
  subst hD'
  refine perm_intKeys hpw (fun p hp => by obtain ⟨v, hv⟩ := hko p hp; obtain ⟨x, _, hx, _⟩ := Maps.keyOf_i64 Try.underlying3 hv; exact ⟨x, hx⟩) (hs.imp (fun h e => by omega)) fun x => ?_
  have h4 := h3 x
  rw [hk x]
  cases hT : T x with
  | none =>
    rw [hT] at h4
    rw [has_false_of_atKey h4]
    rfl
  | some v =>
    rw [hT] at h4
    rw [has_true_of_atKey h4]
    rfl
/-- 'm[k] = v' -/
theorem MapS.put {w : World} {b : Nat} {T : Int → Option Value} (h : MapS w b T) (ks : List Int) (hs : ks.Pairwise (· < ·)) (hks : ∀ x, x ∈ ks ↔ (T x).isSome = true) (hn : ks.length < 100000) (k : Int) (hk : I64s k) (v : Value) : ∃ w', (Instr.mapUpdate 71 (.map (some b)) (.int .i64 k) v).run Try.prog w = .ok () w' ∧ MapS w' b (fun j => if j = k then some v else T j) ∧ w.grownBy w' (some b) := by
  obtain ⟨D, h1, h2, h3⟩ := h
  have hp := (MapS.keys h1 h3 ks hs hks).length_eq
  have hsz : Maps.size D < maxLen := by
    obtain ⟨es, rfl⟩ := h2
    simp [intKeys] at hp
    simp [Maps.size]
    unfold maxLen
    omega
  obtain ⟨w', hrun, h4, h5⟩ := h1.update (int_keyed Try.underlying3) Try.underlying71 hsz (keyOf_is hk) (d := .held v) (ps := []) (val := v) rfl
  refine ⟨w', hrun, ⟨_, size_tightS h4, h2.put _ _, fun j zd => ?_⟩, h5⟩
  by_cases e : j = k
  · subst e
    rw [atKey_put_same h2 (by simp [WideAt.IsKeyLit])]
    simp
  · rw [atKey_put_other (fun h => e (by injection h)), h3 j]
    simp [e]
/-- 'delete(m, k)' -/
theorem MapS.drop {w : World} {b : Nat} {T : Int → Option Value} (h : MapS w b T) (k : Int) (hk : I64s k) (ty : TypeId) : ∃ w', (Builtin.delete_ #[71, 3] ty #[.map (some b), .int .i64 k]).run Try.prog w = .ok (.tuple #[]) w' ∧ MapS w' b (fun j => if j = k then none else T j) ∧ w.grownBy w' (some b) := by
  obtain ⟨D, h1, h2, h3⟩ := h
  obtain ⟨w', hrun, h4, h5⟩ := h1.drop (int_keyed Try.underlying3) Try.underlying71 (keyOf_is hk) ty
  refine ⟨w', hrun, ⟨_, size_tightS h4, h2.del _, fun j zd => ?_⟩, h5.grown⟩
  by_cases e : j = k
  · subst e
    rw [atKey_del_same]
    simp
  · rw [atKey_del_other (fun h => e (by injection h)), h3 j]
    simp [e]
/-- .. whatever type the operation has -/
theorem MapS.drop_any {w : World} {b : Nat} {T : Int → Option Value} (h : MapS w b T) (k : Int) (hk : I64s k) : ∃ w', (∀ ty, (Builtin.delete_ #[71, 3] ty #[.map (some b), .int .i64 k]).run Try.prog w = .ok (.tuple #[]) w') ∧ MapS w' b (fun j => if j = k then none else T j) ∧ w.grownBy w' (some b) := by
  obtain ⟨w', h1, h2⟩ := h.drop k hk 0
  exact ⟨w', fun _ => h1, h2⟩
/-- 'm[k] = v' at the operation -/
theorem app_puts {ops : Array Oper} {rest : List Oper} {o : Oper} {a : Act} {Q : Exit → Act → World → Prop} (w : World) (hgd : o.guard = none) (m x y : Operand) (hop : o.op = Op.mapUpdate 71 m x y)
    (b : Nat) (T : Int → Option Value) (hm : a.eval m = .map (some b)) (h : MapS w b T) (ks : List Int) (hs : ks.Pairwise (· < ·)) (hks : ∀ x, x ∈ ks ↔ (T x).isSome = true) (hn : ks.length < 100000) (k : Int) (hk : I64s k) (v : Value) (hx : a.eval x = .int .i64 k) (hv : a.eval y = v)
    (hK : ∀ w', MapS w' b (fun j => if j = k then some v else T j) → w.grownBy w' (some b) → wpList Try.prog ops Q rest (a.put o.dst undef) w') : wpList Try.prog ops Q (o :: rest) a w := by
  refine wpList_plain hgd fun K' hK' => ?_
  obtain ⟨w', hrun, r1, r2⟩ := h.put ks hs hks hn k hk v
  unfold Oper.wp
  simp [execOp, hop, hm, hx, hv, hrun, Result.andThen]
  exact hK' _ _ (hK w' r1 r2)
/-- 'delete(m, k)' at the operation -/
theorem app_drops {ops : Array Oper} {rest : List Oper} {o : Oper} {a : Act} {Q : Exit → Act → World → Prop} (w : World) (hgd : o.guard = none) (m x : Operand) (hop : o.op = Op.call { callee := Callee.builtin Builtin.delete, args := #[m, x], argTypes := #[71, 3] })
    (b : Nat) (T : Int → Option Value) (hm : a.eval m = .map (some b)) (h : MapS w b T) (k : Int) (hk : I64s k) (hx : a.eval x = .int .i64 k)
    (hK : ∀ w', MapS w' b (fun j => if j = k then none else T j) → w.grownBy w' (some b) → wpList Try.prog ops Q rest (a.put o.dst (.tuple #[])) w') : wpList Try.prog ops Q (o :: rest) a w := by
  refine wpList_plain hgd fun K' hK' => ?_
  obtain ⟨w', hrun, r1, r2⟩ := h.drop k hk o.type
  unfold Oper.wp
  simp [execOp, hop, resolve, invoke, builtin, hm, hx, hrun, Result.andThen]
  exact hK' _ _ (hK w' r1 r2)
end Go.Proofs.Ytpidbgnlehikeaa
