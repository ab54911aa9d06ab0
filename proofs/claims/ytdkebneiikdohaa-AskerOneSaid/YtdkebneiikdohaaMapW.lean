/- A map[int]wait (a number to two ints) that the call itself makes: looked up, written, deleted from, its keys. Nothing of the program's own functions is in here. -/
import Derived.Test.YtdkebneiikdohaaTmC
import Derived.Maps.Own
import Derived.Maps.OwnSet
import Derived.Maps.Views
import Derived.Lib.SlKeysI
import Derived.WalkArith
namespace Go.Proofs.Ytdkebneiikdohaa
open Go.RowKit Go.Maps
set_option maxRecDepth 20000

/-- how a wait reads -/
def rdW : Value → Option (DataW Unit × List MemPlace)
  | .agg ⟨[.int .i64 a, .int .i64 b]⟩ => some (.agg [.lit (.int .i64 a), .lit (.int .i64 b)], [])
  | _ => none
def waitV (p : Int × Int) : Value := .agg #[.int .i64 p.1, .int .i64 p.2]
def waitD (p : Int × Int) : DataW Unit := .agg [.lit (.int .i64 p.1), .lit (.int .i64 p.2)]
theorem rdW_mk (p : Int × Int) : rdW (waitV p) = some (waitD p, []) := rfl
theorem rdW_inv {v : Value} {z : DataW Unit × List MemPlace} (h : rdW v = some z) : ∃ p, v = waitV p ∧ z = (waitD p, []) := by
  unfold rdW at h
  split at h
  · rename_i a b
    injection h with h
    exact ⟨(a, b), rfl, h.symm⟩
  · cases h
theorem waitD_inj {p q : Int × Int} (h : waitD p = waitD q) : p = q := by
  unfold waitD at h
  injection h with h
  injection h with h1 h2
  injection h2 with h2 _
  injection h1 with h1
  injection h2 with h2
  injection h1 with _ h1
  injection h2 with _ h2
  exact Prod.ext h1 h2
/-- what a key has among timers -/
def tmGet (l : List Tmr) (k : Int) : Option (Int × Int) := match l.find? (fun t => t.1 == k) with | some t => some t.2 | none => none
/-- block b is a map of the timers l (of whatever order) -/
def MapW (w : World) (b : Nat) (l : List Tmr) : Prop := ∃ D : DataW Unit, w.ownsMap Try.prog 3 rdW b (Maps.size D) D ∧ IsMap D ∧ ∀ (k : Int) zd, D.atKey (.int .i64 k) zd = (match tmGet l k with | some p => waitD p | none => zd)
theorem size_tight {P : Program} {k : TypeId} {R : Value → Option (DataW Unit × List MemPlace)} {w : World} {b n : Nat} {D : DataW Unit} (h : w.ownsMap P k R b n D) : w.ownsMap P k R b (Maps.size D) D := by
  obtain ⟨es, clock, hb, F, hs, rfl⟩ := h
  refine ⟨es, clock, hb, F, ?_, rfl⟩
  simp [Maps.size, length_sorted]
theorem zero_wait (w : World) : (zeroValue 83).run Try.prog w = .ok (waitV (0, 0)) w := by kernel_rfl
theorem keyOf_i {k : Int} (hk : I64 k) : keyOf Try.prog 3 (.int .i64 k) = some (.int .i64 k) := keyOf_int_mk Try.underlying3 (WalkArith.wf_i64 ⟨by have := hk.1; omega, by have := hk.2; omega⟩)
theorem MapW.made (w : World) : MapW (w.alloc (.map #[] 0)) w.heap.size [] := ⟨.map [], size_tight (World.ownsMap_made _ _ _ _), ⟨[], rfl⟩, fun _ _ => rfl⟩
theorem MapW.lt {w : World} {b : Nat} {l : List Tmr} (h : MapW w b l) : b < w.heap.size := by
  obtain ⟨D, h1, _⟩ := h
  exact h1.lt
theorem MapW.off {X : Nat → Prop} {w w' : World} {b : Nat} {l : List Tmr} (h : MapW w b l) (o : Off X w w') (hb : ¬ X b) : MapW w' b l := by
  have hlt := h.lt
  obtain ⟨D, ⟨es, clock, hh, F, hs, hD⟩, h2⟩ := h
  exact ⟨D, ⟨es, clock, (o.block b hlt hb).trans hh, F, hs, hD⟩, h2⟩
theorem MapW.below {w w' : World} {b : Nat} {l : List Tmr} (h : MapW w b l) (U : Below w.heap.size w w') : MapW w' b l := h.off (X := fun _ => False) (Off.of_below U) (fun h => h)
/-- 'v, ok := m[k]' -/
theorem MapW.look {w : World} {b : Nat} {l : List Tmr} (h : MapW w b l) (k : Int) (hk : I64 k) (c : Bool) : (Instr.lookup 74 (.map (some b)) (.int .i64 k) c).run Try.prog w = .ok (if c then .tuple #[waitV ((tmGet l k).getD (0, 0)), .bool (tmGet l k).isSome] else waitV ((tmGet l k).getD (0, 0))) w := by
  obtain ⟨D, ⟨es, clock, hb, F, _, rfl⟩, _, h3⟩ := h
  have h4 := h3 k
  rcases fit_look c (int_keyed Try.underlying3) Try.underlying74 (zero_wait w) hb F (keyOf_i hk) with ⟨hrun, _, hat⟩ | ⟨e0, y, _, _, hrun, hRv, hat, _⟩
  · cases hT : tmGet l k with
    | none => rw [hrun]; rfl
    | some p =>
      have e1 := (hat (.lit (.bool true))).symm.trans (h4 (.lit (.bool true)))
      rw [hT] at e1
      cases e1
  · cases hT : tmGet l k with
    | none =>
      have e1 := (hat (.lit (.bool true))).symm.trans (h4 (.lit (.bool true)))
      have e2 := (hat (.lit (.bool false))).symm.trans (h4 (.lit (.bool false)))
      rw [hT] at e1 e2
      have := e1.symm.trans e2
      cases this
    | some p =>
      obtain ⟨q, hq, e⟩ := rdW_inv hRv
      have e1 := (hat (.lit (.bool true))).symm.trans (h4 (.lit (.bool true)))
      rw [hT, e] at e1
      rw [hrun, hq, waitD_inj e1]
      rfl
theorem MapW.size {w : World} {b : Nat} {D : DataW Unit} {l : List Tmr} (h1 : w.ownsMap Try.prog 3 rdW b (Maps.size D) D) (h3 : ∀ (k : Int) zd, D.atKey (.int .i64 k) zd = (match tmGet l k with | some p => waitD p | none => zd)) (hs : (tmKeys l).Pairwise (· < ·)) : (tmKeys l).Perm (intKeys D) := by
  obtain ⟨es, rfl, hpw, _⟩ := h1.entries (int_keyed Try.underlying3)
  obtain ⟨es', hD', hko⟩ := h1.keysOf
  injection hD' with hD'
  subst hD'
  refine perm_intKeys hpw (fun p hp => by obtain ⟨v, hv⟩ := hko p hp; obtain ⟨x, _, hx, _⟩ := Maps.keyOf_i64 Try.underlying3 hv; exact ⟨x, hx⟩) (hs.imp (fun h e => by omega)) fun x => ?_
  have h4 := h3 x
  cases hf : l.find? (fun t => t.1 == x) with
  | none =>
    have hg : tmGet l x = none := by unfold tmGet; rw [hf]
    rw [hg] at h4
    rw [has_false_of_atKey h4]
    simp only [Bool.false_eq_true, iff_false]
    intro hm
    obtain ⟨t, ht, rfl⟩ := List.mem_map.1 hm
    have := List.find?_eq_none.1 hf t ht
    simp at this
  | some t =>
    have hg : tmGet l x = some t.2 := by unfold tmGet; rw [hf]
    rw [hg] at h4
    rw [has_true_of_atKey h4]
    simp only [iff_true]
    have h5 := List.find?_some hf
    exact List.mem_map.2 ⟨t, List.mem_of_find?_eq_some hf, by simpa using h5⟩
theorem tmKeys_sort {l : List Tmr} (hs : (tmKeys l).Pairwise (· < ·)) : (tmKeys l).mergeSort (fun x y => decide (x ≤ y)) = tmKeys l := by
  apply List.mergeSort_of_pairwise
  exact hs.imp (fun h => by simpa using Int.le_of_lt h)
/-- 'm[k] = v' -/
theorem MapW.put {w : World} {b : Nat} {l : List Tmr} (h : MapW w b l) (hs : (tmKeys l).Pairwise (· < ·)) (hn : l.length < 100000) (k : Int) (hk : I64 k) (p : Int × Int) (l' : List Tmr) (hl' : ∀ j : Int, tmGet l' j = if j = k then some p else tmGet l j) : ∃ w', (Instr.mapUpdate 74 (.map (some b)) (.int .i64 k) (waitV p)).run Try.prog w = .ok () w' ∧ MapW w' b l' ∧ w.grownBy w' (some b) := by
  obtain ⟨D, h1, h2, h3⟩ := h
  have hp := (MapW.size h1 h3 hs).length_eq
  have hsz : Maps.size D < maxLen := by
    obtain ⟨es, rfl⟩ := h2
    simp [intKeys, tmKeys] at hp
    simp [Maps.size]
    unfold maxLen
    omega
  obtain ⟨w', hrun, h4, h5⟩ := h1.update (int_keyed Try.underlying3) Try.underlying74 hsz (keyOf_i hk) (rdW_mk p)
  refine ⟨w', hrun, ⟨_, size_tight h4, h2.put _ _, fun j zd => ?_⟩, h5⟩
  by_cases e : j = k
  · subst e
    rw [atKey_put_same h2 (by simp [WideAt.IsKeyLit]), hl' j, if_pos rfl]
  · rw [atKey_put_other (fun h => e (by injection h)), h3 j, hl' j, if_neg e]
/-- 'delete(m, k)' -/
theorem MapW.drop {w : World} {b : Nat} {l : List Tmr} (h : MapW w b l) (k : Int) (hk : I64 k) (l' : List Tmr) (hl' : ∀ j : Int, tmGet l' j = if j = k then none else tmGet l j) (ty : TypeId) : ∃ w', (Builtin.delete_ #[74, 3] ty #[.map (some b), .int .i64 k]).run Try.prog w = .ok (.tuple #[]) w' ∧ MapW w' b l' ∧ w.grownBy w' (some b) := by
  obtain ⟨D, h1, h2, h3⟩ := h
  obtain ⟨w', hrun, h4, h5⟩ := h1.drop (int_keyed Try.underlying3) Try.underlying74 (keyOf_i hk) ty
  refine ⟨w', hrun, ⟨_, size_tight h4, h2.del _, fun j zd => ?_⟩, h5.grown⟩
  by_cases e : j = k
  · subst e
    rw [atKey_del_same, hl' j, if_pos rfl]
  · rw [atKey_del_other (fun h => e (by injection h)), h3 j, hl' j, if_neg e]
/-- the plain facts: what Set, Clear and a step of Tick do to what a key has -/
theorem tmGet_nil (k : Int) : tmGet [] k = none := rfl
theorem tmGet_cons (t : Tmr) (l : List Tmr) (k : Int) : tmGet (t :: l) k = if t.1 = k then some t.2 else tmGet l k := by
  unfold tmGet
  by_cases h : t.1 = k
  · simp [h]
  · simp [h]
theorem tmGet_append (l m : List Tmr) (k : Int) : tmGet (l ++ m) k = (tmGet l k).or (tmGet m k) := by
  induction l with
  | nil => simp [tmGet_nil]
  | cons t l ih =>
    rw [List.cons_append, tmGet_cons, tmGet_cons, ih]
    by_cases h : t.1 = k <;> simp [h]
theorem tmGet_none {l : List Tmr} {k : Int} (h : ∀ t ∈ l, t.1 ≠ k) : tmGet l k = none := by
  induction l with
  | nil => rfl
  | cons t l ih =>
    rw [tmGet_cons, if_neg (h t (by simp)), ih (fun u hu => h u (by simp [hu]))]
theorem tmGet_set {most : Int} {l : List Tmr} (h : TmOk most l) (k j : Int) : tmGet (tmSet l k) j = if j = k then some (1, 1) else tmGet l j := by
  have hlt := tmAt_lt l k
  have hge : ∀ t ∈ l.drop (if tmIs l k then tmAt l k + 1 else tmAt l k), k < t.1 := by
    intro t ht
    obtain ⟨i, hi, rfl⟩ := List.mem_iff_getElem.1 ht
    rw [List.getElem_drop]
    simp only [List.length_drop] at hi
    by_cases hs : tmIs l k = true
    · simp only [hs, if_true] at hi ⊢
      have h0 := tmIs_lt l k hs
      have h1 := tmAt_ge l k h0
      have := key_at h (tmAt l k) (tmAt l k + 1 + i) h0 (by omega) (by omega)
      omega
    · have hs : tmIs l k = false := by simpa using hs
      simp only [hs, Bool.false_eq_true, if_false] at hi ⊢
      have h0 : tmAt l k < l.length := by omega
      have h1 := tmAt_ge l k h0
      have h2 := tmIs_eq l k h0
      rw [hs] at h2
      have h3 : ¬ l[tmAt l k].1 = k := by simpa using h2.symm
      rcases Nat.eq_zero_or_pos i with rfl | h5
      · simp only [Nat.add_zero]; omega
      · have := key_at h (tmAt l k) (tmAt l k + i) h0 (by omega) (by omega)
        omega
  have hlo : ∀ t ∈ l.take (tmAt l k), t.1 < k := by
    intro t ht
    obtain ⟨i, hi, rfl⟩ := List.mem_iff_getElem.1 ht
    simp only [List.length_take] at hi
    rw [List.getElem_take]
    exact hlt i (by omega) (by omega)
  unfold tmSet
  rw [tmGet_append, tmGet_append, tmGet_cons, tmGet_nil]
  by_cases e : j = k
  · subst e
    rw [tmGet_none (l := l.take (tmAt l j)) (fun t ht => by have := hlo t ht; omega)]
    simp
  · rw [if_neg (fun h => e h.symm), if_neg e]
    simp only [Option.or_none]
    by_cases hs : tmIs l k = true
    · simp only [hs, if_true]
      have h0 := tmIs_lt l k hs
      have h2 := tmIs_eq l k h0
      rw [hs] at h2
      have h3 : l[tmAt l k].1 = k := by simpa using h2.symm
      have e2 : l = l.take (tmAt l k) ++ (l[tmAt l k] :: l.drop (tmAt l k + 1)) := by rw [List.getElem_cons_drop, List.take_append_drop]
      conv => rhs; rw [e2]
      rw [tmGet_append, tmGet_cons, if_neg (by omega)]
    · have hs : tmIs l k = false := by simpa using hs
      simp only [hs, Bool.false_eq_true, if_false]
      rw [← tmGet_append, List.take_append_drop]
theorem tmIs_get {most : Int} {l : List Tmr} (h : TmOk most l) (k : Int) : (tmGet l k).isSome = tmIs l k := by
  cases hs : tmIs l k with
  | true =>
    have h0 := tmIs_lt l k hs
    have h2 := tmIs_eq l k h0
    rw [hs] at h2
    have h3 : l[tmAt l k].1 = k := by simpa using h2.symm
    cases hg : tmGet l k with
    | some p => rfl
    | none =>
      unfold tmGet at hg
      split at hg
      · cases hg
      · rename_i hf
        have := List.find?_eq_none.1 hf l[tmAt l k] (List.getElem_mem h0)
        simp [h3] at this
  | false =>
    rw [tmGet_none]
    · rfl
    · intro t ht he
      obtain ⟨i, hi, rfl⟩ := List.mem_iff_getElem.1 ht
      rw [tmIs_mem h k i hi he] at hs
      cases hs
theorem tmGet_clear {most : Int} {l : List Tmr} (h : TmOk most l) (k j : Int) : tmGet (tmClear l k) j = if j = k then none else tmGet l j := by
  unfold tmClear
  cases hs : tmIs l k with
  | true =>
    simp only [if_true]
    have h0 := tmIs_lt l k hs
    have h2 := tmIs_eq l k h0
    rw [hs] at h2
    have h3 : l[tmAt l k].1 = k := by simpa using h2.symm
    by_cases e : j = k
    · rw [if_pos e, tmGet_none]
      intro t ht
      rcases List.mem_append.1 ht with ht | ht
      · obtain ⟨i, hi, rfl⟩ := List.mem_iff_getElem.1 ht
        simp only [List.length_take] at hi
        rw [List.getElem_take]
        have := tmAt_lt l k i (by omega) (by omega)
        omega
      · obtain ⟨i, hi, rfl⟩ := List.mem_iff_getElem.1 ht
        simp only [List.length_drop] at hi
        rw [List.getElem_drop]
        have := key_at h (tmAt l k) (tmAt l k + 1 + i) h0 (by omega) (by omega)
        omega
    · rw [if_neg e, tmGet_append]
      have e2 : l = l.take (tmAt l k) ++ (l[tmAt l k] :: l.drop (tmAt l k + 1)) := by rw [List.getElem_cons_drop, List.take_append_drop]
      conv => rhs; rw [e2]
      rw [tmGet_append, tmGet_cons, if_neg (by omega)]
  | false =>
    simp only [Bool.false_eq_true, if_false]
    by_cases e : j = k
    · subst e
      rw [if_pos rfl]
      have := tmIs_get h j
      rw [hs] at this
      cases hg : tmGet l j with
      | none => rfl
      | some p => rw [hg] at this; cases this
    · rw [if_neg e]
theorem tmLeft_get (l : List Tmr) (k : Int) : tmLeft l k = (tmGet l k).getD (0, 0) := by
  unfold tmLeft tmGet
  cases l.find? (fun t => t.1 == k) <;> rfl
/-- timers that rise, one of them changed -/
theorem tmGet_at {l : List Tmr} (hs : (tmKeys l).Pairwise (· < ·)) (i : Nat) (hi : i < l.length) : tmGet l l[i].1 = some l[i].2 := by
  induction l generalizing i with
  | nil => simp at hi
  | cons t l ih =>
    rw [tmGet_cons]
    cases i with
    | zero => simp
    | succ i =>
      have hs' : (tmKeys l).Pairwise (· < ·) := (List.pairwise_cons.1 hs).2
      have hi' : i < l.length := by simp at hi; omega
      have h1 := (List.pairwise_cons.1 hs).1 l[i].1 (List.mem_map.2 ⟨l[i], List.getElem_mem _, rfl⟩)
      rw [List.getElem_cons_succ, if_neg (by simp at h1; omega)]
      exact ih hs' i hi'
theorem tmGet_change {l : List Tmr} (hs : (tmKeys l).Pairwise (· < ·)) (i : Nat) (hi : i < l.length) (p : Int × Int) (j : Int) : tmGet (l.set i (l[i].1, p)) j = if j = l[i].1 then some p else tmGet l j := by
  induction l generalizing i with
  | nil => simp at hi
  | cons t l ih =>
    cases i with
    | zero =>
      simp only [List.set_cons_zero, List.getElem_cons_zero]
      rw [tmGet_cons, tmGet_cons]
      by_cases e : t.1 = j
      · subst e; simp
      · rw [if_neg e, if_neg (fun h => e h.symm), if_neg e]
    | succ i =>
      have hs' : (tmKeys l).Pairwise (· < ·) := (List.pairwise_cons.1 hs).2
      have hi' : i < l.length := by simp at hi; omega
      have h1 := (List.pairwise_cons.1 hs).1 l[i].1 (List.mem_map.2 ⟨l[i], List.getElem_mem _, rfl⟩)
      simp only [List.set_cons_succ, List.getElem_cons_succ]
      rw [tmGet_cons, tmGet_cons, ih hs' i hi']
      by_cases e : t.1 = j
      · subst e
        simp at h1
        rw [if_pos rfl, if_pos rfl, if_neg (by omega)]
      · rw [if_neg e, if_neg e]
end Go.Proofs.Ytdkebneiikdohaa
