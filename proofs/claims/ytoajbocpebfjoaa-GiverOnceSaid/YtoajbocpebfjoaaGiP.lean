/- What layer 28's GiverOnce keeps beside the giver: two maps, a list, a struct; what a turn of the giver leaves of them. -/
import Derived.Test.YtoajbocpebfjoaaGiO
import Derived.Test.YtoajbocpebfjoaaMapN
import Derived.Test.YtoajbocpebfjoaaSep
namespace Go.Proofs.Ytoajbocpebfjoaa
open Go.RowKit
set_option maxRecDepth 20000

/-- the law's own: the maps at bm, bu, the list in v: from block B on, none of them at a block of X, none in another -/
def LwR (B : Nat) (w : World) (X : Nat → Prop) (bm bu N : Nat) (told : Nat → Option Nat) (used : Nat → Bool) (v : Value) (ins : List Nat) : Prop :=
  (∃ n, n ≤ N ∧ MapO w bm n told) ∧ (∃ n, n ≤ N ∧ MapB w bu n used) ∧ OwnU w B v ins ∧ (B ≤ bm ∧ B ≤ bu ∧ bm ≠ bu) ∧ (∀ k, v.ownBlock = some k → k ≠ bm ∧ k ≠ bu) ∧ ¬ X bm ∧ ¬ X bu ∧ ∀ k, v.ownBlock = some k → ¬ X k
section
variable {B bm bu N : Nat} {w w' : World} {X X' : Nat → Prop} {told : Nat → Option Nat} {used : Nat → Bool} {v : Value} {ins : List Nat}
theorem LwR.turn (h : LwR B w X bm bu N told used v ins) (T : Turns X X' w w') : LwR B w' X' bm bu N told used v ins := by
  obtain ⟨⟨n1, l1, h1⟩, ⟨n2, l2, h2⟩, h3, h4, h5, h6, h7, h8⟩ := h
  have no := turns_no T
  exact ⟨⟨n1, l1, h1.off T.off h6⟩, ⟨n2, l2, h2.off T.off h7⟩, h3.off T.off h8, h4, h5, no _ h1.lt h6, no _ h2.lt h7, fun k hk => no k (h3.lt k hk).2 (h8 k hk)⟩
theorem LwR.below (h : LwR B w X bm bu N told used v ins) (T : Below w.heap.size w w') : LwR B w' X bm bu N told used v ins := h.turn (Turns.of_below T)
theorem LwR.more (h : LwR B w X bm bu N told used v ins) {M : Nat} (hM : N ≤ M) : LwR B w X bm bu M told used v ins := by
  obtain ⟨⟨n1, l1, h1⟩, ⟨n2, l2, h2⟩, h3⟩ := h
  exact ⟨⟨n1, Nat.le_trans l1 hM, h1⟩, ⟨n2, Nat.le_trans l2 hM, h2⟩, h3⟩
theorem LwR.bm_lt (h : LwR B w X bm bu N told used v ins) : bm < w.heap.size := by
  obtain ⟨⟨_, _, h1⟩, _⟩ := h
  exact h1.lt
theorem LwR.bu_lt (h : LwR B w X bm bu N told used v ins) : bu < w.heap.size := by
  obtain ⟨_, ⟨_, _, h1⟩, _⟩ := h
  exact h1.lt
theorem off_grown {row : Option Nat} {b : Nat} (hg : w.grownBy w' row) (hb : ∀ k, row = some k → k = b) : Off (· = b) w w' := (Off.refl (· = b) w).grown hg (fun k hk => .inl (hb k hk))
/-- 'told[c] = t' -/
theorem LwR.put_told (h : LwR B w X bm bu N told used v ins) (hN : N < 1000000) (c t : Nat) (hc : c < 18446744073709551616) (ht : t < 18446744073709551616) : ∃ w', (Instr.mapUpdate 62 (.map (some bm)) (.int .u64 (c : Int)) (.int .u64 (t : Int))).run Try.prog w = .ok () w' ∧ LwR B w' X bm bu (N + 1) (fun j => if j = c then some t else told j) used v ins ∧ Off (· = bm) w w' := by
  obtain ⟨⟨n1, l1, h1⟩, ⟨n2, l2, h2⟩, h3, h4, h5, h6, h7, h8⟩ := h
  obtain ⟨w', hrun, h9, hg⟩ := h1.put (by unfold maxLen; omega) c t hc ht
  have O := off_grown (b := bm) hg (fun k hk => by injection hk with hk; exact hk.symm)
  exact ⟨w', hrun, ⟨⟨n1 + 1, by omega, h9⟩, ⟨n2, by omega, h2.off O (fun e => h4.2.2 e.symm)⟩, h3.off O (fun k hk e => (h5 k hk).1 e), h4, h5, h6, h7, h8⟩, O⟩
theorem LwR.look_told (h : LwR B w X bm bu N told used v ins) (c : Nat) (hc : c < 18446744073709551616) : (Instr.lookup 62 (.map (some bm)) (.int .u64 (c : Int)) true).run Try.prog w = .ok (.tuple #[.int .u64 (((told c).getD 0 : Nat) : Int), .bool (told c).isSome]) w := by
  obtain ⟨⟨n1, l1, h1⟩, _⟩ := h
  exact h1.look c hc
theorem LwR.look_used (h : LwR B w X bm bu N told used v ins) (c : Nat) (hc : c < 18446744073709551616) : (Instr.lookup 63 (.map (some bu)) (.int .u64 (c : Int)) false).run Try.prog w = .ok (.bool (used c)) w := by
  obtain ⟨_, ⟨n2, l2, h2⟩, _⟩ := h
  exact h2.look c hc
/-- 'used[c] = true' -/
theorem LwR.put_used (h : LwR B w X bm bu N told used v ins) (hN : N < 1000000) (c : Nat) (hc : c < 18446744073709551616) : ∃ w', (Instr.mapUpdate 63 (.map (some bu)) (.int .u64 (c : Int)) (.bool true)).run Try.prog w = .ok () w' ∧ LwR B w' X bm bu (N + 1) told (fun j => if j = c then true else used j) v ins ∧ Off (· = bu) w w' := by
  obtain ⟨⟨n1, l1, h1⟩, ⟨n2, l2, h2⟩, h3, h4, h5, h6, h7, h8⟩ := h
  obtain ⟨w', hrun, h9, hg⟩ := h2.put (by unfold maxLen; omega) c hc
  have O := off_grown (b := bu) hg (fun k hk => by injection hk with hk; exact hk.symm)
  exact ⟨w', hrun, ⟨⟨n1, by omega, h1.off O h4.2.2⟩, ⟨n2 + 1, by omega, h9⟩, h3.off O (fun k hk e => (h5 k hk).2 e), h4, h5, h6, h7, h8⟩, O⟩
/-- 'in = append(in, t)', t as the call's own literal -/
theorem LwR.push (h : LwR B w X bm bu N told used v ins) {wb : World} (T : Below w.heap.size w wb) {v' : Value} {t : Nat} (hX : ∀ k, X k → k < w.heap.size) (hown : OwnU w' B v' (ins ++ [t])) (hg : wb.grownBy w' v.ownBlock) (hw : v'.ownBlock = v.ownBlock ∨ v'.ownBlock = some wb.heap.size) :
    LwR B w' X bm bu N told used v' (ins ++ [t]) ∧ Off (fun k => v.ownBlock = some k) w w' := by
  have hm := h.bm_lt
  have hu := h.bu_lt
  obtain ⟨⟨n1, l1, h1⟩, ⟨n2, l2, h2⟩, h3, h4, h5, h6, h7, h8⟩ := h
  have O : Off (fun k => v.ownBlock = some k) w w' := (Off.of_below T).grown hg (fun k hk => .inl hk)
  have hs := T.size
  have hv : ∀ k, v'.ownBlock = some k → v.ownBlock = some k ∨ w.heap.size ≤ k := fun k hk => by
    rcases hw with e | e
    · exact .inl (e ▸ hk)
    · rw [e] at hk; injection hk with hk; exact .inr (by omega)
  refine ⟨⟨⟨n1, l1, h1.off O (fun e => (h5 _ e).1 rfl)⟩, ⟨n2, l2, h2.off O (fun e => (h5 _ e).2 rfl)⟩, hown, h4, fun k hk => ?_, h6, h7, fun k hk hx => ?_⟩, O⟩
  · rcases hv k hk with e | e
    · exact h5 k e
    · exact ⟨by omega, by omega⟩
  · rcases hv k hk with e | e
    · exact h8 k e hx
    · have := hX k hx; omega
end
/-- .. beside an object P over X, and a struct at xb -/
def GoS (B : Nat) (P : World → (Nat → Prop) → Prop) (X : Nat → Prop) (bm bu N : Nat) (told : Nat → Option Nat) (used : Nat → Bool) (v : Value) (ins : List Nat) (xb : Nat) (Z : Obj) (w : World) : Prop :=
  OneAt B P X w ∧ LwR B w X bm bu N told used v ins ∧ w.heap[xb]? = some Z ∧ ¬ X xb ∧ xb ≠ bm ∧ xb ≠ bu ∧ (∀ k, v.ownBlock = some k → k ≠ xb) ∧ B ≤ xb
section
variable {B bm bu N xb : Nat} {w w' : World} {P P' : World → (Nat → Prop) → Prop} {X X' : Nat → Prop} {told : Nat → Option Nat} {used : Nat → Bool} {v : Value} {ins : List Nat} {Z : Obj}
theorem GoS.turn (h : GoS B P X bm bu N told used v ins xb Z w) (h' : P' w' X') (T : Turns X X' w w') : GoS B P' X' bm bu N told used v ins xb Z w' ∧ Below B w w' := by
  obtain ⟨h1, h2, h3, h4, h5, h6, h7, h8⟩ := h
  obtain ⟨o, b⟩ := h1.turn h' T
  exact ⟨⟨o, h2.turn T, (T.off.block xb (obrow_lt h3) h4).trans h3, turns_no T _ (obrow_lt h3) h4, h5, h6, h7, h8⟩, b⟩
theorem GoS.below (H : Holds P) (h : GoS B P X bm bu N told used v ins xb Z w) (T : Below w.heap.size w w') : GoS B P X bm bu N told used v ins xb Z w' := by
  obtain ⟨h1, h2, h3, h4⟩ := h
  exact ⟨h1.below H T, h2.below T, (T.block xb (obrow_lt h3)).trans h3, h4⟩
theorem GoS.start (h1 : OneAt B P X w) (H : Holds P) (h2 : LwR B w X bm bu N told used v ins) : GoS B P X bm bu N told used v ins w.heap.size Z (w.alloc Z) ∧ Below B w (w.alloc Z) := by
  have T := (Below.refl _ w).alloc (Nat.le_refl _) Z
  have hm := h2.bm_lt
  have hu := h2.bu_lt
  exact ⟨⟨h1.below H T, h2.below T, heap_alloc_new w Z, fun hx => by have := H.lt h1.1 _ hx; omega, by omega, by omega, fun k hk => by have := (h2.2.2.1.lt k hk).2; omega, h1.2.2⟩, T.mono h1.2.2⟩
theorem GoS.more (h : GoS B P X bm bu N told used v ins xb Z w) {M : Nat} (hM : N ≤ M) : GoS B P X bm bu M told used v ins xb Z w := ⟨h.1, h.2.1.more hM, h.2.2⟩
/-- 'told[c] = t' -/
theorem GoS.put_told (H : Holds P) (h : GoS B P X bm bu N told used v ins xb Z w) (hN : N < 1000000) (c t : Nat) (hc : c < 18446744073709551616) (ht : t < 18446744073709551616) : ∃ w', (Instr.mapUpdate 62 (.map (some bm)) (.int .u64 (c : Int)) (.int .u64 (t : Int))).run Try.prog w = .ok () w' ∧ GoS B P X bm bu (N + 1) (fun j => if j = c then some t else told j) used v ins xb Z w' ∧ Off (· = bm) w w' ∧ Below B w w' := by
  obtain ⟨h1, h2, h3, h4, h5, h6, h7, h8⟩ := h
  obtain ⟨w', hrun, h9, O⟩ := h2.put_told hN c t hc ht
  have hB := h2.2.2.2.1.1
  refine ⟨w', hrun, ⟨⟨H.off h1.1 O (fun k hk e => h2.2.2.2.2.2.1 (e ▸ hk)), h1.2.1, Nat.le_trans h1.2.2 O.size⟩, h9, (O.block xb (obrow_lt h3) h5).trans h3, h4, h5, h6, h7, h8⟩, O, O.below (fun k hk => by omega) h1.2.2⟩
/-- 'used[c] = true' -/
theorem GoS.put_used (H : Holds P) (h : GoS B P X bm bu N told used v ins xb Z w) (hN : N < 1000000) (c : Nat) (hc : c < 18446744073709551616) : ∃ w', (Instr.mapUpdate 63 (.map (some bu)) (.int .u64 (c : Int)) (.bool true)).run Try.prog w = .ok () w' ∧ GoS B P X bm bu (N + 1) told (fun j => if j = c then true else used j) v ins xb Z w' ∧ Off (· = bu) w w' ∧ Below B w w' := by
  obtain ⟨h1, h2, h3, h4, h5, h6, h7, h8⟩ := h
  obtain ⟨w', hrun, h9, O⟩ := h2.put_used hN c hc
  have hB := h2.2.2.2.1.2.1
  refine ⟨w', hrun, ⟨⟨H.off h1.1 O (fun k hk e => h2.2.2.2.2.2.2.1 (e ▸ hk)), h1.2.1, Nat.le_trans h1.2.2 O.size⟩, h9, (O.block xb (obrow_lt h3) h6).trans h3, h4, h5, h6, h7, h8⟩, O, O.below (fun k hk => by omega) h1.2.2⟩
/-- 'in = append(in, t)' -/
theorem GoS.push (H : Holds P) (h : GoS B P X bm bu N told used v ins xb Z w) {wb : World} (T : Below w.heap.size w wb) {v' : Value} {t : Nat} (hown : OwnU w' B v' (ins ++ [t])) (hg : wb.grownBy w' v.ownBlock) (hw : v'.ownBlock = v.ownBlock ∨ v'.ownBlock = some wb.heap.size) :
    OneAt B P X w' ∧ LwR B w' X bm bu N told used v' (ins ++ [t]) ∧ Below B w w' := by
  obtain ⟨h1, h2, h3, h4, h5, h6, h7, h8⟩ := h
  obtain ⟨k1, O⟩ := h2.push T (H.lt h1.1) hown hg hw
  exact ⟨⟨H.off h1.1 O (fun k hk e => h2.2.2.2.2.2.2.2 k e hk), h1.2.1, Nat.le_trans h1.2.2 O.size⟩, k1, O.below (fun k hk => (h2.2.2.1.lt k hk).1) h1.2.2⟩
end
end Go.Proofs.Ytoajbocpebfjoaa
