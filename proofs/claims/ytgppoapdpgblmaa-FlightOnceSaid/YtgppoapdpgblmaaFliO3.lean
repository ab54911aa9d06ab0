/- A flight, a list of texts and a set of numbers of layer 16's law's own: three objects that share no block. -/
import Derived.Test.YtgppoapdpgblmaaFliO2
import Derived.Test.YtgppoapdpgblmaaSetI
namespace Go.Proofs.Ytgppoapdpgblmaa
open Go.RowKit
set_option maxRecDepth 20000

structure On (Q : World → (Nat → Prop) → Prop) (B : Nat) (v : Value) (ps : List (List UInt8)) (mb n : Nat) (T : Int → Bool) (X : Nat → Prop) (w : World) : Prop where
  q : Q w X
  lt : ∀ k, X k → B ≤ k ∧ k < w.heap.size
  l : OwnY w B (fun k => X k ∨ k = mb) v ps
  m : SetI w mb n T
  lx : ∀ k, v.ownBlock = some k → ¬ X k
  mx : ¬ X mb
  ml : v.ownBlock ≠ some mb
  mB : B ≤ mb
  b : B ≤ w.heap.size
section
variable {Q Q' : World → (Nat → Prop) → Prop} {B mb n : Nat} {v : Value} {ps : List (List UInt8)} {T : Int → Bool} {X X' : Nat → Prop} {w w' : World}
theorem On.below (HQ : Holds Q) (h : On Q B v ps mb n T X w) (U : Below w.heap.size w w') : On Q B v ps mb n T X w' :=
  ⟨HQ.below h.q U, fun k hk => ⟨(h.lt k hk).1, HQ.lt (HQ.below h.q U) k hk⟩, h.l.below U, h.m.below U, h.lx, h.mx, h.ml, h.mB, Nat.le_trans h.b U.size⟩
theorem On.turn (HQ' : Holds Q') (h : On Q B v ps mb n T X w) (q' : Q' w' X') (U : Turns X X' w w') : On Q' B v ps mb n T X' w' ∧ Below B w w' := by
  have hg : ∀ k, X' k → B ≤ k := fun k hk => by
    rcases U.grow k hk with h1 | h1
    · exact (h.lt k h1).1
    · exact Nat.le_trans h.b h1
  have hn : ∀ k, k < w.heap.size → ¬ X k → ¬ X' k := fun k hk hx hy => by
    rcases U.grow k hy with h1 | h1
    · exact hx h1
    · omega
  refine ⟨⟨q', fun k hk => ⟨hg k hk, HQ'.lt q' k hk⟩, ?_, h.m.off U.off h.mx, fun k hk => hn k (h.l.lt k hk).2 (h.lx k hk), hn mb h.m.lt h.mx, h.ml, h.mB, Nat.le_trans h.b U.off.size⟩, U.off.below (fun k hk => (h.lt k hk).1) h.b⟩
  refine ((h.l.imp (Z' := fun k => X k ∨ k = mb ∨ w.heap.size ≤ k) (fun k hk hz => ?_)).off U.off (fun k _ hx => .inl hx) h.lx).imp (fun k hk hz => ?_)
  · rcases hz with hz | hz | hz
    · exact .inl hz
    · exact .inr hz
    · omega
  · rcases hz with hz | hz
    · exact (U.grow k hz).elim .inl (fun h => .inr (.inr h))
    · exact .inr (.inl hz)
/-- one text more in the list -/
theorem On.listed (HQ : Holds Q) (h : On Q B v ps mb n T X w) {v' : Value} {ps' : List (List UInt8)} {w1 : World} (U : Below w.heap.size w w1) (ho : OwnY w' B (fun k => X k ∨ k = mb) v' ps') (hg : w1.grownBy w' v.ownBlock) (hw : v'.ownBlock = v.ownBlock ∨ v'.ownBlock = some w1.heap.size) : On Q B v' ps' mb n T X w' ∧ Below B w w' := by
  have hs := U.size
  have hm := h.m.lt
  have O : Off (fun k => v.ownBlock = some k) w w' := (Off.of_below U).grown hg (fun k hk => .inl hk)
  have q' := HQ.off h.q O (fun k hx ho => h.lx k ho hx)
  refine ⟨⟨q', fun k hk => ⟨(h.lt k hk).1, HQ.lt q' k hk⟩, ho, h.m.off O h.ml, fun k hk hx => ?_, h.mx, fun hk => ?_, h.mB, Nat.le_trans h.b O.size⟩, O.below (fun k hk => (h.l.lt k hk).1) h.b⟩
  · rcases hw with e | e
    · exact h.lx k (e ▸ hk) hx
    · rw [e] at hk; injection hk with hk; have := (h.lt k hx).2; omega
  · rcases hw with e | e
    · exact h.ml (e ▸ hk)
    · rw [e] at hk; injection hk with hk; omega
/-- one number more in the set -/
theorem On.marked (HQ : Holds Q) (h : On Q B v ps mb n T X w) {n' : Nat} {T' : Int → Bool} (hm : SetI w' mb n' T') (hg : w.grownBy w' (some mb)) : On Q B v ps mb n' T' X w' ∧ Below B w w' := by
  have O : Off (· = mb) w w' := (Off.refl _ w).grown hg (fun k hk => .inl (by injection hk with hk; exact hk.symm))
  have q' := HQ.off h.q O (fun k hx e => h.mx (e ▸ hx))
  exact ⟨⟨q', fun k hk => ⟨(h.lt k hk).1, HQ.lt q' k hk⟩, h.l.off O (fun k _ e => .inr e) (fun k hk e => h.ml (by rw [hk, e])), hm, h.lx, h.mx, h.ml, h.mB, Nat.le_trans h.b O.size⟩, O.below (fun k hk => by subst hk; exact h.mB) h.b⟩
theorem On.mk0 (HQ : Holds Q) (q : Q w X) (hx : ∀ k, X k → B ≤ k) (hB : B ≤ w.heap.size) : On Q B (.slice none 0 0) [] w.heap.size 0 (fun _ => false) X (w.alloc (.map #[] 0)) ∧ Below w.heap.size w (w.alloc (.map #[] 0)) := by
  have U := (Below.refl _ w).alloc (Nat.le_refl _) (.map #[] 0)
  have q' := HQ.below q U
  exact ⟨⟨q', fun k hk => ⟨hx k hk, HQ.lt q' k hk⟩, OwnY.nil _ _ _, SetI.made w, fun _ hk => (nomatch hk), fun h => by have := HQ.lt q _ h; omega, fun h => (nomatch h), hB, Nat.le_trans hB U.size⟩, U⟩
end
end Go.Proofs.Ytgppoapdpgblmaa
