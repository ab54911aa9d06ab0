/- An object of three parts that share no block: a row of its own, two objects that it holds; what a turn of one of them does. For every type. -/
import Derived.Test.YtoajbocpebfjoaaObj
namespace Go.Proofs.Ytoajbocpebfjoaa
open Go.RowKit
set_option maxRecDepth 20000

/-- the blocks: its own, those of the two -/
def Ob3 (g : Nat) (Xp Xq : Nat → Prop) : Nat → Prop := fun k => k = g ∨ Xp k ∨ Xq k
/-- at block g the cells cs; P over Xp, Q over Xq; no block is in two of them -/
def Ob (g : Nat) (ty : TypeId) (cs : Array Value) (P Q : World → (Nat → Prop) → Prop) (Xp Xq : Nat → Prop) (w : World) : Prop :=
  w.heap[g]? = some (.cells cs ty (0, 0)) ∧ P w Xp ∧ Q w Xq ∧ ¬ Xp g ∧ ¬ Xq g ∧ ∀ k, Xp k → ¬ Xq k
section
variable {g : Nat} {ty : TypeId} {cs : Array Value} {P P' Q Q' : World → (Nat → Prop) → Prop} {Xp Xp' Xq Xq' Y : Nat → Prop} {w w1 : World}
theorem obrow_lt {o : Obj} (h : w.heap[g]? = some o) : g < w.heap.size := by
  rcases Nat.lt_or_ge g w.heap.size with h1 | h1
  · exact h1
  · rw [Array.getElem?_eq_none h1] at h; cases h
theorem Ob.lt (HP : Holds P) (HQ : Holds Q) (h : Ob g ty cs P Q Xp Xq w) : ∀ k, Ob3 g Xp Xq k → k < w.heap.size := fun k hk => by
  rcases hk with rfl | hk | hk
  · exact obrow_lt h.1
  · exact HP.lt h.2.1 k hk
  · exact HQ.lt h.2.2.1 k hk
theorem Ob.off (HP : Holds P) (HQ : Holds Q) (h : Ob g ty cs P Q Xp Xq w) (o : Off Y w w1) (hd : ∀ k, Ob3 g Xp Xq k → ¬ Y k) : Ob g ty cs P Q Xp Xq w1 := by
  obtain ⟨h1, h2, h3, h4, h5, h6⟩ := h
  exact ⟨(o.block g (obrow_lt h1) (hd g (.inl rfl))).trans h1, HP.off h2 o (fun k hk => hd k (.inr (.inl hk))), HQ.off h3 o (fun k hk => hd k (.inr (.inr hk))), h4, h5, h6⟩
theorem Ob.below (HP : Holds P) (HQ : Holds Q) (h : Ob g ty cs P Q Xp Xq w) (T : Below w.heap.size w w1) : Ob g ty cs P Q Xp Xq w1 := h.off (Y := fun _ => False) HP HQ (Off.of_below T) (fun _ _ h => h)
theorem turns_no {X X' : Nat → Prop} (T : Turns X X' w w1) : ∀ k, k < w.heap.size → ¬ X k → ¬ X' k := fun k hk hx hy => by
  rcases T.grow k hy with h | h
  · exact hx h
  · omega
/-- the first one is turned -/
theorem Ob.p (HQ : Holds Q) (h : Ob g ty cs P Q Xp Xq w) (hp : P' w1 Xp') (T : Turns Xp Xp' w w1) : Ob g ty cs P' Q Xp' Xq w1 ∧ Turns (Ob3 g Xp Xq) (Ob3 g Xp' Xq) w w1 := by
  obtain ⟨h1, h2, h3, h4, h5, h6⟩ := h
  have l1 := obrow_lt h1
  have no := turns_no T
  refine ⟨⟨(T.off.block g l1 h4).trans h1, hp, HQ.off h3 T.off (fun k hk hx => h6 k hx hk), no g l1 h4, h5, fun k hk hx => ?_⟩, ⟨T.off.more (fun k hk => .inr (.inl hk)), fun k hk => ?_⟩⟩
  · exact no k (HQ.lt h3 k hx) (fun h => h6 k h hx) hk
  · rcases hk with hk | hk | hk
    · exact .inl (.inl hk)
    · exact (T.grow k hk).imp (fun h => .inr (.inl h)) id
    · exact .inl (.inr (.inr hk))
/-- the second one is turned -/
theorem Ob.q (HP : Holds P) (h : Ob g ty cs P Q Xp Xq w) (hq : Q' w1 Xq') (T : Turns Xq Xq' w w1) : Ob g ty cs P Q' Xp Xq' w1 ∧ Turns (Ob3 g Xp Xq) (Ob3 g Xp Xq') w w1 := by
  obtain ⟨h1, h2, h3, h4, h5, h6⟩ := h
  have l1 := obrow_lt h1
  have no := turns_no T
  refine ⟨⟨(T.off.block g l1 h5).trans h1, HP.off h2 T.off (fun k hk hx => h6 k hk hx), hq, h4, no g l1 h5, fun k hk hx => ?_⟩, ⟨T.off.more (fun k hk => .inr (.inr hk)), fun k hk => ?_⟩⟩
  · exact no k (HP.lt h2 k hk) (fun h => h6 k hk h) hx
  · rcases hk with hk | hk | hk
    · exact .inl (.inl hk)
    · exact .inl (.inr (.inl hk))
    · exact (T.grow k hk).imp (fun h => .inr (.inr h)) id
/-- a cell of its own is stored -/
theorem Ob.c (HP : Holds P) (HQ : Holds Q) (h : Ob g ty cs P Q Xp Xq w) (j : Nat) (x : Value) : Ob g ty (cs.setIfInBounds j x) P Q Xp Xq (w.setCell ⟨g, j, none⟩ x) ∧ Turns (Ob3 g Xp Xq) (Ob3 g Xp Xq) w (w.setCell ⟨g, j, none⟩ x) := by
  obtain ⟨h1, h2, h3, h4, h5, h6⟩ := h
  have O : Off (· = g) w (w.setCell ⟨g, j, none⟩ x) := (Off.refl (· = g) w).setCell (p := ⟨g, j, none⟩) (.inl rfl) x
  exact ⟨⟨heap_setCell_same w g j _ _ x h1, HP.off h2 O (fun k hk e => h4 (e ▸ hk)), HQ.off h3 O (fun k hk e => h5 (e ▸ hk)), h4, h5, h6⟩, ⟨O.more (fun k hk => .inl hk), fun k hk => .inl hk⟩⟩
theorem Ob.cell (h : Ob g ty cs P Q Xp Xq w) (j : Nat) : w.cell? ⟨g, j, none⟩ = cs[j]? := cell_of_row _ _ _ _ _ _ h.1
theorem Ob.froz (h : Ob g ty cs P Q Xp Xq w) (j : Nat) : w.frozen? ⟨g, j, none⟩ = false := frozen_of_row _ _ _ _ _ h.1
/-- what it says of the cells alone, by other names -/
theorem Ob.imp (h : Ob g ty cs P Q Xp Xq w) {cs' : Array Value} (e : cs = cs') : Ob g ty cs' P Q Xp Xq w := e ▸ h
end
end Go.Proofs.Ytoajbocpebfjoaa
