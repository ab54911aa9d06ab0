/- A queue and two lists of the law's own: what came out of it, what went in. Nothing of the program's own functions is in here. -/
import Derived.Test.YtpidbgnlehikeaaQuC
namespace Go.Proofs.Ytpidbgnlehikeaa
open Go.RowKit
set_option maxRecDepth 20000

structure Ln (Q : World → (Nat → Prop) → Prop) (B : Nat) (vo vi : Value) (outs ins : List (List UInt8)) (X : Nat → Prop) (w : World) : Prop where
  q : Q w X
  lt : ∀ k, X k → B ≤ k ∧ k < w.heap.size
  o : OwnY w B (fun k => X k ∨ vi.ownBlock = some k) vo outs
  i : OwnY w B (B ≤ ·) vi ins
  ox : ∀ k, vo.ownBlock = some k → ¬ X k
  ix : ∀ k, vi.ownBlock = some k → ¬ X k
  oi : ∀ k, vo.ownBlock = some k → vi.ownBlock ≠ some k
  b : B ≤ w.heap.size
section
variable {Q Q' : World → (Nat → Prop) → Prop} {B : Nat} {vo vi : Value} {outs ins : List (List UInt8)} {X X' : Nat → Prop} {w w' : World}
theorem Ln.below (HQ : Holds Q) (h : Ln Q B vo vi outs ins X w) (T : Below w.heap.size w w') : Ln Q B vo vi outs ins X w' :=
  ⟨HQ.below h.q T, fun k hk => ⟨(h.lt k hk).1, HQ.lt (HQ.below h.q T) k hk⟩, h.o.below T, h.i.below T, h.ox, h.ix, h.oi, Nat.le_trans h.b T.size⟩
theorem Ln.turn (HQ' : Holds Q') (h : Ln Q B vo vi outs ins X w) (q' : Q' w' X') (T : Turns X X' w w') : Ln Q' B vo vi outs ins X' w' ∧ Below B w w' := by
  have hg : ∀ k, X' k → B ≤ k := fun k hk => by
    rcases T.grow k hk with h1 | h1
    · exact (h.lt k h1).1
    · exact Nat.le_trans h.b h1
  have hn : ∀ k, k < w.heap.size → ¬ X k → ¬ X' k := fun k hk hx hy => by
    rcases T.grow k hy with h1 | h1
    · exact hx h1
    · omega
  refine ⟨⟨q', fun k hk => ⟨hg k hk, HQ'.lt q' k hk⟩, ?_, h.i.off T.off (fun k _ hx => (h.lt k hx).1) h.ix, fun k hk => hn k (h.o.lt k hk).2 (h.ox k hk), fun k hk => hn k (h.i.lt k hk).2 (h.ix k hk), h.oi, Nat.le_trans h.b T.off.size⟩, T.off.below (fun k hk => (h.lt k hk).1) h.b⟩
  refine ((h.o.imp (Z' := fun k => X k ∨ vi.ownBlock = some k ∨ w.heap.size ≤ k) (fun k hk hz => ?_)).off T.off (fun k _ hx => .inl hx) h.ox).imp (fun k hk hz => ?_)
  · rcases hz with hz | hz | hz
    · exact .inl hz
    · exact .inr hz
    · omega
  · rcases hz with hz | hz
    · exact (T.grow k hz).elim .inl (fun h => .inr (.inr h))
    · exact .inr (.inl hz)
/-- one text more came out -/
theorem Ln.outed (HQ : Holds Q) (h : Ln Q B vo vi outs ins X w) {v' : Value} {outs' : List (List UInt8)} {w1 : World} (T : Below w.heap.size w w1) (ho : OwnY w' B (fun k => X k ∨ vi.ownBlock = some k) v' outs') (hg : w1.grownBy w' vo.ownBlock) (hw : v'.ownBlock = vo.ownBlock ∨ v'.ownBlock = some w1.heap.size) : Ln Q B v' vi outs' ins X w' ∧ Below B w w' := by
  have hs := T.size
  have O : Off (fun k => vo.ownBlock = some k) w w' := (Off.of_below T).grown hg (fun k hk => .inl hk)
  have q' := HQ.off h.q O (fun k hx ho => h.ox k ho hx)
  refine ⟨⟨q', fun k hk => ⟨(h.lt k hk).1, HQ.lt q' k hk⟩, ho, h.i.off O (fun k _ hk => (h.o.lt k hk).1) (fun k hk ho => h.oi k ho hk), fun k hk hx => ?_, h.ix, fun k hk hi => ?_, Nat.le_trans h.b O.size⟩, O.below (fun k hk => (h.o.lt k hk).1) h.b⟩
  · rcases hw with e | e
    · exact h.ox k (e ▸ hk) hx
    · rw [e] at hk; injection hk with hk; have := (h.lt k hx).2; omega
  · rcases hw with e | e
    · exact h.oi k (e ▸ hk) hi
    · rw [e] at hk; injection hk with hk; have := (h.i.lt k hi).2; omega
/-- one text more went in -/
theorem Ln.inned (HQ : Holds Q) (h : Ln Q B vo vi outs ins X w) {v' : Value} {ins' : List (List UInt8)} {w1 : World} (T : Below w.heap.size w w1) (ho : OwnY w' B (B ≤ ·) v' ins') (hg : w1.grownBy w' vi.ownBlock) (hw : v'.ownBlock = vi.ownBlock ∨ v'.ownBlock = some w1.heap.size) : Ln Q B vo v' outs ins' X w' ∧ Below B w w' := by
  have hs := T.size
  have O : Off (fun k => vi.ownBlock = some k) w w' := (Off.of_below T).grown hg (fun k hk => .inl hk)
  have q' := HQ.off h.q O (fun k hx ho => h.ix k ho hx)
  refine ⟨⟨q', fun k hk => ⟨(h.lt k hk).1, HQ.lt q' k hk⟩, ?_, ho, h.ox, fun k hk hx => ?_, fun k hk hi => ?_, Nat.le_trans h.b O.size⟩, O.below (fun k hk => (h.i.lt k hk).1) h.b⟩
  · refine ((h.o.imp (Z' := fun k => X k ∨ vi.ownBlock = some k ∨ w.heap.size ≤ k) (fun k hk hz => ?_)).off O (fun k _ hx => .inr (.inl hx)) (fun k hk hi => h.oi k hk hi)).imp (fun k hk hz => ?_)
    · rcases hz with hz | hz | hz
      · exact .inl hz
      · exact .inr hz
      · omega
    · rcases hz with hz | hz
      · exact .inl hz
      · rcases hw with e | e
        · exact .inr (.inl (e ▸ hz))
        · rw [e] at hz; injection hz with hz; exact .inr (.inr (by omega))
  · rcases hw with e | e
    · exact h.ix k (e ▸ hk) hx
    · rw [e] at hk; injection hk with hk; have := (h.lt k hx).2; omega
  · rcases hw with e | e
    · exact h.oi k hk (e ▸ hi)
    · rw [e] at hi; injection hi with hi; have := (h.o.lt k hk).2; omega
/-- what the queue told stands where neither it nor the lists lie -/
theorem Ln.told (h : Ln Q B vo vi outs ins X w) {A : Option Addr} {n : Nat} (hx : Av X' n A) (ha : 0 < n → ∀ p, A = some p → X p.block ∨ w.heap.size ≤ p.block) : Av (fun k => X' k ∨ vi.ownBlock = some k ∨ vo.ownBlock = some k) n A := fun hn p e hy => by
  rcases hy with hy | hy | hy
  · exact hx hn p e hy
  · rcases ha hn p e with h1 | h1
    · exact h.ix _ hy h1
    · have := (h.i.lt _ hy).2; omega
  · rcases ha hn p e with h1 | h1
    · exact h.ox _ hy h1
    · have := (h.o.lt _ hy).2; omega
theorem Ln.mk0 (HQ : Holds Q) (q : Q w X) (hx : ∀ k, X k → B ≤ k) (hB : B ≤ w.heap.size) : Ln Q B (.slice none 0 0) (.slice none 0 0) [] [] X w :=
  ⟨q, fun k hk => ⟨hx k hk, HQ.lt q k hk⟩, OwnY.nil _ _ _, OwnY.nil _ _ _, fun _ hk => (nomatch hk), fun _ hk => (nomatch hk), fun _ hk => (nomatch hk), hB⟩
end
theorem OwnY.rws {w : World} {B : Nat} {Z : Nat → Prop} {P : Option Addr} {n c : Nat} {ls : List (List UInt8)} (h : OwnY w B Z (.slice P n c) ls) : ls.length = n ∧ Rws w P n c ls := by
  obtain ⟨P', c', e, _, _, h3, _⟩ := h.shape
  injection e with e1 e2 e3
  subst e1 e2 e3
  exact ⟨rfl, h3⟩
end Go.Proofs.Ytpidbgnlehikeaa
