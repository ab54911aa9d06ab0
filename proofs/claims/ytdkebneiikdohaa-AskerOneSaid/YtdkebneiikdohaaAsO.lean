/- Plain facts for layer 27's AskerOne: what one act makes of an asker. -/
import Derived.Test.YtdkebneiikdohaaAsD
import Derived.Test.YtdkebneiikdohaaSep
namespace Go.Proofs.Ytdkebneiikdohaa
open Go.RowKit
set_option maxRecDepth 20000

def asAct (s : Ass) (x : Act27) : Ass := if x.1 = 0 then asSend s x.2.2.1 else if x.1 = 1 then asTick s else if x.1 = 2 then asTake s x.2.2.2.1 x.2.2.2.2.1 x.2.2.2.2.2.2.1 else s
/-- the packets that the law looks at -/
def asActL (s : Ass) (x : Act27) : List Tok := if x.1 = 1 then asTickL s else if x.1 = 2 then asTakeL s x.2.2.2.1 x.2.2.2.2.1 x.2.2.2.2.2.1 x.2.2.2.2.2.2.1 else []
theorem AsFew.act {j : Nat} {s : Ass} (h : AsFew j s) (hj : j < 900000) (x : Act27) (hR : x.2.2.2.2.2.2.1 < 18446744073709551616) : AsFew (j + 1) (asAct s x) := by
  unfold asAct
  split
  · exact h.send hj _
  · split
    · exact h.tick
    · split
      · exact h.take hj _ _ hR
      · exact h.more
def AsR (s s2 : Ass) (x : Act27) (lo : List Tok) : Prop :=
  lo.length ≤ 1 ∧ (∀ t ∈ lo, t.1 = 2 → t.2.1 = s.t ∧ x.1 = 2 ∧ t.2.2.1 = x.2.2.2.2.2.1 ∧ (s.bound = true → s.r = x.2.2.2.2.2.2.1) ∧ s2.bound = true ∧ s2.r = x.2.2.2.2.2.2.1) ∧
  (s2.told = s.told ∨ ∃ o, s2.told = s.told ++ [o] ∧ (o = 1 ∨ (o = 2 ∧ x.2.2.2.1 = 1 ∧ s.bound = true ∧ s.r ≠ x.2.2.2.2.2.2.1 ∧ s.t = x.2.2.2.2.1)))
theorem asOn_told (s : Ass) (o : Int) : (asOn s o).told = s.told ++ [o] := by
  unfold asOn
  split <;> rfl
theorem asOnL_ok (s : Ass) : (asOnL s).length ≤ 1 ∧ ∀ t ∈ asOnL s, t.1 ≠ 2 := by
  unfold asOnL
  split
  · exact ⟨Nat.zero_le _, fun t ht => by cases ht⟩
  · refine ⟨Nat.le_refl _, fun t ht => ?_⟩
    unfold asBegL at ht
    simp at ht
    subst ht
    show (0 : Int) ≠ 2
    omega
theorem asRound {s : Ass} (_ : AsOk s) (x : Act27) : AsR s (asAct s x) x (asActL s x) := by
  unfold asAct asActL AsR
  by_cases h0 : x.1 = 0
  · rw [if_pos h0, if_neg (by omega), if_neg (by omega)]
    refine ⟨Nat.zero_le _, (fun t ht => by cases ht), .inl ?_⟩
    unfold asSend
    split
    · split <;> rfl
    · rfl
  · rw [if_neg h0]
    by_cases h1 : x.1 = 1
    · rw [if_pos h1, if_pos h1]
      refine ⟨?_, fun t ht h2 => ?_, .inl ?_⟩
      · unfold asTickL
        split
        · exact Nat.zero_le _
        · exact Nat.le_refl _
      · unfold asTickL at ht
        split at ht
        · cases ht
        · simp at ht
          subst ht
          have h2 : (0 : Int) = 2 := h2
          omega
      · unfold asTick
        split <;> rfl
    · rw [if_neg h1, if_neg h1]
      by_cases h2 : x.1 = 2
      · rw [if_pos h2, if_pos h2]
        unfold asTake asTakeL
        by_cases g1 : s.ls = [] ∨ x.2.2.2.2.1 ≠ s.t
        · rw [if_pos g1, if_pos g1]
          exact ⟨Nat.zero_le _, (fun t ht => by cases ht), .inl rfl⟩
        · rw [if_neg g1, if_neg g1]
          by_cases g2 : x.2.2.2.1 = 3
          · rw [if_pos g2, if_pos g2]
            exact ⟨(asOnL_ok s).1, fun t ht h => absurd h ((asOnL_ok s).2 t ht), .inr ⟨1, asOn_told s 1, .inl rfl⟩⟩
          · rw [if_neg g2, if_neg g2]
            by_cases g3 : x.2.2.2.1 = 1
            · rw [if_pos g3, if_pos g3]
              by_cases g4 : s.bound = true ∧ x.2.2.2.2.2.2.1 ≠ s.r
              · rw [if_pos g4, if_pos g4]
                exact ⟨(asOnL_ok s).1, fun t ht h => absurd h ((asOnL_ok s).2 t ht), .inr ⟨2, asOn_told s 2, .inr ⟨rfl, g3, g4.1, fun e => g4.2 e.symm, Classical.byContradiction fun e => g1 (.inr fun e' => e e'.symm)⟩⟩⟩
              · rw [if_neg g4, if_neg g4]
                refine ⟨Nat.le_refl _, fun t ht _ => ?_, .inl rfl⟩
                simp at ht
                subst ht
                exact ⟨rfl, h2, rfl, fun hb => Classical.byContradiction fun e => g4 ⟨hb, fun e' => e e'.symm⟩, rfl, rfl⟩
            · rw [if_neg g3, if_neg g3]
              exact ⟨Nat.zero_le _, (fun t ht => by cases ht), .inl rfl⟩
      · rw [if_neg h2, if_neg h2]
        exact ⟨Nat.zero_le _, (fun t ht => by cases ht), .inl rfl⟩
/-- an object P over X from block B on, and two structs off it -/
def Kp (B : Nat) (P : World → (Nat → Prop) → Prop) (X : Nat → Prop) (x1 : Nat) (Z1 : Obj) (x2 : Nat) (Z2 : Obj) (w : World) : Prop := OneAt B P X w ∧ (w.heap[x1]? = some Z1 ∧ ¬ X x1) ∧ w.heap[x2]? = some Z2 ∧ ¬ X x2
section
variable {B x1 x2 : Nat} {P P' : World → (Nat → Prop) → Prop} {X X' : Nat → Prop} {Z1 Z2 : Obj} {w w' : World}
theorem Kp.turn (h : Kp B P X x1 Z1 x2 Z2 w) (h' : P' w' X') (T : Turns X X' w w') : Kp B P' X' x1 Z1 x2 Z2 w' ∧ Below B w w' := by
  obtain ⟨h1, ⟨h2, h3⟩, h4, h5⟩ := h
  obtain ⟨o, b⟩ := h1.turn h' T
  exact ⟨⟨o, ⟨(T.off.block x1 (obrow_lt h2) h3).trans h2, turns_no T _ (obrow_lt h2) h3⟩, (T.off.block x2 (obrow_lt h4) h5).trans h4, turns_no T _ (obrow_lt h4) h5⟩, b⟩
theorem Kp.below (H : Holds P) (h : Kp B P X x1 Z1 x2 Z2 w) (T : Below w.heap.size w w') : Kp B P X x1 Z1 x2 Z2 w' := by
  obtain ⟨h1, ⟨h2, h3⟩, h4, h5⟩ := h
  exact ⟨h1.below H T, ⟨(T.block x1 (obrow_lt h2)).trans h2, h3⟩, (T.block x2 (obrow_lt h4)).trans h4, h5⟩
theorem Kp.start (H : Holds P) (h : OneAt B P X w) : Kp B P X w.heap.size Z1 (w.heap.size + 1) Z2 ((w.alloc Z1).alloc Z2) ∧ Below B w ((w.alloc Z1).alloc Z2) := by
  have T1 := (Below.refl _ w).alloc (Nat.le_refl _) Z1
  have T2 := (Below.refl _ (w.alloc Z1)).alloc (Nat.le_refl _) Z2
  have hlt := H.lt h.1
  have h0 := heap_alloc_new w Z1
  have hs : (w.alloc Z1).heap.size = w.heap.size + 1 := by simp
  have h2 := heap_alloc_new (w.alloc Z1) Z2
  rw [hs] at h2
  exact ⟨⟨h.below H (nxt T1 T2), ⟨(T2.block _ (obrow_lt h0)).trans h0, fun hx => by have := hlt _ hx; omega⟩, h2, fun hx => by have := hlt _ hx; omega⟩, (nxt T1 T2).mono h.2.2⟩
end
end Go.Proofs.Ytdkebneiikdohaa
