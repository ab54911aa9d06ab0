/- An object of any number of parts that share no block: a row of its own, objects that it holds; what a turn of one of them does. For every type. -/
import Derived.Test.YtoajbocpebfjoaaSep
namespace Go.Proofs.Ytoajbocpebfjoaa
open Go.RowKit
set_option maxRecDepth 20000

abbrev Prt := World → (Nat → Prop) → Prop
/-- the blocks: its own, those of its parts -/
def ObB (g : Nat) (Xs : List (Nat → Prop)) : Nat → Prop := fun k => k = g ∨ ∃ (i : Nat) (X : Nat → Prop), Xs[i]? = some X ∧ X k
/-- at block g the cells cs; the i'th part over the i'th blocks; no block is in two of them -/
def ObL (g : Nat) (ty : TypeId) (cs : Array Value) (Ps : List Prt) (Xs : List (Nat → Prop)) (w : World) : Prop :=
  w.heap[g]? = some (.cells cs ty (0, 0)) ∧ Ps.length = Xs.length ∧ (∀ (i : Nat) (P : Prt) (X : Nat → Prop), Ps[i]? = some P → Xs[i]? = some X → P w X) ∧ (∀ (i : Nat) (X : Nat → Prop), Xs[i]? = some X → ¬ X g) ∧ ∀ (i j : Nat) (X Y : Nat → Prop), Xs[i]? = some X → Xs[j]? = some Y → i ≠ j → ∀ k, X k → ¬ Y k
def HoldsL (Ps : List Prt) : Prop := ∀ (i : Nat) (P : Prt), Ps[i]? = some P → Holds P
section
variable {g : Nat} {ty : TypeId} {cs : Array Value} {Ps : List Prt} {Xs : List (Nat → Prop)} {w w1 : World}
theorem ObL.part (h : ObL g ty cs Ps Xs w) (i : Nat) {P : Prt} {X : Nat → Prop} (hP : Ps[i]? = some P) (hX : Xs[i]? = some X) : P w X := h.2.2.1 i P X hP hX
theorem ObL.has (h : ObL g ty cs Ps Xs w) {i : Nat} {X : Nat → Prop} (hX : Xs[i]? = some X) : ∃ P, Ps[i]? = some P := by
  have hi : i < Ps.length := by rw [h.2.1]; exact (List.getElem?_eq_some_iff.1 hX).1
  exact ⟨_, List.getElem?_eq_getElem hi⟩
theorem ObL.lt (H : HoldsL Ps) (h : ObL g ty cs Ps Xs w) : ∀ k, ObB g Xs k → k < w.heap.size := fun k hk => by
  rcases hk with rfl | ⟨i, X, hX, hk⟩
  · exact obrow_lt h.1
  · obtain ⟨P, hP⟩ := h.has hX
    exact (H i P hP).lt (h.part i hP hX) k hk
theorem ObL.off {Y : Nat → Prop} (H : HoldsL Ps) (h : ObL g ty cs Ps Xs w) (o : Off Y w w1) (hd : ∀ k, ObB g Xs k → ¬ Y k) : ObL g ty cs Ps Xs w1 :=
  ⟨(o.block g (obrow_lt h.1) (hd g (.inl rfl))).trans h.1, h.2.1, fun i P X hP hX => (H i P hP).off (h.part i hP hX) o (fun k hk => hd k (.inr ⟨i, X, hX, hk⟩)), h.2.2.2⟩
theorem ObL.below (H : HoldsL Ps) (h : ObL g ty cs Ps Xs w) (T : Below w.heap.size w w1) : ObL g ty cs Ps Xs w1 := h.off (Y := fun _ => False) H (Off.of_below T) (fun _ _ h => h)
theorem get_set {α : Type} (l : List α) (i j : Nat) (a b : α) (h : (l.set i a)[j]? = some b) : (i = j ∧ b = a ∧ i < l.length) ∨ (i ≠ j ∧ l[j]? = some b) := by
  by_cases e : i = j
  · subst e
    have hi : i < l.length := by have := (List.getElem?_eq_some_iff.1 h).1; simpa using this
    rw [List.getElem?_set_self hi] at h
    exact .inl ⟨rfl, (Option.some.inj h).symm, hi⟩
  · rw [List.getElem?_set_ne e] at h
    exact .inr ⟨e, h⟩
/-- the i'th part is turned -/
theorem ObL.turn (H : HoldsL Ps) (h : ObL g ty cs Ps Xs w) (i : Nat) {P' : Prt} {X X' : Nat → Prop} (hX : Xs[i]? = some X) (hp : P' w1 X') (T : Turns X X' w w1) : ObL g ty cs (Ps.set i P') (Xs.set i X') w1 ∧ Turns (ObB g Xs) (ObB g (Xs.set i X')) w w1 := by
  have no := turns_no T
  have hlt := h.lt H
  obtain ⟨h1, h2, h3, h4, h5⟩ := h
  have l1 := obrow_lt h1
  have ltX : ∀ (j : Nat) (Y : Nat → Prop), Xs[j]? = some Y → ∀ k, Y k → k < w.heap.size := fun j Y hY k hk => hlt k (.inr ⟨j, Y, hY, hk⟩)
  refine ⟨⟨(T.off.block g l1 (h4 i X hX)).trans h1, by simpa using h2, fun j P Y hP hY => ?_, fun j Y hY => ?_, fun a b Y Z hY hZ hab k hk hz => ?_⟩, ⟨T.off.more (fun k hk => .inr ⟨i, X, hX, hk⟩), fun k hk => ?_⟩⟩
  · rcases get_set _ _ _ _ _ hP with ⟨rfl, rfl, _⟩ | ⟨e, hP⟩
    · rcases get_set _ _ _ _ _ hY with ⟨_, rfl, _⟩ | ⟨e, _⟩
      · exact hp
      · exact absurd rfl e
    · rcases get_set _ _ _ _ _ hY with ⟨e', _, _⟩ | ⟨_, hY⟩
      · exact absurd e' e
      · exact (H j P hP).off (h3 j P Y hP hY) T.off (fun k hk hx => h5 i j X Y hX hY e k hx hk)
  · rcases get_set _ _ _ _ _ hY with ⟨rfl, rfl, _⟩ | ⟨_, hY⟩
    · exact no g l1 (h4 i X hX)
    · exact h4 j Y hY
  · rcases get_set _ _ _ _ _ hY with ⟨ea, eY, _⟩ | ⟨ea, gY⟩
    · rcases get_set _ _ _ _ _ hZ with ⟨eb, _, _⟩ | ⟨eb, gZ⟩
      · exact hab (ea.symm.trans eb)
      · rw [eY] at hk
        exact no k (ltX b Z gZ k hz) (fun hx => h5 i b X Z hX gZ eb k hx hz) hk
    · rcases get_set _ _ _ _ _ hZ with ⟨eb, eZ, _⟩ | ⟨_, gZ⟩
      · rw [eZ] at hz
        exact no k (ltX a Y gY k hk) (fun hx => h5 i a X Y hX gY ea k hx hk) hz
      · exact h5 a b Y Z gY gZ hab k hk hz
  · rcases hk with hk | ⟨j, Y, hY, hk⟩
    · exact .inl (.inl hk)
    · rcases get_set _ _ _ _ _ hY with ⟨_, rfl, _⟩ | ⟨_, hY⟩
      · exact (T.grow k hk).imp (fun h => .inr ⟨i, X, hX, h⟩) id
      · exact .inl (.inr ⟨j, Y, hY, hk⟩)
/-- a cell of its own is stored -/
theorem ObL.c (H : HoldsL Ps) (h : ObL g ty cs Ps Xs w) (j : Nat) (x : Value) : ObL g ty (cs.setIfInBounds j x) Ps Xs (w.setCell ⟨g, j, none⟩ x) ∧ Turns (ObB g Xs) (ObB g Xs) w (w.setCell ⟨g, j, none⟩ x) := by
  obtain ⟨h1, h2, h3, h4, h5⟩ := h
  have O : Off (· = g) w (w.setCell ⟨g, j, none⟩ x) := (Off.refl (· = g) w).setCell (p := ⟨g, j, none⟩) (.inl rfl) x
  exact ⟨⟨heap_setCell_same w g j _ _ x h1, h2, fun i P X hP hX => (H i P hP).off (h3 i P X hP hX) O (fun k hk e => h4 i X hX (e ▸ hk)), h4, h5⟩, ⟨O.more (fun k hk => .inl hk), fun k hk => .inl hk⟩⟩
theorem ObL.cell (h : ObL g ty cs Ps Xs w) (j : Nat) : w.cell? ⟨g, j, none⟩ = cs[j]? := cell_of_row _ _ _ _ _ _ h.1
theorem ObL.froz (h : ObL g ty cs Ps Xs w) (j : Nat) : w.frozen? ⟨g, j, none⟩ = false := frozen_of_row _ _ _ _ _ h.1
theorem ObL.avoid (h : ObL g ty cs Ps Xs w) (i : Nat) {X : Nat → Prop} (hX : Xs[i]? = some X) {n : Nat} {A : Option Addr} {Y : Nat → Prop} (hA : Av (fun k => Y k ∨ ¬ X k) n A) : Av (ObB g (Xs.set i Y)) n A := hA.imp (fun k hk => by
  rcases hk with rfl | ⟨j, Z, hZ, hk⟩
  · exact .inr (h.2.2.2.1 i X hX)
  · rcases get_set _ _ _ _ _ hZ with ⟨_, rfl, _⟩ | ⟨e, hZ⟩
    · exact .inl hk
    · exact .inr (fun hx => h.2.2.2.2 i j X Z hX hZ e k hx hk))
end
section
variable {g : Nat} {ty : TypeId} {cs : Array Value} {Ps : List Prt} {P : Prt} {Xs : List (Nat → Prop)} {X : Nat → Prop} {w : World}
theorem get_snoc {α : Type} (l : List α) (a b : α) (j : Nat) (h : (l ++ [a])[j]? = some b) : (j < l.length ∧ l[j]? = some b) ∨ (j = l.length ∧ b = a) := by
  rcases Nat.lt_trichotomy j l.length with h1 | h1 | h1
  · rw [List.getElem?_append_left h1] at h; exact .inl ⟨h1, h⟩
  · subst h1; simp at h; exact .inr ⟨rfl, h.symm⟩
  · rw [List.getElem?_append_right (by omega), show j - l.length = (j - l.length - 1) + 1 by omega] at h; simp at h
theorem ObB_snoc : ObB g (Xs ++ [X]) = fun k => ObB g Xs k ∨ X k := by
  funext k
  refine propext ⟨fun h => ?_, fun h => ?_⟩
  · rcases h with h | ⟨i, Z, hZ, hk⟩
    · exact .inl (.inl h)
    · rcases get_snoc _ _ _ _ hZ with ⟨_, hZ⟩ | ⟨_, rfl⟩
      · exact .inl (.inr ⟨i, Z, hZ, hk⟩)
      · exact .inr hk
  · rcases h with (h | ⟨i, Z, hZ, hk⟩) | hk
    · exact .inl h
    · exact .inr ⟨i, Z, by rw [List.getElem?_append_left (List.getElem?_eq_some_iff.1 hZ).1]; exact hZ, hk⟩
    · exact .inr ⟨Xs.length, X, by simp, hk⟩
/-- one part more -/
theorem ObL.snoc (h : ObL g ty cs Ps Xs w) (hp : P w X) (hd : ∀ k, ObB g Xs k → ¬ X k) : ObL g ty cs (Ps ++ [P]) (Xs ++ [X]) w := by
  obtain ⟨h1, h2, h3, h4, h5⟩ := h
  refine ⟨h1, by simp [h2], fun i P' X' hP' hX' => ?_, fun i X' hX' => ?_, fun i j A B hA hB hij k hk hk' => ?_⟩
  · rcases get_snoc _ _ _ _ hP' with ⟨a, hP'⟩ | ⟨a, rfl⟩
    · rcases get_snoc _ _ _ _ hX' with ⟨b, hX'⟩ | ⟨b, rfl⟩
      · exact h3 i P' X' hP' hX'
      · omega
    · rcases get_snoc _ _ _ _ hX' with ⟨b, hX'⟩ | ⟨b, rfl⟩
      · omega
      · exact hp
  · rcases get_snoc _ _ _ _ hX' with ⟨_, hX'⟩ | ⟨_, rfl⟩
    · exact h4 i X' hX'
    · exact hd g (.inl rfl)
  · rcases get_snoc _ _ _ _ hA with ⟨a, hA⟩ | ⟨a, eA⟩
    · rcases get_snoc _ _ _ _ hB with ⟨b, hB⟩ | ⟨b, eB⟩
      · exact h5 i j A B hA hB hij k hk hk'
      · rw [eB] at hk'
        exact hd k (.inr ⟨i, A, hA, hk⟩) hk'
    · rcases get_snoc _ _ _ _ hB with ⟨b, hB⟩ | ⟨b, eB⟩
      · rw [eA] at hk
        exact hd k (.inr ⟨j, B, hB, hk'⟩) hk
      · omega
theorem ObL.unsnoc (h : ObL g ty cs (Ps ++ [P]) Xs w) : ∃ Xs0 X, Xs = Xs0 ++ [X] ∧ ObL g ty cs Ps Xs0 w ∧ P w X ∧ ∀ k, ObB g Xs0 k → ¬ X k := by
  obtain ⟨h1, h2, h3, h4, h5⟩ := h
  have hn : Xs ≠ [] := by
    intro e
    rw [e] at h2
    simp at h2
  obtain ⟨Xs0, X, rfl⟩ : ∃ Xs0 X, Xs = Xs0 ++ [X] := ⟨Xs.dropLast, Xs.getLast hn, (List.dropLast_concat_getLast hn).symm⟩
  have hl : Ps.length = Xs0.length := by simpa using h2
  have up : ∀ {j : Nat} {Z : Nat → Prop}, Xs0[j]? = some Z → (Xs0 ++ [X])[j]? = some Z := fun {j Z} h => by
    rw [List.getElem?_append_left (List.getElem?_eq_some_iff.1 h).1]; exact h
  have upP : ∀ {j : Nat} {Z : Prt}, Ps[j]? = some Z → (Ps ++ [P])[j]? = some Z := fun {j Z} h => by
    rw [List.getElem?_append_left (List.getElem?_eq_some_iff.1 h).1]; exact h
  have hX : (Xs0 ++ [X])[Xs0.length]? = some X := by simp
  refine ⟨Xs0, X, rfl, ⟨h1, hl, fun i P' X' a b => h3 i P' X' (upP a) (up b), fun i X' a => h4 i X' (up a), fun i j A B a b => h5 i j A B (up a) (up b)⟩, h3 Ps.length P X (by simp) (by rw [hl]; exact hX), fun k hk hx => ?_⟩
  rcases hk with rfl | ⟨i, Z, hZ, hk⟩
  · exact h4 _ X hX hx
  · have := (List.getElem?_eq_some_iff.1 hZ).1
    exact h5 i Xs0.length Z X (up hZ) hX (by omega) k hk hx
end
/-- numbers (int) in a row of one's own, as a part -/
def OZp (v : Value) (l : List Int) : Prt := fun w X => w.ownsRow 0 3 1 v l.length (l.map fun k : Int => Value.int .i64 k) ∧ (∀ k, v.ownBlock = some k → X k) ∧ ∀ k, X k → k < w.heap.size
theorem OZp.holds (v : Value) (l : List Int) : Holds (OZp v l) where
  lt := fun h => h.2.2
  off := fun h o hd => ⟨own_block_off h.1 o (fun k hk => hd k (h.2.1 k hk)), h.2.1, fun k hk => Nat.lt_of_lt_of_le (h.2.2 k hk) o.size⟩
end Go.Proofs.Ytoajbocpebfjoaa
