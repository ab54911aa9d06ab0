/- Objects in memory by the blocks that are theirs: what a call may turn; two objects that share no block; results in memory of their own that may be written; lists of slices within an object. Nothing of the program's own functions is in here. -/
import Derived.Test.YtoajbocpebfjoaaFresh
import Derived.Test.YtoajbocpebfjoaaResC
namespace Go.Proofs.Ytoajbocpebfjoaa
open Go.RowKit
set_option maxRecDepth 20000

/-- what a call may do to an object whose blocks are X: what is not X's stays; what is the object's behind it was X's or is new -/
structure Turns (X X' : Nat → Prop) (w w' : World) : Prop where
  off : Off X w w'
  grow : ∀ k, X' k → X k ∨ w.heap.size ≤ k
theorem Off.more {X Y : Nat → Prop} {w w' : World} (h : Off X w w') (hX : ∀ k, X k → Y k) : Off Y w w' := ⟨h.os, h.tape, h.output, h.size, fun k hk hy => h.block k hk (fun hx => hy (hX k hx))⟩
theorem Off.thru {X Y : Nat → Prop} {a b c : World} (h : Off X a b) (k : Off Y b c) (hY : ∀ i, i < a.heap.size → Y i → X i) : Off X a c := ⟨k.os.trans h.os, k.tape.trans h.tape, k.output.trans h.output, Nat.le_trans h.size k.size, fun i hi hx => (k.block i (Nat.lt_of_lt_of_le hi h.size) (fun hy => hx (hY i hi hy))).trans (h.block i hi hx)⟩
theorem Turns.of_below {X : Nat → Prop} {w w' : World} (h : Below w.heap.size w w') : Turns X X w w' := ⟨Off.of_below h, fun _ hk => .inl hk⟩
theorem Turns.next {X X' : Nat → Prop} {a b c : World} (h : Turns X X' a b) (k : Below b.heap.size b c) : Turns X X' a c := ⟨h.off.next k, h.grow⟩
theorem Turns.trans {X X' X'' : Nat → Prop} {a b c : World} (h : Turns X X' a b) (k : Turns X' X'' b c) : Turns X X'' a c :=
  ⟨⟨k.off.os.trans h.off.os, k.off.tape.trans h.off.tape, k.off.output.trans h.off.output, Nat.le_trans h.off.size k.off.size, fun i hi hx => (k.off.block i (Nat.lt_of_lt_of_le hi h.off.size) (fun h' => by rcases h.grow i h' with h1 | h1; exact hx h1; omega)).trans (h.off.block i hi hx)⟩,
   fun i hi => by
    rcases k.grow i hi with h1 | h1
    · exact h.grow i h1
    · exact .inr (Nat.le_trans h.off.size h1)⟩
/-- an object: the blocks of it are there; it stays as it is where none of them is turned -/
structure Holds (P : World → (Nat → Prop) → Prop) : Prop where
  lt : ∀ {w X}, P w X → ∀ k, X k → k < w.heap.size
  off : ∀ {w w' X Y}, P w X → Off Y w w' → (∀ k, X k → ¬ Y k) → P w' X
theorem Holds.below {P : World → (Nat → Prop) → Prop} (H : Holds P) {w w' : World} {X : Nat → Prop} (h : P w X) (T : Below w.heap.size w w') : P w' X := H.off (Y := fun _ => False) h (Off.of_below T) (fun _ _ h => h)
/-- one object, all of its blocks from B on -/
def One (B : Nat) (P : World → (Nat → Prop) → Prop) (w : World) : Prop := ∃ X, P w X ∧ ∀ k, X k → B ≤ k
/-- two objects that share no block, all from B on -/
def Two (B : Nat) (P Q : World → (Nat → Prop) → Prop) (w : World) : Prop := ∃ X Y, P w X ∧ Q w Y ∧ (∀ k, X k → B ≤ k) ∧ (∀ k, Y k → B ≤ k) ∧ ∀ k, X k → ¬ Y k
section
variable {B : Nat} {P P' Q Q' : World → (Nat → Prop) → Prop} {w w' : World}
theorem One.below (H : Holds P) (h : One B P w) (T : Below w.heap.size w w') : One B P w' := by
  obtain ⟨X, h1, h2⟩ := h
  exact ⟨X, H.below h1 T, h2⟩
/-- a call that turns the object -/
theorem One.turn (h : One B P w) (hB : B ≤ w.heap.size) : ∃ X, P w X ∧ ∀ w' X', P' w' X' → Turns X X' w w' → One B P' w' ∧ Below B w w' := by
  obtain ⟨X, h1, h2⟩ := h
  refine ⟨X, h1, fun w' X' h3 T => ⟨⟨X', h3, fun k hk => ?_⟩, T.off.below h2 hB⟩⟩
  rcases T.grow k hk with h4 | h4
  · exact h2 k h4
  · omega
/-- a new object beside one -/
theorem One.two (H : Holds P) (h : One B P w) (hB : B ≤ w.heap.size) {Y : Nat → Prop} (T : Below w.heap.size w w') (hQ : Q w' Y) (hY : ∀ k, Y k → w.heap.size ≤ k) : Two B P Q w' := by
  obtain ⟨X, h1, h2⟩ := h
  exact ⟨X, Y, H.below h1 T, hQ, h2, fun k hk => Nat.le_trans hB (hY k hk), fun k hk hy => by have := H.lt h1 k hk; have := hY k hy; omega⟩
theorem Two.below (HP : Holds P) (HQ : Holds Q) (h : Two B P Q w) (T : Below w.heap.size w w') : Two B P Q w' := by
  obtain ⟨X, Y, h1, h2, h3⟩ := h
  exact ⟨X, Y, HP.below h1 T, HQ.below h2 T, h3⟩
theorem Two.left (HQ : Holds Q) (h : Two B P Q w) (hB : B ≤ w.heap.size) : ∃ X, P w X ∧ ∀ w' X', P' w' X' → Turns X X' w w' → Two B P' Q w' ∧ Below B w w' := by
  obtain ⟨X, Y, h1, h2, h3, h4, h5⟩ := h
  refine ⟨X, h1, fun w' X' h6 T => ⟨⟨X', Y, h6, HQ.off h2 T.off (fun k hy hx => h5 k hx hy), fun k hk => ?_, h4, fun k hk hy => ?_⟩, T.off.below h3 hB⟩⟩
  · rcases T.grow k hk with h | h
    · exact h3 k h
    · omega
  · rcases T.grow k hk with h | h
    · exact h5 k h hy
    · have := HQ.lt h2 k hy; omega
theorem Two.right (HP : Holds P) (h : Two B P Q w) (hB : B ≤ w.heap.size) : ∃ Y, Q w Y ∧ ∀ w' Y', Q' w' Y' → Turns Y Y' w w' → Two B P Q' w' ∧ Below B w w' := by
  obtain ⟨X, Y, h1, h2, h3, h4, h5⟩ := h
  refine ⟨Y, h2, fun w' Y' h6 T => ⟨⟨X, Y', HP.off h1 T.off h5, h6, h3, fun k hk => ?_, fun k hk hy => ?_⟩, T.off.below h4 hB⟩⟩
  · rcases T.grow k hk with h | h
    · exact h4 k h
    · omega
  · rcases T.grow k hy with h | h
    · exact h5 k hk h
    · have := HP.lt h1 k hk; omega
theorem Two.fst (h : Two B P Q w) : ∃ X, P w X := by obtain ⟨X, _, h, _⟩ := h; exact ⟨X, h⟩
theorem Two.snd (h : Two B P Q w) : ∃ Y, Q w Y := by obtain ⟨_, Y, _, h, _⟩ := h; exact ⟨Y, h⟩
end

/-- two objects with their blocks named -/
def TwoAt (B : Nat) (P Q : World → (Nat → Prop) → Prop) (X Y : Nat → Prop) (w : World) : Prop := P w X ∧ Q w Y ∧ (∀ k, X k → B ≤ k) ∧ (∀ k, Y k → B ≤ k) ∧ (∀ k, X k → ¬ Y k) ∧ (∀ k, X k → k < w.heap.size) ∧ (∀ k, Y k → k < w.heap.size) ∧ B ≤ w.heap.size
section
variable {B : Nat} {P P' Q Q' : World → (Nat → Prop) → Prop} {X Y : Nat → Prop} {w w' : World}
theorem TwoAt.mk (HP : Holds P) (HQ : Holds Q) (h1 : P w X) (hX : ∀ k, X k → B ≤ k) (hB : B ≤ w.heap.size) (T : Below w.heap.size w w') (h2 : Q w' Y) (hY : ∀ k, Y k → w.heap.size ≤ k) : TwoAt B P Q X Y w' :=
  ⟨HP.below h1 T, h2, hX, fun k hk => Nat.le_trans hB (hY k hk), fun k hk hy => by have := HP.lt h1 k hk; have := hY k hy; omega, HP.lt (HP.below h1 T), HQ.lt h2, Nat.le_trans hB T.size⟩
theorem TwoAt.below (HP : Holds P) (HQ : Holds Q) (h : TwoAt B P Q X Y w) (T : Below w.heap.size w w') : TwoAt B P Q X Y w' := by
  obtain ⟨h1, h2, h3, h4, h5, h6, h7, h8⟩ := h
  exact ⟨HP.below h1 T, HQ.below h2 T, h3, h4, h5, HP.lt (HP.below h1 T), HQ.lt (HQ.below h2 T), Nat.le_trans h8 T.size⟩
theorem TwoAt.off {Z : Nat → Prop} (HP : Holds P) (HQ : Holds Q) (h : TwoAt B P Q X Y w) (o : Off Z w w') (hX : ∀ k, X k → ¬ Z k) (hY : ∀ k, Y k → ¬ Z k) : TwoAt B P Q X Y w' := by
  obtain ⟨h1, h2, h3, h4, h5, h6, h7, h8⟩ := h
  exact ⟨HP.off h1 o hX, HQ.off h2 o hY, h3, h4, h5, HP.lt (HP.off h1 o hX), HQ.lt (HQ.off h2 o hY), Nat.le_trans h8 o.size⟩
theorem TwoAt.left (HP' : Holds P') (HQ : Holds Q) (h : TwoAt B P Q X Y w) {X' : Nat → Prop} (h' : P' w' X') (T : Turns X X' w w') : TwoAt B P' Q X' Y w' ∧ Below B w w' := by
  obtain ⟨h1, h2, h3, h4, h5, h6, h7, h8⟩ := h
  have k2 := HQ.off h2 T.off (fun k hy hx => h5 k hx hy)
  refine ⟨⟨h', k2, fun k hk => ?_, h4, fun k hk hy => ?_, HP'.lt h', HQ.lt k2, Nat.le_trans h8 T.off.size⟩, T.off.below h3 h8⟩
  · rcases T.grow k hk with h | h
    · exact h3 k h
    · omega
  · rcases T.grow k hk with h | h
    · exact h5 k h hy
    · have := h7 k hy; omega
theorem TwoAt.right (HP : Holds P) (HQ' : Holds Q') (h : TwoAt B P Q X Y w) {Y' : Nat → Prop} (h' : Q' w' Y') (T : Turns Y Y' w w') : TwoAt B P Q' X Y' w' ∧ Below B w w' := by
  obtain ⟨h1, h2, h3, h4, h5, h6, h7, h8⟩ := h
  have k1 := HP.off h1 T.off h5
  refine ⟨⟨k1, h', h3, fun k hk => ?_, fun k hk hy => ?_, HP.lt k1, HQ'.lt h', Nat.le_trans h8 T.off.size⟩, T.off.below h4 h8⟩
  · rcases T.grow k hk with h | h
    · exact h4 k h
    · omega
  · rcases T.grow k hy with h | h
    · exact h5 k hk h
    · have := h6 k hk; omega
theorem TwoAt.p1 (h : TwoAt B P Q X Y w) : P w X := h.1
theorem TwoAt.p2 (h : TwoAt B P Q X Y w) : Q w Y := h.2.1
/-- what the left one told stays where the right one turns -/
theorem TwoAt.told (h : TwoAt B P Q X Y w) {n : Nat} {A : Option Addr} (ha : 0 < n → ∀ p, A = some p → X p.block ∨ w.heap.size ≤ p.block) : Av Y n A := fun hn p e hy => by
  obtain ⟨h1, h2, h3, h4, h5, h6, h7, h8⟩ := h
  rcases ha hn p e with h | h
  · exact h5 _ h hy
  · have := h7 _ hy; omega
end
theorem Turns.undrew {X X' : Nat → Prop} {w w' : World} (h : Turns X X' w.drew w') : Turns X X' w w' := ⟨⟨h.off.os, h.off.tape, h.off.output, h.off.size, h.off.block⟩, h.grow⟩

/-- an object whose blocks are all from B on -/
def OneAt (B : Nat) (P : World → (Nat → Prop) → Prop) (X : Nat → Prop) (w : World) : Prop := P w X ∧ (∀ k, X k → B ≤ k) ∧ B ≤ w.heap.size
theorem OneAt.p {B : Nat} {P : World → (Nat → Prop) → Prop} {X : Nat → Prop} {w : World} (h : OneAt B P X w) : P w X := h.1
theorem OneAt.below {B : Nat} {P : World → (Nat → Prop) → Prop} (H : Holds P) {X : Nat → Prop} {w w' : World} (h : OneAt B P X w) (T : Below w.heap.size w w') : OneAt B P X w' := ⟨H.below h.1 T, h.2.1, Nat.le_trans h.2.2 T.size⟩
theorem OneAt.turn {B : Nat} {P P' : World → (Nat → Prop) → Prop} {X X' : Nat → Prop} {w w' : World} (h : OneAt B P X w) (h' : P' w' X') (T : Turns X X' w w') : OneAt B P' X' w' ∧ Below B w w' :=
  ⟨⟨h', fun k hk => (T.grow k hk).elim (h.2.1 k) (fun h1 => Nat.le_trans h.2.2 h1), Nat.le_trans h.2.2 T.off.size⟩, T.off.below h.2.1 h.2.2⟩

/-- bytes in memory of their own, at no block of Y, that may be written -/
def Fre (w : World) (Y : Nat → Prop) (A : Option Addr) (n c : Nat) (l : List UInt8) : Prop :=
  Bys w A n c l ∧ Av Y n A ∧ (0 < n → ∃ b o, A = some ⟨b, o, none⟩ ∧ ∀ j, j < n → w.frozen? ⟨b, o + j, none⟩ = false)
theorem frozen_of_block {w w' : World} {b : Nat} (h : w'.heap[b]? = w.heap[b]?) (o : Nat) : w'.frozen? ⟨b, o, none⟩ = w.frozen? ⟨b, o, none⟩ := by
  simp only [World.frozen?, h]
theorem Fre.bys {w : World} {Y : Nat → Prop} {A : Option Addr} {n c : Nat} {l : List UInt8} (h : Fre w Y A n c l) : Bys w A n c l := h.1
theorem Fre.nil (w : World) (Y : Nat → Prop) : Fre w Y none 0 0 [] := ⟨Bys.nil _, Av.none _ _, fun h => absurd h (by omega)⟩
theorem Fre.imp {w : World} {Y Y' : Nat → Prop} {A : Option Addr} {n c : Nat} {l : List UInt8} (h : Fre w Y A n c l) (hY : ∀ k, Y' k → Y k) : Fre w Y' A n c l := ⟨h.1, h.2.1.imp hY, h.2.2⟩
theorem Fre.off {w w' : World} {X Y : Nat → Prop} {A : Option Addr} {n c : Nat} {l : List UInt8} (h : Fre w Y A n c l) (o : Off X w w') (hX : ∀ k, X k → Y k) : Fre w' Y A n c l :=
  ⟨h.1.off (h.2.1.imp hX) o, h.2.1, fun hn => by
    obtain ⟨b, of, e, hf⟩ := h.2.2 hn
    obtain ⟨b', of', e', hb, _⟩ := h.1.at_ hn
    rw [e] at e'
    injection e' with e'
    injection e' with e1 e2
    subst e1 e2
    refine ⟨b, of, e, fun j hj => ?_⟩
    rw [frozen_of_block (o.block b hb (fun hx => h.2.1 hn _ e (hX _ hx)))]
    exact hf j hj⟩
theorem Fre.below {w w' : World} {Y : Nat → Prop} {A : Option Addr} {n c : Nat} {l : List UInt8} (h : Fre w Y A n c l) (T : Below w.heap.size w w') : Fre w' Y A n c l :=
  h.off (X := fun _ => False) (Off.of_below T) (fun _ h => h.elim)
/-- a row of the call's own -/
theorem Fre.of_own {w : World} {B : Nat} {A : Option Addr} {n c : Nat} {l : List UInt8} {e : TypeId} (h : w.ownsRow B e 1 (.slice A n c) n (bvs l)) : Fre w (· < B) A n c l := by
  refine ⟨Bys.of_own h, own_fr h, fun hn => ?_⟩
  rcases h.2 with ⟨hv, h0⟩ | ⟨g, cap, cur, hv, hg, hh, hr⟩
  · omega
  · injection hv with h1 h2 h3
    subst h1; subst h3
    exact ⟨g, 0, rfl, fun j _ => frozen_of_row _ _ _ _ _ hh⟩

/-- The value v is a list of slices in blocks of its own, from block B on, that reads as ls; no text of it lies at a block of Z. -/
def OwnY (w : World) (B : Nat) (Z : Nat → Prop) (v : Value) (ls : List (List UInt8)) : Prop := ∃ vs, w.ownsRow B 39 1 v ls.length vs ∧ Rvs w (fun k => Z k ∨ v.ownBlock = some k) vs ls
theorem OwnY.nil (w : World) (B : Nat) (Z : Nat → Prop) : OwnY w B Z (.slice none 0 0) [] := ⟨[], ⟨rfl, .inl ⟨rfl, rfl⟩⟩, Rvs.nil w _⟩
theorem own_block_off {X : Nat → Prop} {w w' : World} {B n : Nat} {v : Value} {e : TypeId} {vs : List Value} (h : w.ownsRow B e 1 v n vs) (o : Off X w w') (hv : ∀ k, v.ownBlock = some k → ¬ X k) : w'.ownsRow B e 1 v n vs := by
  refine ⟨h.1, ?_⟩
  rcases h.2 with h3 | ⟨g, cap, cur, rfl, hg, hh, r⟩
  · exact Or.inl h3
  · refine Or.inr ⟨g, cap, cur, rfl, hg, ?_, r⟩
    rw [o.block g (lt_of_block hh) (hv g rfl)]
    exact hh
theorem OwnY.off {X Z : Nat → Prop} {w w' : World} {B : Nat} {v : Value} {ls : List (List UInt8)} (h : OwnY w B Z v ls) (o : Off X w w') (hX : ∀ k, k < w.heap.size → X k → Z k) (hv : ∀ k, v.ownBlock = some k → ¬ X k) : OwnY w' B Z v ls := by
  obtain ⟨vs, h1, h2⟩ := h
  exact ⟨vs, own_block_off h1 o hv, h2.off (fun k hk hx => .inl (hX k hk hx)) o⟩
theorem OwnY.below {Z : Nat → Prop} {w w' : World} {B : Nat} {v : Value} {ls : List (List UInt8)} (h : OwnY w B Z v ls) (T : Below w.heap.size w w') : OwnY w' B Z v ls := h.off (X := fun _ => False) (Off.of_below T) (fun _ _ h => h.elim) (fun _ _ h => h)
theorem OwnY.lt {w : World} {B : Nat} {Z : Nat → Prop} {v : Value} {ls : List (List UInt8)} (h : OwnY w B Z v ls) (k : Nat) (hk : v.ownBlock = some k) : B ≤ k ∧ k < w.heap.size := by
  obtain ⟨vs, h1, _⟩ := h
  exact h1.lt k hk
theorem OwnY.imp {w : World} {B : Nat} {Z Z' : Nat → Prop} {v : Value} {ls : List (List UInt8)} (h : OwnY w B Z v ls) (hZ : ∀ k, k < w.heap.size → Z' k → Z k) : OwnY w B Z' v ls := by
  obtain ⟨vs, h1, h2⟩ := h
  exact ⟨vs, h1, h2.imp (fun k hk hx => hx.elim (fun h => .inl (hZ k hk h)) .inr)⟩
theorem ownsRow_down {w : World} {B B' n : Nat} {e : TypeId} {v : Value} {vs : List Value} (h : w.ownsRow B e 1 v n vs) (hB : B' ≤ B) : w.ownsRow B' e 1 v n vs := by
  refine ⟨h.1, ?_⟩
  rcases h.2 with h3 | ⟨g, cap, cur, hv, hg, r⟩
  · exact Or.inl h3
  · exact Or.inr ⟨g, cap, cur, hv, by omega, r⟩
theorem OwnR.own {w : World} {B : Nat} {v : Value} {ls : List (List UInt8)} (h : OwnR w B v ls) : OwnY w B (· < B) v ls := h
theorem OwnY.down {w : World} {B B' : Nat} {Z : Nat → Prop} {v : Value} {ls : List (List UInt8)} (h : OwnY w B Z v ls) (hB : B' ≤ B) : OwnY w B' Z v ls := by
  obtain ⟨vs, h1, h2⟩ := h
  exact ⟨vs, ownsRow_down h1 hB, h2⟩
/-- the list as a slice that reads -/
theorem OwnY.shape {w : World} {B : Nat} {Z : Nat → Prop} {v : Value} {ls : List (List UInt8)} (h : OwnY w B Z v ls) : ∃ P c, v = .slice P ls.length c ∧ ls.length ≤ c ∧ c ≤ maxLen ∧ Rws w P ls.length c ls ∧
    (0 < ls.length → ∃ b vs, P = some ⟨b, 0, none⟩ ∧ v.ownBlock = some b ∧ b < w.heap.size ∧ vs.length = ls.length ∧ (∀ j (h : j < vs.length), w.cell? ⟨b, j, none⟩ = some vs[j]) ∧ Rvs w (fun k => Z k ∨ v.ownBlock = some k) vs ls) := by
  obtain ⟨vs, h1, h2⟩ := h
  rcases h1.2 with ⟨hv, hn⟩ | ⟨g, cap, cur, hv, hg, hh, hnc, hcm, hcs, ht⟩
  · have hl : ls = [] := List.eq_nil_of_length_eq_zero hn
    subst hl
    exact ⟨none, 0, hv, Nat.le_refl _, Nat.zero_le _, ⟨rfl, Nat.le_refl _, Nat.zero_le _, fun h => absurd h (by simp)⟩, fun h => absurd h (by simp)⟩
  · subst hv
    have hl : vs.length = ls.length := h2.1
    have hcell : ∀ j (h : j < vs.length), w.cell? ⟨g, j, none⟩ = some vs[j] := fun j hj => by
      rw [h1.cellAt j (by omega), List.getElem?_eq_getElem hj]
    refine ⟨_, _, rfl, hnc, hcm, ⟨rfl, hnc, hcm, fun hn => ⟨g, 0, vs, rfl, lt_of_block hh, hl, fun j hj => by rw [Nat.zero_add]; exact hcell j hj, fun j hj hj' => ?_⟩⟩, fun hn => ⟨g, vs, rfl, rfl, lt_of_block hh, hl, hcell, h2⟩⟩
    obtain ⟨A, d, k1, k2, _⟩ := h2.2 j hj hj'
    exact ⟨A, d, k1, k2⟩
theorem run_append_rwy0 (w : World) (B : Nat) (Z : Nat → Prop) (v : Value) (ls : List (List UInt8)) (hown : OwnY w B Z v ls) (Z' : Nat → Prop) (P : Option Addr) (m c : Nat) (ms : List (List UInt8)) (hml : ms.length = m)
    (hR : 0 < m → ∃ b o us, P = some ⟨b, o, none⟩ ∧ b < w.heap.size ∧ (∀ j (h : j < us.length), w.cell? ⟨b, o + j, none⟩ = some us[j]) ∧ Rvs w Z' us ms)
    (hlen : ls.length + m ≤ 1099511627776) (hbase : B ≤ w.heap.size) (hZ : ∀ k, k < w.heap.size → Z k → Z' k) (hv' : ∀ k, v.ownBlock = some k → Z' k) (ty : TypeId) :
    ∃ v' w', (Builtin.append_ #[57, 57] ty #[v, .slice P m c]).run Try.prog w = .ok v' w' ∧ OwnY w' B Z v' (ls ++ ms) ∧ w.grownBy w' v.ownBlock ∧ (v'.ownBlock = v.ownBlock ∨ v'.ownBlock = some w.heap.size) := by
  obtain ⟨i0, hi, hz0, hz1, hz2⟩ := info_parts Try.infoBs
  obtain ⟨vs, hown, hvs⟩ := hown
  have key : ∀ (us : List Value) (v' : Value) (w' : World), Rvs w Z' us ms → w.grownBy w' v.ownBlock → (v'.ownBlock = v.ownBlock ∨ v'.ownBlock = some w.heap.size) → Rvs w' (fun k => (Z k ∧ k < w.heap.size) ∨ v'.ownBlock = some k) (vs ++ us) (ls ++ ms) := by
    intro us v' w' hus hg hw
    have o : Off (fun k => v.ownBlock = some k) w w' := (Off.refl _ w).grown hg (fun k hk => .inl hk)
    refine ((hvs.imp ?_).append (hus.imp ?_)).off (X := fun k => v.ownBlock = some k) (Y := fun k => (Z k ∧ k < w.heap.size) ∨ v.ownBlock = some k ∨ v'.ownBlock = some k) ?_ o |>.imp ?_
    · intro k hk hy
      rcases hy with hy | hy | hy
      · exact .inl hy.1
      · exact .inr hy
      · rcases hw with hw | hw
        · exact .inr (hw ▸ hy)
        · rw [hw] at hy; injection hy with hy; omega
    · intro k hk hy
      rcases hy with hy | hy | hy
      · exact hZ k hk hy.1
      · exact hv' k hy
      · rcases hw with hw | hw
        · exact hv' k (hw ▸ hy)
        · rw [hw] at hy; injection hy with hy; omega
    · intro k hk hx
      exact .inr (.inl hx)
    · intro k hk hy
      rcases hy with hy | hy
      · exact .inl hy
      · exact .inr (.inr hy)
  have fin : ∀ (us : List Value) (v' : Value) (w' : World), Rvs w Z' us ms → w.grownBy w' v.ownBlock → (v'.ownBlock = v.ownBlock ∨ v'.ownBlock = some w.heap.size) → Rvs w' (fun k => Z k ∨ v'.ownBlock = some k) (vs ++ us) (ls ++ ms) := by
    intro us v' w' hus h3 h5
    have hk := key us v' w' hus h3 h5
    refine ⟨hk.1, fun j hj hj' => ?_⟩
    obtain ⟨A, d, k1, k2, k3⟩ := hk.2 j hj hj'
    refine ⟨A, d, k1, k2, fun hn p e hy => ?_⟩
    obtain ⟨b', o', e', hb', _⟩ := k2.at_ hn
    rcases hy with hy | hy
    · by_cases hlt : p.block < w.heap.size
      · exact k3 hn p e (.inl ⟨hy, hlt⟩)
      · exfalso
        have hmem : (vs ++ us)[j] ∈ vs ++ us := List.getElem_mem hj
        rcases Nat.lt_or_ge j vs.length with hjl | hjl
        · obtain ⟨A0, d0, m1, m2, _⟩ := hvs.2 j hjl (by have := hvs.1; omega)
          rw [List.getElem_append_left hjl, m1] at k1
          injection k1 with q1 q2 q3
          rw [← q1] at e
          obtain ⟨b2, o2, e2, hb2, _⟩ := m2.at_ (by rw [q2]; exact hn)
          rw [e] at e2
          injection e2 with e2
          subst e2
          exact hlt hb2
        · have hju : j - vs.length < us.length := by simp at hj; omega
          obtain ⟨A0, d0, m1, m2, _⟩ := hus.2 (j - vs.length) hju (by have := hus.1; omega)
          rw [List.getElem_append_right hjl, m1] at k1
          injection k1 with q1 q2 q3
          rw [← q1] at e
          obtain ⟨b2, o2, e2, hb2, _⟩ := m2.at_ (by rw [q2]; exact hn)
          rw [e] at e2
          injection e2 with e2
          subst e2
          exact hlt hb2
    · exact k3 hn p e (.inr hy)
  rcases Nat.eq_zero_or_pos m with h0 | h0
  · subst h0
    have : ms = [] := List.eq_nil_of_length_eq_zero hml
    subst this
    rcases P with _ | ad
    · refine ⟨v, w, ?_, ⟨vs, by simpa using hown, by simpa using hvs⟩, World.grownBy.refl w _, .inl rfl⟩
      rcases hown.2 with ⟨rfl, hn⟩ | ⟨g, cap, cur, rfl, _, _, hnc, _⟩
      · simp [Builtin.append_, run_underlying Try.underlying57, sizeOf, typeInfo, hi, Builtin.lenOf, Builtin.firstCells]
      · simp [Builtin.append_, run_underlying Try.underlying57, sizeOf, typeInfo, hi, Builtin.lenOf, Builtin.firstCells, hnc, storeCells]
    · obtain ⟨v', w', hrun, h2, h3, _, h5⟩ := run_append_own_at (P := Try.prog) w B 57 ty 39 i0 (.slice none 0 0) 1 24 Try.underlying57 hi hz0 hz1 hz2 rfl (by decide) v ls.length vs hown ad 0 c [] rfl (by simp) (by simp) (by unfold maxLen; omega) (by omega) hbase
      have := fin [] v' w' (Rvs.nil w _) h3 h5
      exact ⟨v', w', hrun, ⟨vs, by simpa using h2, by simpa using this⟩, h3, h5⟩
  · obtain ⟨b, o, us, rfl, hbw, hc, hus⟩ := hR h0
    have hul : us.length = m := hus.1.trans hml
    have hcells : ∀ j u, us[j]? = some u → w.cell? ((⟨b, o, none⟩ : Addr).add j) = some u := by
      intro j u hu
      obtain ⟨hj, hu⟩ := List.getElem?_eq_some_iff.1 hu
      subst hu
      have := hc j hj
      rcases Nat.eq_zero_or_pos j with h | h
      · subst h; simpa [Addr.add] using this
      · rw [Addr.add, if_neg (by simpa using Nat.pos_iff_ne_zero.1 h)]
        exact this
    obtain ⟨v', w', hrun, h2, h3, _, h5⟩ := run_append_own_at (P := Try.prog) w B 57 ty 39 i0 (.slice none 0 0) 1 24 Try.underlying57 hi hz0 hz1 hz2 rfl (by decide) v ls.length vs hown _ m c us (by omega) hcells hus.one' (by unfold maxLen; omega) (by omega) hbase
    exact ⟨v', w', hrun, ⟨vs ++ us, by rw [List.length_append, hml]; exact h2, fin us v' w' hus h3 h5⟩, h3, h5⟩
theorem run_append_rwy (w : World) (B : Nat) (Z : Nat → Prop) (v : Value) (ls : List (List UInt8)) (hown : OwnY w B Z v ls) (Z' : Nat → Prop) (P : Option Addr) (m c : Nat) (ms : List (List UInt8)) (hml : ms.length = m)
    (hR : ∃ b o us, P = some ⟨b, o, none⟩ ∧ b < w.heap.size ∧ (∀ j (h : j < us.length), w.cell? ⟨b, o + j, none⟩ = some us[j]) ∧ Rvs w Z' us ms)
    (hlen : ls.length + m ≤ 1099511627776) (hbase : B ≤ w.heap.size) (hZ : ∀ k, k < w.heap.size → Z k → Z' k) (hv' : ∀ k, v.ownBlock = some k → Z' k) (ty : TypeId) :
    ∃ v' w', (Builtin.append_ #[57, 57] ty #[v, .slice P m c]).run Try.prog w = .ok v' w' ∧ OwnY w' B Z v' (ls ++ ms) ∧ w.grownBy w' v.ownBlock ∧ (v'.ownBlock = v.ownBlock ∨ v'.ownBlock = some w.heap.size) :=
  run_append_rwy0 w B Z v ls hown Z' P m c ms hml (fun _ => hR) hlen hbase hZ hv' ty
/-- 'append(s, x...)', s an object's own list of slices, x one in other memory -/
theorem app_rwy {ops : Array Oper} {rest : List Oper} {o : Oper} {a : Act} {Q : Exit → Act → World → Prop} (w : World) (hgd : o.guard = none) (s x : Operand)
    (ho : o.op = .call { callee := .builtin .append, args := #[s, x], argTypes := #[57, 57] })
    (B : Nat) (Z : Nat → Prop) (v : Value) (ls : List (List UInt8)) (hs : a.eval s = v) (hown : OwnY w B Z v ls)
    (Z' : Nat → Prop) (P : Option Addr) (m c : Nat) (ms : List (List UInt8)) (hx : a.eval x = .slice P m c) (hml : ms.length = m)
    (hR : ∃ b o us, P = some ⟨b, o, none⟩ ∧ b < w.heap.size ∧ (∀ j (h : j < us.length), w.cell? ⟨b, o + j, none⟩ = some us[j]) ∧ Rvs w Z' us ms)
    (hlen : ls.length + m ≤ 1099511627776) (hbase : B ≤ w.heap.size) (hZ : ∀ k, k < w.heap.size → Z k → Z' k) (hv' : ∀ k, v.ownBlock = some k → Z' k)
    (h : ∀ v' w', OwnY w' B Z v' (ls ++ ms) → w.grownBy w' v.ownBlock → (v'.ownBlock = v.ownBlock ∨ v'.ownBlock = some w.heap.size) → wpList Try.prog ops Q rest (a.put o.dst v') w') : wpList Try.prog ops Q (o :: rest) a w := by
  refine wpList_plain hgd fun K hK => ?_
  obtain ⟨v', w', hrun, h2, h3, h4⟩ := run_append_rwy w B Z v ls hown Z' P m c ms hml hR hlen hbase hZ hv' o.type
  unfold Oper.wp execOp
  simp only [ho, resolve, invoke, builtin, Sem.run_bind, Sem.run_pure, Result.andThen_ok, List.map_toArray, List.map_cons, List.map_nil, hs, hx, hrun]
  exact hK _ _ (h v' w' h2 h3 h4)
/-- the same at a step of a region that draws its order -/
theorem step_rwy {ops : Array Oper} {o : Oper} {a : Act} {K : Act → World → Prop} {Q : Exit → Act → World → Prop} {E : Prop} (w : World) (hgd : o.guard = none) (s x : Operand)
    (ho : o.op = .call { callee := .builtin .append, args := #[s, x], argTypes := #[57, 57] })
    (B : Nat) (Z : Nat → Prop) (v : Value) (ls : List (List UInt8)) (hs : a.eval s = v) (hown : OwnY w B Z v ls)
    (Z' : Nat → Prop) (P : Option Addr) (m c : Nat) (ms : List (List UInt8)) (hx : a.eval x = .slice P m c) (hml : ms.length = m)
    (hR : ∃ b o us, P = some ⟨b, o, none⟩ ∧ b < w.heap.size ∧ (∀ j (h : j < us.length), w.cell? ⟨b, o + j, none⟩ = some us[j]) ∧ Rvs w Z' us ms)
    (hlen : ls.length + m ≤ 1099511627776) (hbase : B ≤ w.heap.size) (hZ : ∀ k, k < w.heap.size → Z k → Z' k) (hv' : ∀ k, v.ownBlock = some k → Z' k)
    (h : ∀ v' w', OwnY w' B Z v' (ls ++ ms) → w.grownBy w' v.ownBlock → (v'.ownBlock = v.ownBlock ∨ v'.ownBlock = some w.heap.size) → K (a.put o.dst v') w') :
    if Region.wanted o (yielded ops a.tmps) = true then Oper.wp Try.prog o a w K Q else E := by
  have hw : Region.wanted o (yielded ops a.tmps) = true := by simp [Region.wanted, hgd]
  rw [if_pos hw]
  obtain ⟨v', w', hrun, h2, h3, h4⟩ := run_append_rwy w B Z v ls hown Z' P m c ms hml hR hlen hbase hZ hv' o.type
  unfold Oper.wp execOp
  simp only [ho, resolve, invoke, builtin, Sem.run_bind, Sem.run_pure, Result.andThen_ok, List.map_toArray, List.map_cons, List.map_nil, hs, hx, hrun]
  exact h v' w' h2 h3 h4
/-- 'append(s, x...)', s an object's own list of slices, x one in other memory, perhaps none -/
theorem app_rwy0 {ops : Array Oper} {rest : List Oper} {o : Oper} {a : Act} {Q : Exit → Act → World → Prop} (w : World) (hgd : o.guard = none) (s x : Operand)
    (ho : o.op = .call { callee := .builtin .append, args := #[s, x], argTypes := #[57, 57] })
    (B : Nat) (Z : Nat → Prop) (v : Value) (ls : List (List UInt8)) (hs : a.eval s = v) (hown : OwnY w B Z v ls)
    (Z' : Nat → Prop) (P : Option Addr) (m c : Nat) (ms : List (List UInt8)) (hx : a.eval x = .slice P m c) (hml : ms.length = m)
    (hR : 0 < m → ∃ b o us, P = some ⟨b, o, none⟩ ∧ b < w.heap.size ∧ (∀ j (h : j < us.length), w.cell? ⟨b, o + j, none⟩ = some us[j]) ∧ Rvs w Z' us ms)
    (hlen : ls.length + m ≤ 1099511627776) (hbase : B ≤ w.heap.size) (hZ : ∀ k, k < w.heap.size → Z k → Z' k) (hv' : ∀ k, v.ownBlock = some k → Z' k)
    (h : ∀ v' w', OwnY w' B Z v' (ls ++ ms) → w.grownBy w' v.ownBlock → (v'.ownBlock = v.ownBlock ∨ v'.ownBlock = some w.heap.size) → wpList Try.prog ops Q rest (a.put o.dst v') w') : wpList Try.prog ops Q (o :: rest) a w := by
  refine wpList_plain hgd fun K hK => ?_
  obtain ⟨v', w', hrun, h2, h3, h4⟩ := run_append_rwy0 w B Z v ls hown Z' P m c ms hml hR hlen hbase hZ hv' o.type
  unfold Oper.wp execOp
  simp only [ho, resolve, invoke, builtin, Sem.run_bind, Sem.run_pure, Result.andThen_ok, List.map_toArray, List.map_cons, List.map_nil, hs, hx, hrun]
  exact hK _ _ (h v' w' h2 h3 h4)
/-- the same at a step of a region that draws its order -/
theorem step_rwy0 {ops : Array Oper} {o : Oper} {a : Act} {K : Act → World → Prop} {Q : Exit → Act → World → Prop} {E : Prop} (w : World) (hgd : o.guard = none) (s x : Operand)
    (ho : o.op = .call { callee := .builtin .append, args := #[s, x], argTypes := #[57, 57] })
    (B : Nat) (Z : Nat → Prop) (v : Value) (ls : List (List UInt8)) (hs : a.eval s = v) (hown : OwnY w B Z v ls)
    (Z' : Nat → Prop) (P : Option Addr) (m c : Nat) (ms : List (List UInt8)) (hx : a.eval x = .slice P m c) (hml : ms.length = m)
    (hR : 0 < m → ∃ b o us, P = some ⟨b, o, none⟩ ∧ b < w.heap.size ∧ (∀ j (h : j < us.length), w.cell? ⟨b, o + j, none⟩ = some us[j]) ∧ Rvs w Z' us ms)
    (hlen : ls.length + m ≤ 1099511627776) (hbase : B ≤ w.heap.size) (hZ : ∀ k, k < w.heap.size → Z k → Z' k) (hv' : ∀ k, v.ownBlock = some k → Z' k)
    (h : ∀ v' w', OwnY w' B Z v' (ls ++ ms) → w.grownBy w' v.ownBlock → (v'.ownBlock = v.ownBlock ∨ v'.ownBlock = some w.heap.size) → K (a.put o.dst v') w') :
    if Region.wanted o (yielded ops a.tmps) = true then Oper.wp Try.prog o a w K Q else E := by
  have hw : Region.wanted o (yielded ops a.tmps) = true := by simp [Region.wanted, hgd]
  rw [if_pos hw]
  obtain ⟨v', w', hrun, h2, h3, h4⟩ := run_append_rwy0 w B Z v ls hown Z' P m c ms hml hR hlen hbase hZ hv' o.type
  unfold Oper.wp execOp
  simp only [ho, resolve, invoke, builtin, Sem.run_bind, Sem.run_pure, Result.andThen_ok, List.map_toArray, List.map_cons, List.map_nil, hs, hx, hrun]
  exact h v' w' h2 h3 h4
theorem grown_cell {w w' : World} {row : Option Nat} (h : w.grownBy w' row) {p : Addr} (hp : p.block < w.heap.size) (hne : row ≠ some p.block) {v : Value} (hv : w.cell? p = some v) : w'.cell? p = some v := (World.cell?_of_block (w := w) (h.block p.block hp (fun e => hne e.symm))).trans hv
/-- a list literal of one text in memory that is not Z's -/
theorem lit_av {w : World} {A : Option Addr} {n c : Nat} {m : List UInt8} {Z' : Nat → Prop} (h : Bys w A n c m) (ha : Av Z' n A) :
    ∃ b o us, (some ⟨w.heap.size, 0, none⟩ : Option Addr) = some ⟨b, o, none⟩ ∧ b < (w.alloc (.cells #[.slice A n c] 39)).heap.size ∧ (∀ j (h : j < us.length), (w.alloc (.cells #[.slice A n c] 39)).cell? ⟨b, o + j, none⟩ = some us[j]) ∧ Rvs (w.alloc (.cells #[.slice A n c] 39)) Z' us [m] := by
  refine ⟨w.heap.size, 0, [.slice A n c], rfl, by simp, fun j hj => ?_, Rvs.one (h.alloc _) ha⟩
  match j, hj with
  | 0, _ => simp
/-- a list literal of one text that the call itself made -/
theorem lit_text {w : World} {B0 cA L : Nat} {A : Option Addr} {m : List UInt8} {Z' : Nat → Prop} (h : w.ownsRow B0 5 1 (.slice A L cA) L (bvs m)) (hL : m.length = L) (hZ : ∀ k, B0 ≤ k → k < w.heap.size → ¬ Z' k) :
    ∃ b o us, (some ⟨w.heap.size, 0, none⟩ : Option Addr) = some ⟨b, o, none⟩ ∧ b < (w.alloc (.cells #[.slice A L cA] 39)).heap.size ∧ (∀ j (h : j < us.length), (w.alloc (.cells #[.slice A L cA] 39)).cell? ⟨b, o + j, none⟩ = some us[j]) ∧ Rvs (w.alloc (.cells #[.slice A L cA] 39)) Z' us [m] := by
  subst hL
  refine ⟨w.heap.size, 0, [.slice A m.length cA], rfl, by simp, fun j hj => ?_, Rvs.one ((Bys.of_own h).alloc _) (fun hn p e hz => ?_)⟩
  · match j, hj with
    | 0, _ => simp
  · obtain ⟨b, o, e', hb, _⟩ := (Bys.of_own h).at_ hn
    have hf := own_fr h hn p e
    rw [e] at e'
    injection e' with e'
    subst e'
    exact hZ _ (by simpa using hf) hb hz
end Go.Proofs.Ytoajbocpebfjoaa
