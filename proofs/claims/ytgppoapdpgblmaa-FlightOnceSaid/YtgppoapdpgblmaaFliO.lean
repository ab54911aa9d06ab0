/- The document's own flight (kedgeref16) in plain words and as an object in memory: its two rows of frames. -/
import Derived.Test.YtgppoapdpgblmaaFliV
namespace Go.Proofs.Ytgppoapdpgblmaa
open Go.RowKit
set_option maxRecDepth 20000

/-- a flight's state: the life, how many are gone, of each direction the frames and how many were put -/
structure Fs where
  life : Nat
  gone : Nat
  l0 : List Frm
  s0 : Nat
  l1 : List Frm
  s1 : Nat
def FsOk (s : Fs) : Prop := s.life ≤ 4096 ∧ s.gone ≤ 100000000 ∧ (s.l0.length ≤ 4097 ∧ s.s0 ≤ 1000000 ∧ ∀ f ∈ s.l0, f.1 ≤ s.s0 ∧ f.2.1.length ≤ 512 ∧ f.2.2.length ≤ 512) ∧ (s.l1.length ≤ 4097 ∧ s.s1 ≤ 1000000 ∧ ∀ f ∈ s.l1, f.1 ≤ s.s1 ∧ f.2.1.length ≤ 512 ∧ f.2.2.length ≤ 512)
def fcells (s : Fs) (v0 v1 : Value) : Array Value := #[.int .i64 (s.life : Int), .int .i64 (s.gone : Int), v0, .int .i64 (s.s0 : Int), v1, .int .i64 (s.s1 : Int)]
/-- the row v of a flight at block g whose blocks are X, the other row being o -/
def RowF (w : World) (X : Nat → Prop) (g : Nat) (o v : Value) (l : List Frm) : Prop := OwnF w 0 (fun k => ¬ X k ∨ k = g ∨ o.ownBlock = some k) v l ∧ ∀ j, v.ownBlock = some j → X j ∧ j ≠ g ∧ o.ownBlock ≠ some j
def RFv (g : Nat) (s : Fs) (v0 v1 : Value) (w : World) (X : Nat → Prop) : Prop :=
  X g ∧ (∀ j, X j → j < w.heap.size) ∧ FsOk s ∧ w.heap[g]? = some (.cells (fcells s v0 v1) 67 (0, 0)) ∧ RowF w X g v1 v0 s.l0 ∧ RowF w X g v0 v1 s.l1
def RF (g : Nat) (s : Fs) (w : World) (X : Nat → Prop) : Prop := ∃ v0 v1, RFv g s v0 v1 w X
theorem RowF.off {w w' : World} {X Y : Nat → Prop} {g : Nat} {o v : Value} {l : List Frm} (h : RowF w X g o v l) (O : Off Y w w') (hd : ∀ k, X k → ¬ Y k) : RowF w' X g o v l :=
  ⟨h.1.off O (fun k _ hy => .inl (fun hx => hd k hx hy)) (fun k hk => hd k (h.2 k hk).1), h.2⟩
theorem RFv.holds (g : Nat) (s : Fs) (v0 v1 : Value) : Holds (RFv g s v0 v1) where
  lt := fun h => h.2.1
  off := fun {w w' X Y} h o hd => by
    obtain ⟨h1, h2, h3, h4, h5, h6⟩ := h
    exact ⟨h1, fun k hk => Nat.lt_of_lt_of_le (h2 k hk) o.size, h3, (o.block g (h2 g h1) (hd g h1)).trans h4, h5.off o hd, h6.off o hd⟩
theorem RF.holds (g : Nat) (s : Fs) : Holds (RF g s) where
  lt := fun ⟨v0, v1, h⟩ => (RFv.holds g s v0 v1).lt h
  off := fun ⟨v0, v1, h⟩ o hd => ⟨v0, v1, (RFv.holds g s v0 v1).off h o hd⟩
/-- the object's own cells -/
theorem RFv.cells {g : Nat} {s : Fs} {v0 v1 : Value} {w : World} {X : Nat → Prop} (h : RFv g s v0 v1 w X) :
    w.cell? ⟨g, 0, none⟩ = some (.int .i64 (s.life : Int)) ∧ w.cell? ⟨g, 1, none⟩ = some (.int .i64 (s.gone : Int)) ∧ w.cell? ⟨g, 2, none⟩ = some v0 ∧ w.cell? ⟨g, 3, none⟩ = some (.int .i64 (s.s0 : Int)) ∧ w.cell? ⟨g, 4, none⟩ = some v1 ∧ w.cell? ⟨g, 5, none⟩ = some (.int .i64 (s.s1 : Int)) ∧ (∀ j, w.frozen? ⟨g, j, none⟩ = false) ∧ g < w.heap.size :=
  ⟨cell_of_row _ _ _ _ _ _ h.2.2.2.1, cell_of_row _ _ _ _ _ _ h.2.2.2.1, cell_of_row _ _ _ _ _ _ h.2.2.2.1, cell_of_row _ _ _ _ _ _ h.2.2.2.1, cell_of_row _ _ _ _ _ _ h.2.2.2.1, cell_of_row _ _ _ _ _ _ h.2.2.2.1, fun _ => frozen_of_row _ _ _ _ _ h.2.2.2.1, h.2.1 g h.1⟩
/-- what the new texts may touch: the object's own blocks, and new ones -/
def Zn (w : World) (X : Nat → Prop) (g : Nat) (o : Value) : Nat → Prop := fun k => ¬ (X k ∨ w.heap.size ≤ k) ∨ k = g ∨ o.ownBlock = some k
theorem RFv.upd {g : Nat} {s' : Fs} {v0 v1 : Value} {w w' : World} {X : Nat → Prop} (hX : X g) (hlt : ∀ k, X k → k < w.heap.size) (O : Off X w w') (hok : FsOk s') (hg : w'.heap[g]? = some (.cells (fcells s' v0 v1) 67 (0, 0)))
    (r0 : OwnF w' 0 (Zn w X g v1) v0 s'.l0) (r1 : OwnF w' 0 (Zn w X g v0) v1 s'.l1) (b0 : ∀ j, v0.ownBlock = some j → (X j ∨ w.heap.size ≤ j) ∧ j ≠ g ∧ v1.ownBlock ≠ some j) (b1 : ∀ j, v1.ownBlock = some j → (X j ∨ w.heap.size ≤ j) ∧ j ≠ g ∧ v0.ownBlock ≠ some j) :
    ∃ X', RFv g s' v0 v1 w' X' ∧ Turns X X' w w' := by
  refine ⟨fun k => X k ∨ (w.heap.size ≤ k ∧ k < w'.heap.size), ⟨.inl hX, fun k hk => ?_, hok, hg, ⟨r0.imp (fun k hk hz => ?_), fun k hk => ⟨?_, (b0 k hk).2⟩⟩, ⟨r1.imp (fun k hk hz => ?_), fun k hk => ⟨?_, (b1 k hk).2⟩⟩⟩, ⟨O, fun k hk => hk.imp id And.left⟩⟩
  · rcases hk with hk | hk
    · exact Nat.lt_of_lt_of_le (hlt k hk) O.size
    · exact hk.2
  · exact hz.imp (fun hz hx => hz (hx.imp id (fun h => ⟨h, hk⟩))) id
  · exact (b0 k hk).1.imp id (fun h => ⟨h, (r0.lt k hk).2⟩)
  · exact hz.imp (fun hz hx => hz (hx.imp id (fun h => ⟨h, hk⟩))) id
  · exact (b1 k hk).1.imp id (fun h => ⟨h, (r1.lt k hk).2⟩)
theorem RowF.zn {w : World} {X : Nat → Prop} {g : Nat} {o v : Value} {l : List Frm} (h : RowF w X g o v l) : OwnF w 0 (Zn w X g o) v l := h.1.imp (fun _ _ hz => hz.imp (fun hz hx => hz (.inl hx)) id)
theorem Off.more {X Y : Nat → Prop} {w w' : World} (h : Off X w w') (hX : ∀ k, X k → Y k) : Off Y w w' := ⟨h.os, h.tape, h.output, h.size, fun k hk hy => h.block k hk (fun hx => hy (hX k hx))⟩
theorem Off.thru {X Y : Nat → Prop} {a b c : World} (h : Off X a b) (k : Off Y b c) (hY : ∀ i, i < a.heap.size → Y i → X i) : Off X a c := ⟨k.os.trans h.os, k.tape.trans h.tape, k.output.trans h.output, Nat.le_trans h.size k.size, fun i hi hx => (k.block i (Nat.lt_of_lt_of_le hi h.size) (fun hy => hx (hY i hi hy))).trans (h.block i hi hx)⟩
/-- only the numbers of the object's own block are turned -/
theorem RFv.nums {g : Nat} {s s' : Fs} {v0 v1 : Value} {w : World} {X : Nat → Prop} (h : RFv g s v0 v1 w X) (j : Nat) (x : Value) (hok : FsOk s') (e0 : s'.l0 = s.l0) (e1 : s'.l1 = s.l1) (hc : (fcells s v0 v1).set! j x = fcells s' v0 v1) :
    RFv g s' v0 v1 (w.setCell ⟨g, j, none⟩ x) X ∧ Turns X X w (w.setCell ⟨g, j, none⟩ x) := by
  have O : Off (· = g) w (w.setCell ⟨g, j, none⟩ x) := (Off.refl (· = g) w).setCell (p := ⟨g, j, none⟩) (.inl rfl) x
  obtain ⟨h1, h2, h3, h4, h5, h6⟩ := h
  have hg := heap_setCell_same w g j _ _ x h4
  have hs : (w.setCell ⟨g, j, none⟩ x).heap.size = w.heap.size := by simp [World.setCell]
  refine ⟨⟨h1, fun k hk => by rw [hs]; exact h2 k hk, hok, ?_, ⟨?_, h5.2⟩, ⟨?_, h6.2⟩⟩, ⟨(Off.refl X w).setCell (p := ⟨g, j, none⟩) (.inl h1) x, fun k hk => .inl hk⟩⟩
  · rw [hg, ← hc]
    simp [Array.set!]
  · rw [e0]
    exact h5.1.off O (fun k _ hk => .inr (.inl hk)) (fun k hk => (h5.2 k hk).2.1)
  · rw [e1]
    exact h6.1.off O (fun k _ hk => .inr (.inl hk)) (fun k hk => (h6.2 k hk).2.1)
/-- row 0 gives way to another one, its head stored -/
theorem RFv.row0 {g : Nat} {s s' : Fs} {v0 v1 v' : Value} {w w3 : World} {X : Nat → Prop} (hX : X g) (hlt : ∀ k, X k → k < w.heap.size) (O3 : Off X w w3) (hg3 : w3.heap[g]? = some (.cells (fcells s v0 v1) 67 (0, 0))) (oth : RowF w3 X g v0 v1 s.l1)
    (hb : ∀ k, v0.ownBlock = some k → X k ∧ k ≠ g ∧ v1.ownBlock ≠ some k) (own : OwnF w3 0 (Zn w X g v1) v' s'.l0) (hwhere : v'.ownBlock = v0.ownBlock ∨ ∀ k, v'.ownBlock = some k → w.heap.size ≤ k) (hok : FsOk s')
    (e1 : s'.life = s.life) (e2 : s'.gone = s.gone) (e3 : s'.s0 = s.s0) (e4 : s'.s1 = s.s1) (e5 : s'.l1 = s.l1) :
    ∃ X', RFv g s' v' v1 (w3.setCell ⟨g, 2, none⟩ v') X' ∧ Turns X X' w (w3.setCell ⟨g, 2, none⟩ v') := by
  have hg4 := heap_setCell_same w3 g 2 _ _ v' hg3
  have O4 : Off (· = g) w3 (w3.setCell ⟨g, 2, none⟩ v') := (Off.refl (· = g) w3).setCell (p := ⟨g, 2, none⟩) (.inl rfl) v'
  have hb' : ∀ k, v'.ownBlock = some k → (X k ∨ w.heap.size ≤ k) ∧ k ≠ g ∧ v1.ownBlock ≠ some k := fun k hk => by
    rcases hwhere with h1 | h1
    · rw [h1] at hk; exact ⟨.inl (hb k hk).1, (hb k hk).2⟩
    · have h2 := h1 k hk
      exact ⟨.inr h2, fun e => by have := hlt g hX; omega, fun e => by have := hlt k (oth.2 k e).1; omega⟩
  have hb2 : ∀ k, v1.ownBlock = some k → (X k ∨ w.heap.size ≤ k) ∧ k ≠ g ∧ v'.ownBlock ≠ some k := fun k hk => ⟨.inl (oth.2 k hk).1, (oth.2 k hk).2.1, fun e => (hb' k e).2.2 hk⟩
  have own4 : OwnF (w3.setCell ⟨g, 2, none⟩ v') 0 (Zn w X g v1) v' s'.l0 := own.off O4 (fun k _ hk => .inr (.inl hk)) (fun k hk => (hb' k hk).2.1)
  have oth4 : OwnF (w3.setCell ⟨g, 2, none⟩ v') 0 (Zn w X g v') v1 s'.l1 := by
    rw [e5]
    refine (oth.1.off O4 (fun k _ hk => .inr (.inl hk)) (fun k hk => (oth.2 k hk).2.1)).imp (fun k hk hz => ?_)
    rcases hz with hz | hz | hz
    · exact .inl (fun h => hz (.inl h))
    · exact .inr (.inl hz)
    · rcases hwhere with h1 | h1
      · rw [h1] at hz; exact .inr (.inr hz)
      · exact .inl (fun h => by have := hlt k h; have := h1 k hz; omega)
  have hcell : (w3.setCell ⟨g, 2, none⟩ v').heap[g]? = some (.cells (fcells s' v' v1) 67 (0, 0)) := by
    rw [hg4]
    simp [fcells, e1, e2, e3, e4]
  exact RFv.upd hX hlt (O3.setCell (p := ⟨g, 2, none⟩) (.inl hX) v') hok hcell own4 oth4 hb' hb2
/-- a frame appended -/
theorem RFv.push0 {g : Nat} {s s' : Fs} {v0 v1 v' : Value} {w w2 w3 : World} {o : Obj} {X : Nat → Prop} (h : RFv g s v0 v1 w X) (T2 : Below w.heap.size w w2) (own : OwnF w3 0 (Zn w X g v1) v' s'.l0) (hgrow : (w2.alloc o).grownBy w3 v0.ownBlock) (hwhere : v'.ownBlock = v0.ownBlock ∨ v'.ownBlock = some (w2.alloc o).heap.size) (hok : FsOk s')
    (e1 : s'.life = s.life) (e2 : s'.gone = s.gone) (e3 : s'.s0 = s.s0) (e4 : s'.s1 = s.s1) (e5 : s'.l1 = s.l1) :
    ∃ X', RFv g s' v' v1 (w3.setCell ⟨g, 2, none⟩ v') X' ∧ Turns X X' w (w3.setCell ⟨g, 2, none⟩ v') := by
  have h56 := h.2.2.2.2
  have hb := h56.1.2
  have hbo := h56.2.2
  have hs := T2.size
  have OV : Off (fun k => v0.ownBlock = some k) w w3 := ((Off.of_below T2).alloc o).grown hgrow (fun k hk => .inl hk)
  have hg3 : w3.heap[g]? = some (.cells (fcells s v0 v1) 67 (0, 0)) := (OV.block g (h.2.1 g h.1) (fun e => (hb g e).2.1 rfl)).trans h.2.2.2.1
  have oth : RowF w3 X g v0 v1 s.l1 := ⟨h56.2.1.off OV (fun k _ hk => .inr (.inr hk)) (fun k hk => (hbo k hk).2.2), hbo⟩
  exact RFv.row0 h.1 h.2.1 (OV.more (fun k hk => (hb k hk).1)) hg3 oth hb own (hwhere.imp id (fun e k hk => by
    have h9 := Option.some.inj (e.symm.trans hk)
    have h10 : (w2.alloc o).heap.size = w2.heap.size + 1 := by simp
    omega)) hok e1 e2 e3 e4 e5
/-- row 1 gives way to another one, its head stored -/
theorem RFv.row1 {g : Nat} {s s' : Fs} {v0 v1 v' : Value} {w w3 : World} {X : Nat → Prop} (hX : X g) (hlt : ∀ k, X k → k < w.heap.size) (O3 : Off X w w3) (hg3 : w3.heap[g]? = some (.cells (fcells s v0 v1) 67 (0, 0))) (oth : RowF w3 X g v1 v0 s.l0)
    (hb : ∀ k, v1.ownBlock = some k → X k ∧ k ≠ g ∧ v0.ownBlock ≠ some k) (own : OwnF w3 0 (Zn w X g v0) v' s'.l1) (hwhere : v'.ownBlock = v1.ownBlock ∨ ∀ k, v'.ownBlock = some k → w.heap.size ≤ k) (hok : FsOk s')
    (e1 : s'.life = s.life) (e2 : s'.gone = s.gone) (e3 : s'.s0 = s.s0) (e4 : s'.s1 = s.s1) (e5 : s'.l0 = s.l0) :
    ∃ X', RFv g s' v0 v' (w3.setCell ⟨g, 4, none⟩ v') X' ∧ Turns X X' w (w3.setCell ⟨g, 4, none⟩ v') := by
  have hg4 := heap_setCell_same w3 g 4 _ _ v' hg3
  have O4 : Off (· = g) w3 (w3.setCell ⟨g, 4, none⟩ v') := (Off.refl (· = g) w3).setCell (p := ⟨g, 4, none⟩) (.inl rfl) v'
  have hb' : ∀ k, v'.ownBlock = some k → (X k ∨ w.heap.size ≤ k) ∧ k ≠ g ∧ v0.ownBlock ≠ some k := fun k hk => by
    rcases hwhere with h1 | h1
    · rw [h1] at hk; exact ⟨.inl (hb k hk).1, (hb k hk).2⟩
    · have h2 := h1 k hk
      exact ⟨.inr h2, fun e => by have := hlt g hX; omega, fun e => by have := hlt k (oth.2 k e).1; omega⟩
  have hb2 : ∀ k, v0.ownBlock = some k → (X k ∨ w.heap.size ≤ k) ∧ k ≠ g ∧ v'.ownBlock ≠ some k := fun k hk => ⟨.inl (oth.2 k hk).1, (oth.2 k hk).2.1, fun e => (hb' k e).2.2 hk⟩
  have own4 : OwnF (w3.setCell ⟨g, 4, none⟩ v') 0 (Zn w X g v0) v' s'.l1 := own.off O4 (fun k _ hk => .inr (.inl hk)) (fun k hk => (hb' k hk).2.1)
  have oth4 : OwnF (w3.setCell ⟨g, 4, none⟩ v') 0 (Zn w X g v') v0 s'.l0 := by
    rw [e5]
    refine (oth.1.off O4 (fun k _ hk => .inr (.inl hk)) (fun k hk => (oth.2 k hk).2.1)).imp (fun k hk hz => ?_)
    rcases hz with hz | hz | hz
    · exact .inl (fun h => hz (.inl h))
    · exact .inr (.inl hz)
    · rcases hwhere with h1 | h1
      · rw [h1] at hz; exact .inr (.inr hz)
      · exact .inl (fun h => by have := hlt k h; have := h1 k hz; omega)
  have hcell : (w3.setCell ⟨g, 4, none⟩ v').heap[g]? = some (.cells (fcells s' v0 v') 67 (0, 0)) := by
    rw [hg4]
    simp [fcells, e1, e2, e3, e4]
  exact RFv.upd hX hlt (O3.setCell (p := ⟨g, 4, none⟩) (.inl hX) v') hok hcell oth4 own4 hb2 hb'
/-- a frame appended -/
theorem RFv.push1 {g : Nat} {s s' : Fs} {v0 v1 v' : Value} {w w2 w3 : World} {o : Obj} {X : Nat → Prop} (h : RFv g s v0 v1 w X) (T2 : Below w.heap.size w w2) (own : OwnF w3 0 (Zn w X g v0) v' s'.l1) (hgrow : (w2.alloc o).grownBy w3 v1.ownBlock) (hwhere : v'.ownBlock = v1.ownBlock ∨ v'.ownBlock = some (w2.alloc o).heap.size) (hok : FsOk s')
    (e1 : s'.life = s.life) (e2 : s'.gone = s.gone) (e3 : s'.s0 = s.s0) (e4 : s'.s1 = s.s1) (e5 : s'.l0 = s.l0) :
    ∃ X', RFv g s' v0 v' (w3.setCell ⟨g, 4, none⟩ v') X' ∧ Turns X X' w (w3.setCell ⟨g, 4, none⟩ v') := by
  have h56 := h.2.2.2.2
  have hb := h56.2.2
  have hbo := h56.1.2
  have hs := T2.size
  have OV : Off (fun k => v1.ownBlock = some k) w w3 := ((Off.of_below T2).alloc o).grown hgrow (fun k hk => .inl hk)
  have hg3 : w3.heap[g]? = some (.cells (fcells s v0 v1) 67 (0, 0)) := (OV.block g (h.2.1 g h.1) (fun e => (hb g e).2.1 rfl)).trans h.2.2.2.1
  have oth : RowF w3 X g v1 v0 s.l0 := ⟨h56.1.1.off OV (fun k _ hk => .inr (.inr hk)) (fun k hk => (hbo k hk).2.2), hbo⟩
  exact RFv.row1 h.1 h.2.1 (OV.more (fun k hk => (hb k hk).1)) hg3 oth hb own (hwhere.imp id (fun e k hk => by
    have h9 := Option.some.inj (e.symm.trans hk)
    have h10 : (w2.alloc o).heap.size = w2.heap.size + 1 := by simp
    omega)) hok e1 e2 e3 e4 e5
end Go.Proofs.Ytgppoapdpgblmaa
