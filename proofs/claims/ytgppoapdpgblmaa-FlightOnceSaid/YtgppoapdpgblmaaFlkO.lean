/- The landed flight (at d887268) as an object in memory: its two rows of frames, of which one direction at a time is turned. -/
import Derived.Test.YtgppoapdpgblmaaFlkV
import Derived.Test.YtgppoapdpgblmaaRfl7
namespace Go.Proofs.Ytgppoapdpgblmaa
open Go.RowKit
set_option maxRecDepth 20000

def kcells (s : Fs) (v0 v1 : Value) : Array Value := #[.bool true, .int .i64 (s.life : Int), .int .i64 (s.s0 : Int), v0, .int .i64 (s.s1 : Int), v1, .int .i64 (s.gone : Int)]
/-- the row v of a flight at block g whose blocks are X, the other row being o -/
def RowG (w : World) (X : Nat → Prop) (g : Nat) (o v : Value) (l : List Frm) : Prop := OwnG w (fun k => ¬ X k ∨ k = g ∨ o.ownBlock = some k) v l ∧ ∀ j, v.ownBlock = some j → X j ∧ j ≠ g ∧ o.ownBlock ≠ some j
def KPv (g : Nat) (s : Fs) (v0 v1 : Value) (w : World) (X : Nat → Prop) : Prop :=
  X g ∧ (∀ j, X j → j < w.heap.size) ∧ FsOk s ∧ w.heap[g]? = some (.cells (kcells s v0 v1) 62 (0, 0)) ∧ RowG w X g v1 v0 s.l0 ∧ RowG w X g v0 v1 s.l1
theorem RowG.off {w w' : World} {X Y : Nat → Prop} {g : Nat} {o v : Value} {l : List Frm} (h : RowG w X g o v l) (O : Off Y w w') (hd : ∀ k, X k → ¬ Y k) : RowG w' X g o v l :=
  ⟨h.1.off O (fun k _ hy => .inl (fun hx => hd k hx hy)) (fun k hk => hd k (h.2 k hk).1), h.2⟩
theorem KPv.holds (g : Nat) (s : Fs) (v0 v1 : Value) : Holds (KPv g s v0 v1) where
  lt := fun h => h.2.1
  off := fun {w w' X Y} h o hd => by
    obtain ⟨h1, h2, h3, h4, h5, h6⟩ := h
    exact ⟨h1, fun k hk => Nat.lt_of_lt_of_le (h2 k hk) o.size, h3, (o.block g (h2 g h1) (hd g h1)).trans h4, h5.off o hd, h6.off o hd⟩
theorem RowG.zn {w : World} {X : Nat → Prop} {g : Nat} {o v : Value} {l : List Frm} (h : RowG w X g o v l) : OwnG w (Zn w X g o) v l := h.1.imp (fun _ _ hz => hz.imp (fun hz hx => hz (.inl hx)) id)
/-- the direction d of a flight: where it lies, its row, the other row, its frames, how many were put -/
def Dir (s : Fs) (v0 v1 : Value) (d : Int) (q : Nat) (v o : Value) (l : List Frm) (sent : Nat) : Prop := (d = 0 ∧ q = 2 ∧ v = v0 ∧ o = v1 ∧ l = s.l0 ∧ sent = s.s0) ∨ (d = 1 ∧ q = 4 ∧ v = v1 ∧ o = v0 ∧ l = s.l1 ∧ sent = s.s1)
/-- a flight of which one direction is another one -/
def fsSet (s : Fs) (d : Int) (l : List Frm) (sent : Nat) : Fs := if d = 0 then { s with l0 := l, s0 := sent } else { s with l1 := l, s1 := sent }
section
variable {s : Fs} {v0 v1 v o : Value} {d : Int} {q g sent : Nat} {l : List Frm} {w : World} {X : Nat → Prop}
theorem Dir.q7 (h : Dir s v0 v1 d q v o l sent) : q + 1 < 6 ∧ 1 < q := by rcases h with h | h <;> omega
theorem KPv.life (h : KPv g s v0 v1 w X) : w.cell? ⟨g, 0, none⟩ = some (.bool true) ∧ w.cell? ⟨g, 1, none⟩ = some (.int .i64 (s.life : Int)) ∧ w.cell? ⟨g, 6, none⟩ = some (.int .i64 (s.gone : Int)) ∧ (∀ j, w.frozen? ⟨g, j, none⟩ = false) ∧ g < w.heap.size :=
  ⟨cell_of_row _ _ _ _ _ _ h.2.2.2.1, cell_of_row _ _ _ _ _ _ h.2.2.2.1, cell_of_row _ _ _ _ _ _ h.2.2.2.1, fun _ => frozen_of_row _ _ _ _ _ h.2.2.2.1, h.2.1 g h.1⟩
/-- what lies in a direction's cells -/
theorem KPv.dir (h : KPv g s v0 v1 w X) (D : Dir s v0 v1 d q v o l sent) : w.cell? ⟨g, q, none⟩ = some (.int .i64 (sent : Int)) ∧ w.cell? ⟨g, q + 1, none⟩ = some v ∧ RowG w X g o v l ∧ l.length ≤ 4097 ∧ sent ≤ 1000000 ∧ ∀ f ∈ l, f.1 ≤ sent ∧ f.2.1.length ≤ 512 ∧ f.2.2.length ≤ 512 := by
  obtain ⟨h1, h2, h3, h4, h5, h6⟩ := h
  obtain ⟨o1, o2, o3, o4⟩ := h3
  rcases D with ⟨rfl, rfl, rfl, rfl, rfl, rfl⟩ | ⟨rfl, rfl, rfl, rfl, rfl, rfl⟩
  · exact ⟨cell_of_row _ _ _ _ _ _ h4, cell_of_row _ _ _ _ _ _ h4, h5, o3.1, o3.2.1, o3.2.2⟩
  · exact ⟨cell_of_row _ _ _ _ _ _ h4, cell_of_row _ _ _ _ _ _ h4, h6, o4.1, o4.2.1, o4.2.2⟩
theorem Dir.len (D : Dir s v0 v1 d q v o l sent) : fsLen s d = l.length ∧ fsSent s d = sent ∧ ∀ i, fsAt s d i = flAt l i := by
  rcases D with ⟨rfl, rfl, rfl, rfl, rfl, rfl⟩ | ⟨rfl, rfl, rfl, rfl, rfl, rfl⟩
  · exact ⟨rfl, rfl, fun _ => rfl⟩
  · exact ⟨rfl, rfl, fun _ => rfl⟩
theorem dir_any (s : Fs) (v0 v1 : Value) (d : Int) (h : d = 0 ∨ d = 1) : ∃ q v o l sent, Dir s v0 v1 d q v o l sent := by
  rcases h with rfl | rfl
  · exact ⟨_, _, _, _, _, .inl ⟨rfl, rfl, rfl, rfl, rfl, rfl⟩⟩
  · exact ⟨_, _, _, _, _, .inr ⟨rfl, rfl, rfl, rfl, rfl, rfl⟩⟩
/-- one direction is turned, the other one stays -/
theorem KPv.turn {w3 : World} {v' : Value} {l' : List Frm} {sent' : Nat} (h : KPv g s v0 v1 w X) (D : Dir s v0 v1 d q v o l sent) (O : Off (fun k => k = g ∨ v.ownBlock = some k) w w3)
    (hg : w3.heap[g]? = some (.cells (((kcells s v0 v1).setIfInBounds q (.int .i64 (sent' : Int))).setIfInBounds (q + 1) v') 62 (0, 0))) (own : OwnG w3 (Zn w X g o) v' l') (hwhere : v'.ownBlock = v.ownBlock ∨ ∀ k, v'.ownBlock = some k → w.heap.size ≤ k)
    (hok : FsOk (fsSet s d l' sent')) : ∃ v0' v1' X', KPv g (fsSet s d l' sent') v0' v1' w3 X' ∧ Dir (fsSet s d l' sent') v0' v1' d q v' o l' sent' ∧ Turns X X' w w3 := by
  have hR := (h.dir D).2.2.1
  obtain ⟨h1, h2, h3, h4, h5, h6⟩ := h
  have hsz := O.size
  have hb : ∀ k, v'.ownBlock = some k → (X k ∨ w.heap.size ≤ k) ∧ k ≠ g ∧ o.ownBlock ≠ some k := fun k hk => by
    rcases hwhere with e | e
    · rw [e] at hk
      exact ⟨.inl (hR.2 k hk).1, (hR.2 k hk).2⟩
    · have h8 := e k hk
      refine ⟨.inr h8, fun e => by have := h2 g h1; omega, fun e => ?_⟩
      rcases D with ⟨rfl, rfl, rfl, rfl, rfl, rfl⟩ | ⟨rfl, rfl, rfl, rfl, rfl, rfl⟩
      · have := h2 k (h6.2 k e).1; omega
      · have := h2 k (h5.2 k e).1; omega
  have hXX : ∀ k, (k = g ∨ v.ownBlock = some k) → X k := fun k hk => hk.elim (fun e => e ▸ h1) (fun e => (hR.2 k e).1)
  -- the other row, as it stays
  have oth : ∀ {u : Value} {m : List Frm}, RowG w X g v u m → o = u → OwnG w3 (Zn w X g v') u m ∧ ∀ k, u.ownBlock = some k → (X k ∨ w.heap.size ≤ k) ∧ k ≠ g ∧ v'.ownBlock ≠ some k := fun {u m} hu e => by
    subst e
    refine ⟨(hu.1.off O (fun k _ hk => ?_) (fun k hk e => ?_)).imp (fun k hk hz => ?_), fun k hk => ⟨.inl (hu.2 k hk).1, (hu.2 k hk).2.1, fun e => (hb k e).2.2 hk⟩⟩
    · rcases hk with hk | hk
      · exact .inr (.inl hk)
      · exact .inr (.inr hk)
    · rcases e with e | e
      · exact (hu.2 k hk).2.1 e
      · exact (hu.2 k hk).2.2 e
    · rcases hz with hz | hz | hz
      · exact .inl (fun h => hz (.inl h))
      · exact .inr (.inl hz)
      · rcases hwhere with e1 | e1
        · rw [e1] at hz; exact .inr (.inr hz)
        · have := e1 k hz
          exact .inl (fun h => by have := h2 k h; omega)
  refine ⟨if d = 0 then v' else v0, if d = 0 then v1 else v', fun k => X k ∨ (w.heap.size ≤ k ∧ k < w3.heap.size), ?_, ?_, ⟨O.more hXX, fun k hk => hk.imp id And.left⟩⟩
  · have low : ∀ {Z : Value} {u : Value} {m : List Frm}, OwnG w3 (Zn w X g Z) u m → (∀ k, u.ownBlock = some k → (X k ∨ w.heap.size ≤ k) ∧ k ≠ g ∧ Z.ownBlock ≠ some k) → RowG w3 (fun k => X k ∨ (w.heap.size ≤ k ∧ k < w3.heap.size)) g Z u m := fun {Z u m} ho hu =>
      ⟨ho.imp (fun k hk hz => hz.imp (fun hz hx => hz (hx.imp id (fun h => ⟨h, hk⟩))) id), fun k hk => ⟨(hu k hk).1.imp id (fun h => ⟨h, ho.lt k hk⟩), (hu k hk).2⟩⟩
    have hlt : ∀ j, (X j ∨ (w.heap.size ≤ j ∧ j < w3.heap.size)) → j < w3.heap.size := fun j hj => hj.elim (fun h => Nat.lt_of_lt_of_le (h2 j h) hsz) And.right
    rcases D with ⟨rfl, rfl, rfl, rfl, rfl, rfl⟩ | ⟨rfl, rfl, rfl, rfl, rfl, rfl⟩
    · obtain ⟨k1, k2⟩ := oth h6 rfl
      exact ⟨.inl h1, hlt, hok, by rw [hg]; simp [kcells, fsSet], low own hb, low k1 k2⟩
    · obtain ⟨k1, k2⟩ := oth h5 rfl
      exact ⟨.inl h1, hlt, hok, by rw [hg]; simp [kcells, fsSet], low k1 k2, low own hb⟩
  · rcases D with ⟨rfl, rfl, rfl, rfl, rfl, rfl⟩ | ⟨rfl, rfl, rfl, rfl, rfl, rfl⟩
    · exact .inl ⟨rfl, rfl, rfl, rfl, rfl, rfl⟩
    · exact .inr ⟨rfl, rfl, rfl, rfl, rfl, rfl⟩
/-- how many are gone is another number -/
theorem KPv.goneTo (h : KPv g s v0 v1 w X) (n : Nat) (hok : FsOk { s with gone := n }) : KPv g { s with gone := n } v0 v1 (w.setCell ⟨g, 6, none⟩ (.int .i64 (n : Int))) X ∧ Turns X X w (w.setCell ⟨g, 6, none⟩ (.int .i64 (n : Int))) := by
  obtain ⟨h1, h2, h3, h4, h5, h6⟩ := h
  have O : Off (· = g) w (w.setCell ⟨g, 6, none⟩ (.int .i64 (n : Int))) := (Off.refl (· = g) w).setCell (p := ⟨g, 6, none⟩) (.inl rfl) _
  have hg := heap_setCell_same w g 6 _ _ (.int .i64 (n : Int)) h4
  refine ⟨⟨h1, fun k hk => Nat.lt_of_lt_of_le (h2 k hk) O.size, hok, by rw [hg]; simp [kcells], ⟨h5.1.off O (fun k _ hk => .inr (.inl hk)) (fun k hk => (h5.2 k hk).2.1), h5.2⟩, ⟨h6.1.off O (fun k _ hk => .inr (.inl hk)) (fun k hk => (h6.2 k hk).2.1), h6.2⟩⟩, ⟨O.more (fun k hk => by subst hk; exact h1), fun k hk => .inl hk⟩⟩
end
end Go.Proofs.Ytgppoapdpgblmaa
