/- Package pusher, as landed: the object: a block with a pointer to a second one; timers; a list of closures, each of which stands on two variables. -/
import Derived.Test.YtncpabnmdofomaaTmC
import Derived.Test.YtncpabnmdofomaaPuC
import Derived.Test.YtncpabnmdofomaaRgK
import Derived.Deep.AppendSrc
import Derived.Lib.SliceRun
import Derived.Deep.QuietTactic
import Derived.BigQuiet
import Derived.Deep.RegionHeld3
namespace Go.Proofs.Ytncpabnmdofomaa
open Go.RowKit
set_option maxRecDepth 20000

def cloV (a d : Nat) : Value := .func (.func 46) #[] #[.pointer (some ⟨a, 0, none⟩), .pointer (some ⟨d, 0, none⟩)]
/-- f is a closure over the number q and the bytes m; all that it stands on lies at blocks of X -/
def Clo (w : World) (X : Nat → Prop) (f : Value) (q : Int) (m : List UInt8) : Prop := ∃ a d A c, f = cloV a d ∧ w.heap[a]? = some (.cells #[.int .i64 q] 3 (0, 0)) ∧ w.heap[d]? = some (.cells #[.slice A m.length c] 36 (0, 0)) ∧ Bys w A m.length c m ∧ Av (fun k => ¬ X k) m.length A ∧ X a ∧ X d
theorem Clo.off {w w' : World} {X Y : Nat → Prop} {f : Value} {q : Int} {m : List UInt8} (h : Clo w X f q m) (o : Off Y w w') (hY : ∀ k, X k → ¬ Y k) : Clo w' X f q m := by
  obtain ⟨a, d, A, c, h1, h2, h3, h4, h5, h6, h7⟩ := h
  exact ⟨a, d, A, c, h1, (o.block a (lt_row h2) (hY a h6)).trans h2, (o.block d (lt_row h3) (hY d h7)).trans h3, h4.off (h5.imp (fun k hk hx => hY k hx hk)) o, h5, h6, h7⟩
theorem Clo.imp {w : World} {X X' : Nat → Prop} {f : Value} {q : Int} {m : List UInt8} (h : Clo w X f q m) (hX : ∀ k, X k → X' k) : Clo w X' f q m := by
  obtain ⟨a, d, A, c, h1, h2, h3, h4, h5, h6, h7⟩ := h
  exact ⟨a, d, A, c, h1, h2, h3, h4, h5.imp (fun k hk hx => hk (hX k hx)), hX a h6, hX d h7⟩
/-- the slice's room lies in one block; it reads as the values vs -/
def Row (w : World) (P : Option Addr) (n c : Nat) (vs : List Value) : Prop := vs.length = n ∧ n ≤ c ∧ c ≤ maxLen ∧ (0 < c → ∃ b o cs, P = some ⟨b, o, none⟩ ∧ w.heap[b]? = some (.cells cs 100 (0, 0)) ∧ o + c ≤ cs.size ∧ ∀ j (h : j < vs.length), cs[o + j]? = some vs[j])
def RowB (P : Option Addr) (c : Nat) (k : Nat) : Prop := 0 < c ∧ ∃ o, P = some ⟨k, o, none⟩
theorem Row.off {w w' : World} {Y : Nat → Prop} {P : Option Addr} {n c : Nat} {vs : List Value} (h : Row w P n c vs) (o : Off Y w w') (hY : ∀ k, RowB P c k → ¬ Y k) : Row w' P n c vs := by
  obtain ⟨h1, h2, h3, h4⟩ := h
  refine ⟨h1, h2, h3, fun hc => ?_⟩
  obtain ⟨b, of, cs, rfl, h5, h6⟩ := h4 hc
  exact ⟨b, of, cs, rfl, (o.block b (lt_row h5) (hY b ⟨hc, of, rfl⟩)).trans h5, h6⟩
theorem Row.blt {w : World} {P : Option Addr} {n c : Nat} {vs : List Value} (h : Row w P n c vs) (k : Nat) (hk : RowB P c k) : k < w.heap.size := by
  obtain ⟨hc, o, rfl⟩ := hk
  obtain ⟨b, of, cs, e, h5, _⟩ := h.2.2.2 hc
  injection e with e
  injection e with e _
  subst e
  exact lt_row h5
theorem Row.nil (w : World) : Row w none 0 0 [] := ⟨rfl, Nat.le_refl _, Nat.zero_le _, fun h => absurd h (Nat.lt_irrefl 0)⟩
theorem Row.cell {w : World} {P : Option Addr} {n c : Nat} {vs : List Value} (h : Row w P n c vs) (j : Nat) (hj : j < vs.length) : ∃ b o, P = some ⟨b, o, none⟩ ∧ b < w.heap.size ∧ w.cell? ⟨b, o + j, none⟩ = some vs[j] := by
  obtain ⟨h1, h2, h3, h4⟩ := h
  obtain ⟨b, o, cs, rfl, h5, h6, h7⟩ := h4 (by omega)
  exact ⟨b, o, rfl, lt_row h5, (cell_of_row _ _ _ _ _ _ h5).trans (h7 j hj)⟩

section
variable (T : Nat → Int → List Tmr → World → (Nat → Prop) → Prop)
def ecells (P : Option Addr) (n c : Nat) (gt : Nat) (s : Pus) : Array Value := #[.int .i64 s.c.w, .int .i64 s.c.m, .int .i64 s.c.room, .pointer (some ⟨gt, 0, none⟩), .int .i64 (s.base : Int), .int .i64 (s.next : Int), .slice P n c]
/-- at block x lies what stands within a pusher in the state s, but that its list begins at the place off -/
structure EnV (x gt : Nat) (P : Option Addr) (n c : Nat) (vs : List Value) (s : Pus) (off : Nat) (Xt Xc : Nat → Prop) (w : World) : Prop where
  row : w.heap[x]? = some (.cells (ecells P n c gt s) 78 (0, 0))
  tm : T gt s.c.b s.tm w Xt
  lst : Row w P n c vs
  cnt : off + n = s.ls.length
  clo : ∀ j (h : j < vs.length), Clo w Xc vs[j] (rgMod ((off + j : Nat) : Int) s.c.m) (s.ls.getD (off + j) [])
  xlt : ∀ k, Xc k → k < w.heap.size
  nxt : ¬ Xt x
  nxc : ¬ Xc x
  nct : ∀ k, Xc k → ¬ Xt k
  nrx : ¬ RowB P c x
  nrt : ∀ k, RowB P c k → ¬ Xt k
  nrc : ∀ k, RowB P c k → ¬ Xc k
end
/-- its blocks: its own, the timers', the closures', the list's -/
def EnX (x : Nat) (P : Option Addr) (c : Nat) (Xt Xc : Nat → Prop) : Nat → Prop := fun k => k = x ∨ Xt k ∨ Xc k ∨ RowB P c k
section
variable {T : Nat → Int → List Tmr → World → (Nat → Prop) → Prop} {x gt : Nat} {P : Option Addr} {n pc : Nat} {vs : List Value} {s : Pus} {fo : Nat} {Xt Xc : Nat → Prop} {w w1 : World}
theorem EnV.lt (C : TmC T) (h : EnV T x gt P n pc vs s fo Xt Xc w) : ∀ k, EnX x P pc Xt Xc k → k < w.heap.size := fun k hk => by
  rcases hk with rfl | hk | hk | hk
  · exact lt_row h.row
  · exact (C.holds _ _ _).lt h.tm k hk
  · exact h.xlt k hk
  · exact h.lst.blt k hk
theorem EnV.off (C : TmC T) {Y : Nat → Prop} (h : EnV T x gt P n pc vs s fo Xt Xc w) (o : Off Y w w1) (hd : ∀ k, EnX x P pc Xt Xc k → ¬ Y k) : EnV T x gt P n pc vs s fo Xt Xc w1 where
  row := (o.block x (lt_row h.row) (hd x (.inl rfl))).trans h.row
  tm := (C.holds _ _ _).off h.tm o (fun k hk => hd k (.inr (.inl hk)))
  lst := h.lst.off o (fun k hk => hd k (.inr (.inr (.inr hk))))
  cnt := h.cnt
  clo := fun j hj => (h.clo j hj).off o (fun k hk => hd k (.inr (.inr (.inl hk))))
  xlt := fun k hk => Nat.lt_of_lt_of_le (h.xlt k hk) o.size
  nxt := h.nxt
  nxc := h.nxc
  nct := h.nct
  nrx := h.nrx
  nrt := h.nrt
  nrc := h.nrc
theorem EnV.below (C : TmC T) (h : EnV T x gt P n pc vs s fo Xt Xc w) (U : Below w.heap.size w w1) : EnV T x gt P n pc vs s fo Xt Xc w1 := h.off C (Y := fun _ => False) (Off.of_below U) (fun _ _ h => h)
theorem EnV.cells (h : EnV T x gt P n pc vs s fo Xt Xc w) : (w.cell? ⟨x, 0, none⟩ = some (.int .i64 s.c.w) ∧ w.cell? ⟨x, 1, none⟩ = some (.int .i64 s.c.m) ∧ w.cell? ⟨x, 2, none⟩ = some (.int .i64 s.c.room) ∧ w.cell? ⟨x, 3, none⟩ = some (.pointer (some ⟨gt, 0, none⟩)) ∧ w.cell? ⟨x, 4, none⟩ = some (.int .i64 (s.base : Int)) ∧ w.cell? ⟨x, 5, none⟩ = some (.int .i64 (s.next : Int)) ∧ w.cell? ⟨x, 6, none⟩ = some (.slice P n pc)) ∧ ∀ j, w.frozen? ⟨x, j, none⟩ = false :=
  ⟨⟨cell_of_row _ _ _ _ _ _ h.row, cell_of_row _ _ _ _ _ _ h.row, cell_of_row _ _ _ _ _ _ h.row, cell_of_row _ _ _ _ _ _ h.row, cell_of_row _ _ _ _ _ _ h.row, cell_of_row _ _ _ _ _ _ h.row, cell_of_row _ _ _ _ _ _ h.row⟩, fun _ => frozen_of_row _ _ _ _ _ h.row⟩
/-- the timers are turned -/
theorem EnV.t (h : EnV T x gt P n pc vs s fo Xt Xc w) {tm' : List Tmr} {Xt' : Nat → Prop} (ht : T gt s.c.b tm' w1 Xt') (U : Turns Xt Xt' w w1) : EnV T x gt P n pc vs { s with tm := tm' } fo Xt' Xc w1 ∧ Turns (EnX x P pc Xt Xc) (EnX x P pc Xt' Xc) w w1 := by
  have no : ∀ k, k < w.heap.size → ¬ Xt k → ¬ Xt' k := fun k hk hx hy => by
    rcases U.grow k hy with h | h
    · exact hx h
    · omega
  refine ⟨⟨(U.off.block x (lt_row h.row) h.nxt).trans h.row, ht, h.lst.off U.off h.nrt, h.cnt, fun j hj => (h.clo j hj).off U.off h.nct, fun k hk => Nat.lt_of_lt_of_le (h.xlt k hk) U.off.size, no x (lt_row h.row) h.nxt, h.nxc, fun k hk => no k (h.xlt k hk) (h.nct k hk), h.nrx, fun k hk => no k (h.lst.blt k hk) (h.nrt k hk), h.nrc⟩, U.off.more (fun k hk => .inr (.inl hk)), fun k hk => ?_⟩
  rcases hk with hk | hk | hk
  · exact .inl (.inl hk)
  · exact (U.grow k hk).imp (fun h => .inr (.inl h)) id
  · exact .inl (.inr (.inr hk))
/-- a number of its own is stored -/
theorem EnV.st (C : TmC T) (h : EnV T x gt P n pc vs s fo Xt Xc w) {s' : Pus} (j : Nat) (u : Value) (hc : (ecells P n pc gt s).setIfInBounds j u = ecells P n pc gt s') (e1 : s'.c = s.c) (e2 : s'.ls = s.ls) (e3 : s'.tm = s.tm) : EnV T x gt P n pc vs s' fo Xt Xc (w.setCell ⟨x, j, none⟩ u) ∧ Turns (EnX x P pc Xt Xc) (EnX x P pc Xt Xc) w (w.setCell ⟨x, j, none⟩ u) := by
  have O : Off (· = x) w (w.setCell ⟨x, j, none⟩ u) := (Off.refl (· = x) w).setCell (p := ⟨x, j, none⟩) (.inl rfl) u
  refine ⟨⟨by rw [← hc]; exact heap_setCell_same w x j _ _ u h.row, ?_, h.lst.off O (fun k hk e => h.nrx (e ▸ hk)), by rw [e2]; exact h.cnt, fun i hi => ?_, fun k hk => Nat.lt_of_lt_of_le (h.xlt k hk) O.size, h.nxt, h.nxc, h.nct, h.nrx, h.nrt, h.nrc⟩, ⟨O.more (fun k hk => .inl hk), fun k hk => .inl hk⟩⟩
  · rw [e1, e3]
    exact (C.holds _ _ _).off h.tm O (fun k hk e => h.nxt (e ▸ hk))
  · rw [e1, e2]
    exact (h.clo i hi).off O (fun k hk e => h.nxc (e ▸ hk))
end
/-- .. with all that stands in it -/
def EnP (T : Nat → Int → List Tmr → World → (Nat → Prop) → Prop) (x : Nat) (s : Pus) (off : Nat) (w : World) (X : Nat → Prop) : Prop := ∃ gt P n c vs Xt Xc, EnV T x gt P n c vs s off Xt Xc w ∧ X = EnX x P c Xt Xc
theorem EnP.holds {T : Nat → Int → List Tmr → World → (Nat → Prop) → Prop} (C : TmC T) (x : Nat) (s : Pus) (off : Nat) : Holds (EnP T x s off) where
  lt := fun ⟨_, _, _, _, _, _, _, h, e⟩ k hk => h.lt C k (e ▸ hk)
  off := fun ⟨gt, P, n, c, vs, Xt, Xc, h, e⟩ o hd => ⟨gt, P, n, c, vs, Xt, Xc, h.off C o (fun k hk => hd k (e ▸ hk)), e⟩
/-- a pusher: a pointer to that -/
def PuP (T : Nat → Int → List Tmr → World → (Nat → Prop) → Prop) (g : Nat) (s : Pus) (w : World) (X : Nat → Prop) : Prop := ∃ x Y, w.heap[g]? = some (.cells #[.pointer (some ⟨x, 0, none⟩)] 80 (0, 0)) ∧ EnP T x s s.base w Y ∧ ¬ Y g ∧ X = fun k => k = g ∨ Y k
theorem PuP.holds {T : Nat → Int → List Tmr → World → (Nat → Prop) → Prop} (C : TmC T) (g : Nat) (s : Pus) : Holds (PuP T g s) where
  lt := fun ⟨x, Y, h1, h2, h3, e⟩ k hk => by
    subst e
    rcases hk with rfl | hk
    · exact lt_row h1
    · exact (EnP.holds C x s s.base).lt h2 k hk
  off := fun ⟨x, Y, h1, h2, h3, e⟩ o hd => ⟨x, Y, (o.block g (lt_row h1) (hd g (e ▸ .inl rfl))).trans h1, (EnP.holds C x s s.base).off h2 o (fun k hk => hd k (e ▸ .inr hk)), h3, e⟩
/-- what stands within is turned -/
theorem PuP.turn {T : Nat → Int → List Tmr → World → (Nat → Prop) → Prop} {g x : Nat} {s' : Pus} {Y Y' : Nat → Prop} {w w1 : World} (h1 : w.heap[g]? = some (.cells #[.pointer (some ⟨x, 0, none⟩)] 80 (0, 0))) (h3 : ¬ Y g) (h2 : EnP T x s' s'.base w1 Y') (U : Turns Y Y' w w1) : PuP T g s' w1 (fun k => k = g ∨ Y' k) ∧ Turns (fun k => k = g ∨ Y k) (fun k => k = g ∨ Y' k) w w1 := by
  refine ⟨⟨x, Y', (U.off.block g (lt_row h1) h3).trans h1, h2, fun hk => ?_, rfl⟩, U.off.more (fun k hk => .inr hk), fun k hk => ?_⟩
  · rcases U.grow g hk with h | h
    · exact h3 h
    · have := lt_row h1; omega
  · rcases hk with hk | hk
    · exact .inl (.inl hk)
    · exact (U.grow k hk).imp .inr id
end Go.Proofs.Ytncpabnmdofomaa
