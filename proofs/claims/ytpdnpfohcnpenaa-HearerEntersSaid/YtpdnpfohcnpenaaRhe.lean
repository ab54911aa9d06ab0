/- The document's own hearer (kedgeref21) as an object of four parts: its own cells, a queue, a ledger, a tally; what its calls make of the state. -/
import Derived.Test.YtpdnpfohcnpenaaQuC
import Derived.Test.YtpdnpfohcnpenaaRld
import Derived.Test.YtpdnpfohcnpenaaRal
import Derived.Test.YtpdnpfohcnpenaaRca2
namespace Go.Proofs.Ytpdnpfohcnpenaa
open Go.RowKit
set_option maxRecDepth 20000

/-- a hearer's state: the queue's room and messages, what the ledger has open and marked, the tally's rows, how many entered, were returned -/
structure Hs where
  room : Nat
  ls : List (List UInt8)
  o : Nat
  k : Nat
  al : List Tal
  ent : Nat
  ret : Nat
def heBest (s : Hs) : List UInt8 × Nat := alBest s.al ((s.ent % 2 : Nat) : Int)
def heMay (s : Hs) : Prop := s.ls.length < s.room ∧ (heBest s).2 ≠ 0 ∧ ldEnough s.o s.k (heBest s).2 = true ∧ (heBest s).1.length ≤ 64
instance (s : Hs) : Decidable (heMay s) := inferInstanceAs (Decidable (_ ∧ _))
def heEnter (s : Hs) : Hs := if heMay s then { s with ls := s.ls ++ [(heBest s).1], k := ldMark s.o s.k, al := [], ent := s.ent + 1 } else s
def heTick (s : Hs) : Hs := { s with o := ldAsk s.o }
def heTickL (s : Hs) : List Pkt := if ldS s.o = true then [] else [(0, 0, [])]
def heData (s : Hs) (lb : Int) (d : List UInt8) : Hs := if ldCan s.o = true ∧ lb = ((s.ent % 2 : Nat) : Int) then heEnter { s with o := ldHear s.o, al := alAdd s.al lb d } else { s with o := ldHear s.o }
def heTake (s : Hs) (kd lb : Int) (d : List UInt8) : Hs := if kd = 2 then { s with o := ldHear s.o } else if kd = 3 then heData s lb d else s
def heTakeL (s : Hs) (kd : Int) : List Pkt := if kd = 1 then [(4, (((s.ent + 1) % 2 : Nat) : Int), [])] else []
def heRecv (s : Hs) : Hs := if s.ls = [] then s else heEnter { s with ls := s.ls.tail, ret := s.ret + 1 }
/-- numbers that are within their kinds -/
def HeOk (s : Hs) : Prop := QOk s.room s.ls ∧ s.o < 18446744073709551616 ∧ s.k < 18446744073709551616 ∧ AlOk s.al ∧ s.ent ≤ 1000000 ∧ s.ret ≤ 1000000

def hecells (gq gl gt : Nat) (s : Hs) : Array Value := #[.pointer (some ⟨gq, 0, none⟩), .pointer (some ⟨gl, 0, none⟩), .pointer (some ⟨gt, 0, none⟩), .int .i64 (s.ent : Int), .int .i64 (s.ret : Int)]
/-- the blocks of an object of four parts -/
def Bl (g gl : Nat) (Xq Xt : Nat → Prop) : Nat → Prop := fun k => k = g ∨ k = gl ∨ Xq k ∨ Xt k
def RHv (g gq gl gt : Nat) (s : Hs) (Xq Xt : Nat → Prop) (w : World) : Prop := w.heap[g]? = some (.cells (hecells gq gl gt s) 78 (0, 0)) ∧ RQ gq s.room s.ls w Xq ∧ LRow w gl s.o s.k ∧ RA gt s.al w Xt ∧ g ≠ gl ∧ ¬ Xq g ∧ ¬ Xq gl ∧ ¬ Xt g ∧ ¬ Xt gl ∧ ∀ k, Xq k → ¬ Xt k
def RHe (g : Nat) (s : Hs) (w : World) (X : Nat → Prop) : Prop := ∃ gq gl gt Xq Xt, RHv g gq gl gt s Xq Xt w ∧ X = Bl g gl Xq Xt
section
variable {g gq gl gt : Nat} {s : Hs} {Xq Xt : Nat → Prop} {w w1 : World}
theorem RHv.lt (h : RHv g gq gl gt s Xq Xt w) : ∀ k, Bl g gl Xq Xt k → k < w.heap.size := fun k hk => by
  rcases hk with rfl | rfl | hk | hk
  · exact lt_row h.1
  · exact lt_row h.2.2.1
  · exact (RQ.holds _ _ _).lt h.2.1 k hk
  · exact (RA.holds _ _).lt h.2.2.2.1 k hk
theorem RHv.off {Y : Nat → Prop} (h : RHv g gq gl gt s Xq Xt w) (o : Off Y w w1) (hd : ∀ k, Bl g gl Xq Xt k → ¬ Y k) : RHv g gq gl gt s Xq Xt w1 := by
  obtain ⟨h1, h2, h3, h4, h5⟩ := h
  exact ⟨(o.block g (lt_row h1) (hd g (.inl rfl))).trans h1, (RQ.holds _ _ _).off h2 o (fun k hk => hd k (.inr (.inr (.inl hk)))), h3.off o (hd gl (.inr (.inl rfl))), (RA.holds _ _).off h4 o (fun k hk => hd k (.inr (.inr (.inr hk)))), h5⟩
theorem RHv.below (h : RHv g gq gl gt s Xq Xt w) (T : Below w.heap.size w w1) : RHv g gq gl gt s Xq Xt w1 := h.off (Y := fun _ => False) (Off.of_below T) (fun _ _ h => h)
theorem RHe.holds (g : Nat) (s : Hs) : Holds (RHe g s) where
  lt := fun ⟨_, _, _, _, _, h, e⟩ k hk => h.lt k (e ▸ hk)
  off := fun ⟨gq, gl, gt, Xq, Xt, h, e⟩ o hd => ⟨gq, gl, gt, Xq, Xt, h.off o (fun k hk => hd k (e ▸ hk)), e⟩
/-- the queue is turned -/
theorem RHv.q (h : RHv g gq gl gt s Xq Xt w) {ls' : List (List UInt8)} {Xq' : Nat → Prop} (hq : RQ gq s.room ls' w1 Xq') (T : Turns Xq Xq' w w1) : RHv g gq gl gt { s with ls := ls' } Xq' Xt w1 ∧ Turns (Bl g gl Xq Xt) (Bl g gl Xq' Xt) w w1 := by
  obtain ⟨h1, h2, h3, h4, h5, h6, h7, h8, h9, h10⟩ := h
  have l1 := lt_row h1
  have l3 : gl < w.heap.size := lt_row h3
  have no : ∀ k, k < w.heap.size → ¬ Xq k → ¬ Xq' k := fun k hk hx hy => by
    rcases T.grow k hy with h | h
    · exact hx h
    · omega
  refine ⟨⟨(T.off.block g l1 h6).trans h1, hq, h3.off T.off h7, (RA.holds _ _).off h4 T.off (fun k hk hx => h10 k hx hk), h5, no g l1 h6, no gl l3 h7, h8, h9, fun k hk hx => ?_⟩, ⟨T.off.more (fun k hk => .inr (.inr (.inl hk))), fun k hk => ?_⟩⟩
  · have := (RA.holds _ _).lt h4 k hx
    exact no k this (fun h => h10 k h hx) hk
  · rcases hk with hk | hk | hk | hk
    · exact .inl (.inl hk)
    · exact .inl (.inr (.inl hk))
    · exact (T.grow k hk).imp (fun h => .inr (.inr (.inl h))) id
    · exact .inl (.inr (.inr (.inr hk)))
/-- the tally is turned -/
theorem RHv.t (h : RHv g gq gl gt s Xq Xt w) {al' : List Tal} {Xt' : Nat → Prop} (ht : RA gt al' w1 Xt') (T : Turns Xt Xt' w w1) : RHv g gq gl gt { s with al := al' } Xq Xt' w1 ∧ Turns (Bl g gl Xq Xt) (Bl g gl Xq Xt') w w1 := by
  obtain ⟨h1, h2, h3, h4, h5, h6, h7, h8, h9, h10⟩ := h
  have l1 := lt_row h1
  have l3 : gl < w.heap.size := lt_row h3
  have no : ∀ k, k < w.heap.size → ¬ Xt k → ¬ Xt' k := fun k hk hx hy => by
    rcases T.grow k hy with h | h
    · exact hx h
    · omega
  refine ⟨⟨(T.off.block g l1 h8).trans h1, (RQ.holds _ _ _).off h2 T.off (fun k hk hx => h10 k hk hx), h3.off T.off h9, ht, h5, h6, h7, no g l1 h8, no gl l3 h9, fun k hk hx => ?_⟩, ⟨T.off.more (fun k hk => .inr (.inr (.inr hk))), fun k hk => ?_⟩⟩
  · have := (RQ.holds _ _ _).lt h2 k hk
    exact no k this (fun h => h10 k hk h) hx
  · rcases hk with hk | hk | hk | hk
    · exact .inl (.inl hk)
    · exact .inl (.inr (.inl hk))
    · exact .inl (.inr (.inr (.inl hk)))
    · exact (T.grow k hk).imp (fun h => .inr (.inr (.inr h))) id
/-- the ledger is turned -/
theorem RHv.l (h : RHv g gq gl gt s Xq Xt w) {o' k' : Nat} (hl : LRow w1 gl o' k') (T : Off (· = gl) w w1) : RHv g gq gl gt { s with o := o', k := k' } Xq Xt w1 ∧ Turns (Bl g gl Xq Xt) (Bl g gl Xq Xt) w w1 := by
  obtain ⟨h1, h2, h3, h4, h5, h6, h7, h8, h9, h10⟩ := h
  exact ⟨⟨(T.block g (lt_row h1) h5).trans h1, (RQ.holds _ _ _).off h2 T (fun k hk e => h7 (e ▸ hk)), hl, (RA.holds _ _).off h4 T (fun k hk e => h9 (e ▸ hk)), h5, h6, h7, h8, h9, h10⟩, ⟨T.more (fun k hk => .inr (.inl hk)), fun k hk => .inl hk⟩⟩
/-- a number of its own is stored -/
theorem RHv.c (h : RHv g gq gl gt s Xq Xt w) {s' : Hs} (j : Nat) (x : Value) (hc : (hecells gq gl gt s).setIfInBounds j x = hecells gq gl gt s') (e1 : s'.room = s.room) (e2 : s'.ls = s.ls) (e3 : s'.o = s.o) (e4 : s'.k = s.k) (e5 : s'.al = s.al) : RHv g gq gl gt s' Xq Xt (w.setCell ⟨g, j, none⟩ x) ∧ Turns (Bl g gl Xq Xt) (Bl g gl Xq Xt) w (w.setCell ⟨g, j, none⟩ x) := by
  obtain ⟨h1, h2, h3, h4, h5, h6, h7, h8, h9, h10⟩ := h
  have O : Off (· = g) w (w.setCell ⟨g, j, none⟩ x) := (Off.refl (· = g) w).setCell (p := ⟨g, j, none⟩) (.inl rfl) x
  refine ⟨⟨by rw [← hc]; exact heap_setCell_same w g j _ _ x h1, ?_, ?_, ?_, h5, h6, h7, h8, h9, h10⟩, ⟨O.more (fun k hk => .inl hk), fun k hk => .inl hk⟩⟩
  · rw [e1, e2]
    exact (RQ.holds _ _ _).off h2 O (fun k hk e => h6 (e ▸ hk))
  · rw [e3, e4]
    exact h3.off O (fun e => h5 e.symm)
  · rw [e5]
    exact (RA.holds _ _).off h4 O (fun k hk e => h8 (e ▸ hk))
/-- a new tally in the old one's place -/
theorem RHv.n (h : RHv g gq gl gt s Xq Xt w) (T : Below w.heap.size w w1) {gt' : Nat} {al' : List Tal} {Xt' : Nat → Prop} (ht : RA gt' al' w1 Xt') (hf : ∀ k, Xt' k → w.heap.size ≤ k) : RHv g gq gl gt' { s with al := al' } Xq Xt' (w1.setCell ⟨g, 2, none⟩ (.pointer (some ⟨gt', 0, none⟩))) ∧ Turns (Bl g gl Xq Xt) (Bl g gl Xq Xt') w (w1.setCell ⟨g, 2, none⟩ (.pointer (some ⟨gt', 0, none⟩))) := by
  have hlt := h.lt
  obtain ⟨h1, h2, h3, h4, h5, h6, h7, h8, h9, h10⟩ := h.below T
  have O : Off (· = g) w1 (w1.setCell ⟨g, 2, none⟩ (.pointer (some ⟨gt', 0, none⟩))) := (Off.refl (· = g) w1).setCell (p := ⟨g, 2, none⟩) (.inl rfl) _
  have nf : ∀ k, k < w.heap.size → ¬ Xt' k := fun k hk hx => by have := hf k hx; omega
  refine ⟨⟨heap_setCell_same w1 g 2 _ _ _ h1, (RQ.holds _ _ _).off h2 O (fun k hk e => h6 (e ▸ hk)), h3.off O (fun e => h5 e.symm), (RA.holds _ _).off ht O (fun k hk e => nf g (hlt g (.inl rfl)) (e ▸ hk)), h5, h6, h7, nf g (hlt g (.inl rfl)), nf gl (hlt gl (.inr (.inl rfl))), fun k hk => nf k (hlt k (.inr (.inr (.inl hk))))⟩, ⟨(Off.of_below T).setCell (p := ⟨g, 2, none⟩) (.inl (.inl rfl)) _, fun k hk => ?_⟩⟩
  rcases hk with hk | hk | hk | hk
  · exact .inl (.inl hk)
  · exact .inl (.inr (.inl hk))
  · exact .inl (.inr (.inr (.inl hk)))
  · exact .inr (hf k hk)
theorem RHv.cells (h : RHv g gq gl gt s Xq Xt w) : w.cell? ⟨g, 0, none⟩ = some (.pointer (some ⟨gq, 0, none⟩)) ∧ w.cell? ⟨g, 1, none⟩ = some (.pointer (some ⟨gl, 0, none⟩)) ∧ w.cell? ⟨g, 2, none⟩ = some (.pointer (some ⟨gt, 0, none⟩)) ∧ w.cell? ⟨g, 3, none⟩ = some (.int .i64 (s.ent : Int)) ∧ w.cell? ⟨g, 4, none⟩ = some (.int .i64 (s.ret : Int)) ∧ ∀ j, w.frozen? ⟨g, j, none⟩ = false :=
  ⟨cell_of_row _ _ _ _ _ _ h.1, cell_of_row _ _ _ _ _ _ h.1, cell_of_row _ _ _ _ _ _ h.1, cell_of_row _ _ _ _ _ _ h.1, cell_of_row _ _ _ _ _ _ h.1, fun _ => frozen_of_row _ _ _ _ _ h.1⟩
end
theorem ra_fresh (W : World) : RA W.heap.size [] (W.alloc (.cells #[.slice none 0 0] 76)) (· = W.heap.size) := by
  exact ⟨rfl, fun k hk => by subst hk; simp, ⟨Nat.zero_le _, fun t ht => by cases ht⟩, .slice none 0 0, heap_alloc_new W _, OwnA.nil _ _ _, fun k hk => by simp [Value.ownBlock] at hk⟩
theorem rhnew_no (r : Int) (b : Nat) (w : World) (h : r < 1 ∨ 16 < r) :
    Calls Try.prog 10 #[.int .i64 r, .int .u64 (b : Int)] w fun e w' => e = .returned (.tuple #[.pointer none, .int .i64 1]) ∧ w = w' := by
  have H := Lib.hid (rqnew_no r w h)
  clear h
  go_enter Try.func10, Try.ntmps10
  go_wp2_with (fail)
  refine H.out.mono ?_
  rintro e w1 ⟨rfl, rfl⟩
  go_wp2
  go_ret2
  exact ⟨rfl, rfl⟩
set_option maxHeartbeats 2000000 in
theorem rhnew_yes (room b : Nat) (w : World) (h1 : 1 ≤ room) (h2 : room ≤ 16) :
    Calls Try.prog 10 #[.int .i64 (room : Int), .int .u64 (b : Int)] w fun e w' => ∃ g X, e = .returned (.tuple #[.pointer (some ⟨g, 0, none⟩), .int .i64 0]) ∧ RHe g ⟨room, [], b, b, [], 0, 0⟩ w' X ∧ (∀ k, X k → w.heap.size ≤ k) ∧ Below w.heap.size w w' := by
  have H := Lib.hid (rqnew_yes room w h1 h2)
  have HL := Lib.hid (fun W => rlnew_any b W)
  clear h1 h2
  go_enter Try.func10, Try.ntmps10
  go_wp2_with (fail)
  refine H.out.mono ?_
  rintro e w1 ⟨rfl, q1, T1⟩
  have Q1 := Lib.hid q1
  clear q1
  go_wp2_with (fail)
  refine (HL.out _).mono ?_
  rintro e w2 ⟨rfl, l2, T2⟩
  have L2 := Lib.hid l2
  have hs1 := (RQ.holds _ _ _).lt Q1.out _ rfl
  have hs2 : w1.heap.size < w2.heap.size := lt_row L2.out
  clear l2
  go_wp2
  go_ret2
  have T3 := (Below.refl _ w2).alloc (Nat.le_refl _) (.cells #[.slice none 0 0] 76)
  have T4 := (Below.refl _ (w2.alloc (.cells #[.slice none 0 0] 76))).alloc (Nat.le_refl _) (.cells (hecells w.heap.size w1.heap.size w2.heap.size ⟨room, [], b, b, [], 0, 0⟩) 78)
  have hs3 : (w2.alloc (.cells #[.slice none 0 0] 76)).heap.size = w2.heap.size + 1 := by simp
  refine ⟨w2.heap.size + 1, Bl (w2.heap.size + 1) w1.heap.size (· = w.heap.size) (· = w2.heap.size), by rw [← hs3]; rfl, ⟨w.heap.size, w1.heap.size, w2.heap.size, (· = w.heap.size), (· = w2.heap.size), ⟨by rw [← hs3]; exact heap_alloc_new _ _, (RQ.holds _ _ _).below ((RQ.holds _ _ _).below ((RQ.holds _ _ _).below Q1.out T2) T3) T4, (L2.out.below T3).below T4, (RA.holds _ _).below (ra_fresh w2) T4, by omega, by omega, by omega, by omega, by omega, fun k hk e => by omega⟩, rfl⟩, fun k hk => ?_, nxt (nxt (nxt T1 T2) T3) T4⟩
  rcases hk with hk | hk | hk | hk <;> omega
end Go.Proofs.Ytpdnpfohcnpenaa
