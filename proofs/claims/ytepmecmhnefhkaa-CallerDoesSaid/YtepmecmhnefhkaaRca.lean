/- The document's own caller (kedgeref20) as an object of three parts: its own cells, a queue, a ledger; what its calls make of the state. -/
import Derived.Test.YtepmecmhnefhkaaQuC
import Derived.Test.YtepmecmhnefhkaaRld
import Derived.Test.YtepmecmhnefhkaaPks
namespace Go.Proofs.Ytepmecmhnefhkaa
open Go.RowKit
set_option maxRecDepth 20000

/-- a caller's state: the queue's room and messages, what the ledger has open and marked, how many were accepted, are done, and the answers -/
structure Cs where
  room : Nat
  ls : List (List UInt8)
  o : Nat
  k : Nat
  acc : Nat
  done : Nat
  acks : Nat
def caNext (s : Cs) : Cs := { s with k := ldMark s.o s.k, acks := 0 }
def caSendE (s : Cs) (n : Nat) : Nat := quPushE s.room s.ls n
def caSend (s : Cs) (m : List UInt8) : Cs := if caSendE s m.length = 0 then (if s.ls = [] then caNext { s with ls := s.ls ++ [m], acc := s.acc + 1 } else { s with ls := s.ls ++ [m], acc := s.acc + 1 }) else s
def caSendN (s : Cs) (n : Nat) : Nat := if caSendE s n = 0 then s.acc else 0
def caPollE (s : Cs) (i : Int) : Nat := if i < 0 ∨ (s.acc : Int) ≤ i then 4 else 0
def caPoll (s : Cs) (i : Int) : Nat := if i < 0 ∨ (s.acc : Int) ≤ i then 0 else if i < (s.done : Int) then 1 else 0
def caTick (s : Cs) : Cs := if s.ls = [] then s else { s with o := ldAsk s.o }
def caTickL (s : Cs) : List Pkt := if s.ls = [] ∨ ldS s.o = true then [] else [(1, 0, [])]
/-- an answer is heard -/
def caAck (s : Cs) (lb : Int) : Cs :=
  if ldCan s.o = true ∧ s.ls ≠ [] ∧ lb = ((s.done % 2 : Nat) : Int) then
    (if ldEnough (ldHear s.o) s.k (s.acks + 1) = true then
      (if s.ls.tail = [] then { s with o := ldHear s.o, ls := s.ls.tail, done := s.done + 1, acks := s.acks + 1 } else caNext { s with o := ldHear s.o, ls := s.ls.tail, done := s.done + 1, acks := s.acks + 1 })
     else { s with o := ldHear s.o, acks := s.acks + 1 })
  else { s with o := ldHear s.o }
def caTake (s : Cs) (kd lb : Int) : Cs := if kd = 4 then caAck s lb else s
def caTakeL (s : Cs) (kd : Int) : List Pkt := if kd = 0 then (if s.ls = [] then [(2, 0, [])] else [(3, ((s.done % 2 : Nat) : Int), s.ls.headD [])]) else []
/-- numbers that are within their kinds -/
def CaOk (s : Cs) : Prop := QOk s.room s.ls ∧ s.o < 18446744073709551616 ∧ s.k < 18446744073709551616 ∧ s.acc ≤ 1000000 ∧ s.done ≤ 1000000 ∧ s.acks ≤ 1000000

def ccells (gq gl : Nat) (s : Cs) : Array Value := #[.pointer (some ⟨gq, 0, none⟩), .pointer (some ⟨gl, 0, none⟩), .int .i64 (s.acc : Int), .int .i64 (s.done : Int), .int .u64 (s.acks : Int)]
/-- the blocks of an object of three parts -/
def Al (g gl : Nat) (Xq : Nat → Prop) : Nat → Prop := fun k => k = g ∨ k = gl ∨ Xq k
def RCv (g gq gl : Nat) (s : Cs) (Xq : Nat → Prop) (w : World) : Prop := w.heap[g]? = some (.cells (ccells gq gl s) 71 (0, 0)) ∧ RQ gq s.room s.ls w Xq ∧ LRow w gl s.o s.k ∧ g ≠ gl ∧ ¬ Xq g ∧ ¬ Xq gl
def RCa (g : Nat) (s : Cs) (w : World) (X : Nat → Prop) : Prop := ∃ gq gl Xq, RCv g gq gl s Xq w ∧ X = Al g gl Xq
section
variable {g gq gl : Nat} {s : Cs} {Xq : Nat → Prop} {w w1 : World}
theorem RCv.lt (h : RCv g gq gl s Xq w) : ∀ k, Al g gl Xq k → k < w.heap.size := fun k hk => by
  rcases hk with rfl | rfl | hk
  · exact lt_row h.1
  · exact lt_row h.2.2.1
  · exact (RQ.holds _ _ _).lt h.2.1 k hk
theorem RCv.off {Y : Nat → Prop} (h : RCv g gq gl s Xq w) (o : Off Y w w1) (hd : ∀ k, Al g gl Xq k → ¬ Y k) : RCv g gq gl s Xq w1 := by
  obtain ⟨h1, h2, h3, h4, h5, h6⟩ := h
  exact ⟨(o.block g (lt_row h1) (hd g (.inl rfl))).trans h1, (RQ.holds _ _ _).off h2 o (fun k hk => hd k (.inr (.inr hk))), h3.off o (hd gl (.inr (.inl rfl))), h4, h5, h6⟩
theorem RCv.below (h : RCv g gq gl s Xq w) (T : Below w.heap.size w w1) : RCv g gq gl s Xq w1 := h.off (Y := fun _ => False) (Off.of_below T) (fun _ _ h => h)
theorem RCa.holds (g : Nat) (s : Cs) : Holds (RCa g s) where
  lt := fun ⟨_, _, _, h, e⟩ k hk => h.lt k (e ▸ hk)
  off := fun ⟨gq, gl, Xq, h, e⟩ o hd => ⟨gq, gl, Xq, h.off o (fun k hk => hd k (e ▸ hk)), e⟩
/-- the queue is turned -/
theorem RCv.q (h : RCv g gq gl s Xq w) {ls' : List (List UInt8)} {Xq' : Nat → Prop} (hq : RQ gq s.room ls' w1 Xq') (T : Turns Xq Xq' w w1) : RCv g gq gl { s with ls := ls' } Xq' w1 ∧ Turns (Al g gl Xq) (Al g gl Xq') w w1 := by
  obtain ⟨h1, h2, h3, h4, h5, h6⟩ := h
  have l1 := lt_row h1
  have l3 : gl < w.heap.size := lt_row h3
  have no : ∀ k, k < w.heap.size → ¬ Xq k → ¬ Xq' k := fun k hk hx hy => by
    rcases T.grow k hy with h | h
    · exact hx h
    · omega
  refine ⟨⟨(T.off.block g l1 h5).trans h1, hq, h3.off T.off h6, h4, no g l1 h5, no gl l3 h6⟩, ⟨T.off.more (fun k hk => .inr (.inr hk)), fun k hk => ?_⟩⟩
  rcases hk with hk | hk | hk
  · exact .inl (.inl hk)
  · exact .inl (.inr (.inl hk))
  · exact (T.grow k hk).imp (fun h => .inr (.inr h)) id
/-- the ledger is turned -/
theorem RCv.l (h : RCv g gq gl s Xq w) {o' k' : Nat} (hl : LRow w1 gl o' k') (T : Off (· = gl) w w1) : RCv g gq gl { s with o := o', k := k' } Xq w1 ∧ Turns (Al g gl Xq) (Al g gl Xq) w w1 := by
  obtain ⟨h1, h2, h3, h4, h5, h6⟩ := h
  exact ⟨⟨(T.block g (lt_row h1) h4).trans h1, (RQ.holds _ _ _).off h2 T (fun k hk e => h6 (e ▸ hk)), hl, h4, h5, h6⟩, ⟨T.more (fun k hk => .inr (.inl hk)), fun k hk => .inl hk⟩⟩
/-- a number of its own is stored -/
theorem RCv.c (h : RCv g gq gl s Xq w) {s' : Cs} (j : Nat) (x : Value) (hc : (ccells gq gl s).setIfInBounds j x = ccells gq gl s') (e1 : s'.room = s.room) (e2 : s'.ls = s.ls) (e3 : s'.o = s.o) (e4 : s'.k = s.k) : RCv g gq gl s' Xq (w.setCell ⟨g, j, none⟩ x) ∧ Turns (Al g gl Xq) (Al g gl Xq) w (w.setCell ⟨g, j, none⟩ x) := by
  obtain ⟨h1, h2, h3, h4, h5, h6⟩ := h
  have O : Off (· = g) w (w.setCell ⟨g, j, none⟩ x) := (Off.refl (· = g) w).setCell (p := ⟨g, j, none⟩) (.inl rfl) x
  refine ⟨⟨by rw [← hc]; exact heap_setCell_same w g j _ _ x h1, ?_, ?_, h4, h5, h6⟩, ⟨O.more (fun k hk => .inl hk), fun k hk => .inl hk⟩⟩
  · rw [e1, e2]
    exact (RQ.holds _ _ _).off h2 O (fun k hk e => h5 (e ▸ hk))
  · rw [e3, e4]
    exact h3.off O (fun e => h4 e.symm)
theorem RCv.cells (h : RCv g gq gl s Xq w) : w.cell? ⟨g, 0, none⟩ = some (.pointer (some ⟨gq, 0, none⟩)) ∧ w.cell? ⟨g, 1, none⟩ = some (.pointer (some ⟨gl, 0, none⟩)) ∧ w.cell? ⟨g, 2, none⟩ = some (.int .i64 (s.acc : Int)) ∧ w.cell? ⟨g, 3, none⟩ = some (.int .i64 (s.done : Int)) ∧ w.cell? ⟨g, 4, none⟩ = some (.int .u64 (s.acks : Int)) ∧ ∀ j, w.frozen? ⟨g, j, none⟩ = false :=
  ⟨cell_of_row _ _ _ _ _ _ h.1, cell_of_row _ _ _ _ _ _ h.1, cell_of_row _ _ _ _ _ _ h.1, cell_of_row _ _ _ _ _ _ h.1, cell_of_row _ _ _ _ _ _ h.1, fun _ => frozen_of_row _ _ _ _ _ h.1⟩
end
theorem rcnew_no (r : Int) (b : Nat) (w : World) (h : r < 1 ∨ 16 < r) :
    Calls Try.prog 8 #[.int .i64 r, .int .u64 (b : Int)] w fun e w' => e = .returned (.tuple #[.pointer none, .int .i64 1]) ∧ w = w' := by
  have H := Lib.hid (rqnew_no r w h)
  clear h
  go_enter Try.func8, Try.ntmps8
  go_wp2_with (fail)
  refine H.out.mono ?_
  rintro e w1 ⟨rfl, rfl⟩
  go_wp2
  go_ret2
  exact ⟨rfl, rfl⟩
set_option maxHeartbeats 2000000 in
theorem rcnew_yes (room b : Nat) (w : World) (h1 : 1 ≤ room) (h2 : room ≤ 16) :
    Calls Try.prog 8 #[.int .i64 (room : Int), .int .u64 (b : Int)] w fun e w' => ∃ g X, e = .returned (.tuple #[.pointer (some ⟨g, 0, none⟩), .int .i64 0]) ∧ RCa g ⟨room, [], b, b, 0, 0, 0⟩ w' X ∧ (∀ k, X k → w.heap.size ≤ k) ∧ Below w.heap.size w w' := by
  have H := Lib.hid (rqnew_yes room w h1 h2)
  have HL := Lib.hid (fun W => rlnew_any b W)
  clear h1 h2
  go_enter Try.func8, Try.ntmps8
  go_wp2_with (fail)
  refine H.out.mono ?_
  rintro e w1 ⟨rfl, q1, T1⟩
  have Q1 := Lib.hid q1
  clear q1
  go_wp2_with (fail)
  refine (HL.out _).mono ?_
  rintro e w2 ⟨rfl, l2, T2⟩
  have L2 := Lib.hid l2
  have hs1 := (RQ.holds _ _ _).lt Q1.out _ rfl
  have hs2 : w1.heap.size < w2.heap.size := lt_row L2.out
  clear l2
  go_wp2
  go_ret2
  have T3 := (Below.refl _ w2).alloc (Nat.le_refl _) (.cells (ccells w.heap.size w1.heap.size ⟨room, [], b, b, 0, 0, 0⟩) 71)
  refine ⟨w2.heap.size, Al w2.heap.size w1.heap.size (· = w.heap.size), rfl, ⟨w.heap.size, w1.heap.size, (· = w.heap.size), ⟨heap_alloc_new w2 _, (RQ.holds _ _ _).below ((RQ.holds _ _ _).below Q1.out T2) T3, L2.out.below T3, by omega, by omega, by omega⟩, rfl⟩, fun k hk => ?_, nxt (nxt T1 T2) T3⟩
  rcases hk with hk | hk | hk <;> omega
set_option maxHeartbeats 2000000 in
theorem rcnext_any (g gq gl : Nat) (s : Cs) (Xq : Nat → Prop) (w : World) (h : RCv g gq gl s Xq w) (ho : s.o < 18446744073709551616) :
    Calls Try.prog 28 #[.pointer (some ⟨g, 0, none⟩)] w fun e w' => e = .returned (.tuple #[]) ∧ RCv g gq gl (caNext s) Xq w' ∧ Turns (Al g gl Xq) (Al g gl Xq) w w' := by
  have H := Lib.hid (rlset_any gl s.o s.k w ho h.2.2.1)
  obtain ⟨c0, c1, -, -, -, -⟩ := h.cells
  have HR := Lib.hid h
  clear h ho
  go_enter Try.func28, Try.ntmps28
  go_wp2_with (fail)
  refine H.out.mono ?_
  rintro e w1 ⟨rfl, l1, O1⟩
  obtain ⟨R1, t1⟩ := HR.out.l l1 O1
  obtain ⟨-, -, -, -, a4, fz⟩ := R1.cells
  have f4 := fz 4
  have HE := Lib.hid (R1.c (s' := caNext s) 4 (.int .u64 0) rfl rfl rfl rfl rfl)
  have HT := Lib.hid t1
  clear R1 t1 l1 O1 fz c0 c1
  go_wp2
  go_end0
  exact ⟨rfl, HE.out.1, HT.out.trans HE.out.2⟩
end Go.Proofs.Ytepmecmhnefhkaa
