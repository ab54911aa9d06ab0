/- Package caller, as landed: a Caller in memory (its own cell, an engine, a queue, a ledger); New; the engine's accepted, label, become. -/
import Derived.Test.YtepmecmhnefhkaaCaC
import Derived.Test.YtepmecmhnefhkaaQuK
import Derived.Test.YtepmecmhnefhkaaLdK
import Derived.Deep.QuietTactic
import Derived.BigQuiet
namespace Go.Proofs.Ytepmecmhnefhkaa
open Go.RowKit
set_option maxRecDepth 20000

/-- an engine: its own cells, a queue, a ledger -/
def ecells (gq gl : Nat) (s : Cs) : Array Value := #[.pointer (some ⟨gq, 0, none⟩), .pointer (some ⟨gl, 0, none⟩), .int .i64 (s.done : Int), .int .u64 (s.acks : Int)]
def CeV (g gq gl : Nat) (s : Cs) (Xq : Nat → Prop) (w : World) : Prop := w.heap[g]? = some (.cells (ecells gq gl s) 62 (0, 0)) ∧ QuP gq s.room s.ls w Xq ∧ LedP w gl s.o s.k ∧ g ≠ gl ∧ ¬ Xq g ∧ ¬ Xq gl
section
variable {g gq gl : Nat} {s : Cs} {Xq : Nat → Prop} {w w1 : World}
theorem CeV.lt (h : CeV g gq gl s Xq w) : ∀ k, Al g gl Xq k → k < w.heap.size := fun k hk => by
  rcases hk with rfl | rfl | hk
  · exact lt_row h.1
  · exact lt_row h.2.2.1
  · exact (QuP.holds _ _ _).lt h.2.1 k hk
theorem CeV.off {Y : Nat → Prop} (h : CeV g gq gl s Xq w) (o : Off Y w w1) (hd : ∀ k, Al g gl Xq k → ¬ Y k) : CeV g gq gl s Xq w1 := by
  obtain ⟨h1, h2, h3, h4, h5, h6⟩ := h
  exact ⟨(o.block g (lt_row h1) (hd g (.inl rfl))).trans h1, (QuP.holds _ _ _).off h2 o (fun k hk => hd k (.inr (.inr hk))), h3.off o (hd gl (.inr (.inl rfl))), h4, h5, h6⟩
theorem CeV.below (h : CeV g gq gl s Xq w) (T : Below w.heap.size w w1) : CeV g gq gl s Xq w1 := h.off (Y := fun _ => False) (Off.of_below T) (fun _ _ h => h)
/-- the queue is turned -/
theorem CeV.q (h : CeV g gq gl s Xq w) {ls' : List (List UInt8)} {Xq' : Nat → Prop} (hq : QuP gq s.room ls' w1 Xq') (T : Turns Xq Xq' w w1) : CeV g gq gl { s with ls := ls' } Xq' w1 ∧ Turns (Al g gl Xq) (Al g gl Xq') w w1 := by
  obtain ⟨h1, h2, h3, h4, h5, h6⟩ := h
  have l1 := lt_row h1
  have l3 : gl < w.heap.size := lt_row h3
  have no : ∀ k, k < w.heap.size → ¬ Xq k → ¬ Xq' k := fun k hk hx hy => by
    rcases T.grow k hy with h | h
    · exact hx h
    · omega
  refine ⟨⟨(T.off.block g l1 h5).trans h1, hq, h3.off T.off h6, h4, no g l1 h5, no gl l3 h6⟩, ⟨T.off.more (fun k hk => .inr (.inr hk)), fun k hk => ?_⟩⟩
  rcases hk with hk | hk | hk
  · exact .inl (.inl hk)
  · exact .inl (.inr (.inl hk))
  · exact (T.grow k hk).imp (fun h => .inr (.inr h)) id
/-- the ledger is turned -/
theorem CeV.l (h : CeV g gq gl s Xq w) {o' k' : Nat} (hl : LedP w1 gl o' k') (T : Off (· = gl) w w1) : CeV g gq gl { s with o := o', k := k' } Xq w1 ∧ Turns (Al g gl Xq) (Al g gl Xq) w w1 := by
  obtain ⟨h1, h2, h3, h4, h5, h6⟩ := h
  exact ⟨⟨(T.block g (lt_row h1) h4).trans h1, (QuP.holds _ _ _).off h2 T (fun k hk e => h6 (e ▸ hk)), hl, h4, h5, h6⟩, ⟨T.more (fun k hk => .inr (.inl hk)), fun k hk => .inl hk⟩⟩
/-- a number of its own is stored -/
theorem CeV.c (h : CeV g gq gl s Xq w) {s' : Cs} (j : Nat) (x : Value) (hc : (ecells gq gl s).setIfInBounds j x = ecells gq gl s') (e1 : s'.room = s.room) (e2 : s'.ls = s.ls) (e3 : s'.o = s.o) (e4 : s'.k = s.k) : CeV g gq gl s' Xq (w.setCell ⟨g, j, none⟩ x) ∧ Turns (Al g gl Xq) (Al g gl Xq) w (w.setCell ⟨g, j, none⟩ x) := by
  obtain ⟨h1, h2, h3, h4, h5, h6⟩ := h
  have O : Off (· = g) w (w.setCell ⟨g, j, none⟩ x) := (Off.refl (· = g) w).setCell (p := ⟨g, j, none⟩) (.inl rfl) x
  refine ⟨⟨by rw [← hc]; exact heap_setCell_same w g j _ _ x h1, ?_, ?_, h4, h5, h6⟩, ⟨O.more (fun k hk => .inl hk), fun k hk => .inl hk⟩⟩
  · rw [e1, e2]
    exact (QuP.holds _ _ _).off h2 O (fun k hk e => h5 (e ▸ hk))
  · rw [e3, e4]
    exact h3.off O (fun e => h4 e.symm)
theorem CeV.cells (h : CeV g gq gl s Xq w) : w.cell? ⟨g, 0, none⟩ = some (.pointer (some ⟨gq, 0, none⟩)) ∧ w.cell? ⟨g, 1, none⟩ = some (.pointer (some ⟨gl, 0, none⟩)) ∧ w.cell? ⟨g, 2, none⟩ = some (.int .i64 (s.done : Int)) ∧ w.cell? ⟨g, 3, none⟩ = some (.int .u64 (s.acks : Int)) ∧ ∀ j, w.frozen? ⟨g, j, none⟩ = false :=
  ⟨cell_of_row _ _ _ _ _ _ h.1, cell_of_row _ _ _ _ _ _ h.1, cell_of_row _ _ _ _ _ _ h.1, cell_of_row _ _ _ _ _ _ h.1, fun _ => frozen_of_row _ _ _ _ _ h.1⟩
theorem CeV.qlen (h : CeV g gq gl s Xq w) : w.cell? ⟨gq, 18, none⟩ = some (.int .i64 (s.ls.length : Int)) := by
  obtain ⟨_, f, _, _, _, c18, _⟩ := h.2.1.cells
  exact c18
end
/-- a Caller that New made: its own cell, and its engine; how many were accepted is what the others tell -/
def CaP (g : Nat) (s : Cs) (w : World) (X : Nat → Prop) : Prop := ∃ ge gq gl Xq, w.heap[g]? = some (.cells #[.pointer (some ⟨ge, 0, none⟩)] 64 (0, 0)) ∧ CeV ge gq gl s Xq w ∧ ¬ Al ge gl Xq g ∧ s.acc = s.done + s.ls.length ∧ X = fun k => k = g ∨ Al ge gl Xq k
theorem CaP.holds (g : Nat) (s : Cs) : Holds (CaP g s) where
  lt := fun ⟨_, _, _, _, h1, h2, _, _, e⟩ k hk => by
    subst e
    rcases hk with rfl | hk
    · exact lt_row h1
    · exact h2.lt k hk
  off := fun ⟨ge, gq, gl, Xq, h1, h2, h3, h4, e⟩ o hd => by
    subst e
    exact ⟨ge, gq, gl, Xq, (o.block g (lt_row h1) (hd g (.inl rfl))).trans h1, h2.off o (fun k hk => hd k (.inr hk)), h3, h4, rfl⟩
/-- the engine is turned -/
theorem CaP.turn {g ge gq gl : Nat} {s' : Cs} {Xq Xq' : Nat → Prop} {w w1 : World} (h1 : w.heap[g]? = some (.cells #[.pointer (some ⟨ge, 0, none⟩)] 64 (0, 0))) (h3 : ¬ Al ge gl Xq g) (h2 : CeV ge gq gl s' Xq' w1) (h4 : s'.acc = s'.done + s'.ls.length) (T : Turns (Al ge gl Xq) (Al ge gl Xq') w w1) :
    CaP g s' w1 (fun k => k = g ∨ Al ge gl Xq' k) ∧ Turns (fun k => k = g ∨ Al ge gl Xq k) (fun k => k = g ∨ Al ge gl Xq' k) w w1 := by
  have l1 := lt_row h1
  refine ⟨⟨ge, gq, gl, Xq', (T.off.block g l1 h3).trans h1, h2, fun hk => ?_, h4, rfl⟩, ⟨T.off.more (fun k hk => .inr hk), fun k hk => ?_⟩⟩
  · rcases T.grow g hk with h | h
    · exact h3 h
    · omega
  · rcases hk with rfl | hk
    · exact .inl (.inl rfl)
    · exact (T.grow k hk).imp .inr id
theorem mod2_spelt (n : Nat) : (n : Int).tmod 2 = ((n % 2 : Nat) : Int) := by rw [Int.tmod_eq_emod_of_nonneg (by omega)]; omega
set_option maxHeartbeats 1000000 in
theorem camade_any (g : Nat) (p : Addr) (w : World) (h : w.cell? ⟨g, 0, none⟩ = some (.pointer (some p))) :
    Calls Try.prog 25 #[.pointer (some ⟨g, 0, none⟩)] w fun e w' => e = .returned (.bool true) ∧ w = w' := by
  go_enter Try.func25, Try.ntmps25
  go_wp2
  go_ret
  exact ⟨rfl, rfl⟩
set_option maxHeartbeats 2000000 in
theorem caaccepted_any (ge gq done n : Nat) (w : World) (h0 : w.cell? ⟨ge, 0, none⟩ = some (.pointer (some ⟨gq, 0, none⟩))) (h2 : w.cell? ⟨ge, 2, none⟩ = some (.int .i64 (done : Int))) (hq : w.cell? ⟨gq, 18, none⟩ = some (.int .i64 (n : Int))) (hd : done ≤ 1000000) (hn : n ≤ 16) :
    Calls Try.prog 38 #[.pointer (some ⟨ge, 0, none⟩)] w fun e w' => e = .returned (.int .i64 ((done + n : Nat) : Int)) ∧ Below w.heap.size w w' := by
  have HL := Lib.hid (fun k => (qulen_any gq n (w.drewN k) (show (w.drewN k).cell? _ = _ from hq)).mono (fun _ _ ⟨h1, h2⟩ => And.intro h1 h2.symm))
  have es : ((done : Int) + (n : Int)) = ((done + n : Nat) : Int) := by omega
  have HS := Lib.hid es
  clear hq es
  go_enter Try.func38, Try.ntmps38
  go_wp2_with (fail)
  go_quiet ((go_at_call 30; refine Calls.quiet_of_same (HL.out _)))
  go_wp2
  go_ret
  exact ⟨rfl, below_drewN' (Below.refl _ _) nq⟩
set_option maxHeartbeats 1000000 in
theorem calabel_any (ge done : Nat) (w : World) (h2 : w.cell? ⟨ge, 2, none⟩ = some (.int .i64 (done : Int))) :
    Calls Try.prog 48 #[.pointer (some ⟨ge, 0, none⟩)] w fun e w' => e = .returned (.int .i64 ((done % 2 : Nat) : Int)) ∧ w = w' := by
  have em : (done : Int) % 2 = ((done % 2 : Nat) : Int) := by omega
  have emt := mod2_spelt done
  have h0 : (0 : Int) ≤ (done : Int) := by omega
  generalize done % 2 = dm at *
  go_enter Try.func48, Try.ntmps48
  go_wp2
  go_ret
  exact ⟨rfl, rfl⟩
set_option maxHeartbeats 2000000 in
theorem cabecome_any (ge gq gl : Nat) (s : Cs) (Xq : Nat → Prop) (w : World) (h : CeV ge gq gl s Xq w) (ho : s.o < 18446744073709551616) :
    Calls Try.prog 43 #[.pointer (some ⟨ge, 0, none⟩)] w fun e w' => e = .returned (.tuple #[]) ∧ CeV ge gq gl (caNext s) Xq w' ∧ Turns (Al ge gl Xq) (Al ge gl Xq) w w' := by
  have H := Lib.hid (ldmark_any gl s.o s.k w ho h.2.2.1)
  obtain ⟨c0, c1, -, -, -⟩ := h.cells
  have HR := Lib.hid h
  clear h ho
  go_enter Try.func43, Try.ntmps43
  go_wp2_with (fail)
  refine H.out.mono ?_
  rintro e w1 ⟨rfl, l1, O1⟩
  obtain ⟨R1, t1⟩ := HR.out.l l1 O1
  obtain ⟨-, -, -, a3, fz⟩ := R1.cells
  have f3 := fz 3
  have HE := Lib.hid (R1.c (s' := caNext s) 3 (.int .u64 0) rfl rfl rfl rfl rfl)
  have HT := Lib.hid t1
  clear R1 t1 l1 O1 fz c0 c1
  go_wp2
  go_end0
  exact ⟨rfl, HE.out.1, HT.out.trans HE.out.2⟩
theorem canew_no (r : Int) (b : Nat) (w : World) (h : r < 1 ∨ 16 < r) :
    Calls Try.prog 7 #[.int .i64 r, .int .u64 (b : Int)] w fun e w' => e = .returned (.tuple #[.pointer none, .int .i64 1]) ∧ w = w' := by
  have H := Lib.hid (qunew_no r w h)
  clear h
  go_enter Try.func7, Try.ntmps7
  go_wp2_with (fail)
  refine H.out.mono ?_
  rintro e w1 ⟨rfl, rfl⟩
  go_wp2
  go_ret2
  exact ⟨rfl, rfl⟩
set_option maxHeartbeats 2000000 in
theorem canew_yes (room b : Nat) (w : World) (h1 : 1 ≤ room) (h2 : room ≤ 16) :
    Calls Try.prog 7 #[.int .i64 (room : Int), .int .u64 (b : Int)] w fun e w' => ∃ g X, e = .returned (.tuple #[.pointer (some ⟨g, 0, none⟩), .int .i64 0]) ∧ CaP g ⟨room, [], b, b, 0, 0, 0⟩ w' X ∧ (∀ k, X k → w.heap.size ≤ k) ∧ Below w.heap.size w w' := by
  have H := Lib.hid (qunew_yes room w h1 h2)
  have HL := Lib.hid (fun W => ldnew_any b W)
  clear h1 h2
  go_enter Try.func7, Try.ntmps7
  go_wp2_with (fail)
  refine H.out.mono ?_
  rintro e w1 ⟨gq, Xq, rfl, q1, x1, T1⟩
  have Q1 := Lib.hid q1
  clear q1
  go_wp2_with (fail)
  refine (HL.out _).mono ?_
  rintro e w2 ⟨gl, rfl, hg2, l2, T2⟩
  have L2 := Lib.hid l2
  have hs1 := T1.size
  have hs2 := T2.size
  have hgl : gl < w2.heap.size := lt_row L2.out
  have hX := (QuP.holds _ _ _).lt Q1.out
  clear l2
  go_wp2
  go_ret2
  have T3 := (Below.refl _ w2).alloc (Nat.le_refl _) (.cells (ecells gq gl ⟨room, [], b, b, 0, 0, 0⟩) 62)
  have T4 := T3.alloc T3.size (.cells #[.pointer (some ⟨w2.heap.size, 0, none⟩)] 64)
  have e3 : (w2.alloc (.cells (ecells gq gl ⟨room, [], b, b, 0, 0, 0⟩) 62)).heap.size = w2.heap.size + 1 := by simp
  have n1 : ¬ Xq w2.heap.size := fun h => by have := hX _ h; omega
  have n2 : ¬ Xq gl := fun h => by have := hX _ h; omega
  have V : CeV w2.heap.size gq gl ⟨room, [], b, b, 0, 0, 0⟩ Xq (w2.alloc (.cells (ecells gq gl ⟨room, [], b, b, 0, 0, 0⟩) 62)) := ⟨heap_alloc_new w2 _, (QuP.holds _ _ _).below ((QuP.holds _ _ _).below Q1.out T2) T3, LedP.off (X := fun _ => False) L2.out (Off.of_below T3) (fun h => h), by omega, n1, n2⟩
  refine ⟨w2.heap.size + 1, fun k => k = w2.heap.size + 1 ∨ Al w2.heap.size gl Xq k, rfl, ⟨w2.heap.size, gq, gl, Xq, ?_, V.below ((Below.refl _ _).alloc (Nat.le_refl _) _), fun hk => ?_, rfl, rfl⟩, fun k hk => ?_, nxt (nxt T1 T2) T4⟩
  · have h := heap_alloc_new (w2.alloc (.cells (ecells gq gl ⟨room, [], b, b, 0, 0, 0⟩) 62)) (.cells #[.pointer (some ⟨w2.heap.size, 0, none⟩)] 64)
    rw [e3] at h
    exact h
  · have := V.lt _ hk
    omega
  · rcases hk with hk | hk | hk | hk
    · omega
    · omega
    · omega
    · exact x1 k hk
end Go.Proofs.Ytepmecmhnefhkaa
