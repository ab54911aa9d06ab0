/- Package hearer, as landed: a Hearer in memory (its own cell, an engine, a queue, a ledger, a tally); made, New; the engine's label. -/
import Derived.Test.YtpdnpfohcnpenaaHeC
import Derived.Test.YtpdnpfohcnpenaaQuK
import Derived.Test.YtpdnpfohcnpenaaLdK
import Derived.Test.YtpdnpfohcnpenaaTlK
import Derived.Deep.QuietTactic
import Derived.BigQuiet
namespace Go.Proofs.Ytpdnpfohcnpenaa
open Go.RowKit
set_option maxRecDepth 20000

/-- an engine: its own cells, a queue, a ledger, a tally -/
def HeV (g gq gl gt : Nat) (s : Hs) (Xq Xt : Nat → Prop) (w : World) : Prop := w.heap[g]? = some (.cells (hecells gq gl gt s) 65 (0, 0)) ∧ QuP gq s.room s.ls w Xq ∧ LedP w gl s.o s.k ∧ TlP gt s.al w Xt ∧ g ≠ gl ∧ ¬ Xq g ∧ ¬ Xq gl ∧ ¬ Xt g ∧ ¬ Xt gl ∧ ∀ k, Xq k → ¬ Xt k
section
variable {g gq gl gt : Nat} {s : Hs} {Xq Xt : Nat → Prop} {w w1 : World}
theorem HeV.lt (h : HeV g gq gl gt s Xq Xt w) : ∀ k, Bl g gl Xq Xt k → k < w.heap.size := fun k hk => by
  rcases hk with rfl | rfl | hk | hk
  · exact lt_row h.1
  · exact lt_row h.2.2.1
  · exact (QuP.holds _ _ _).lt h.2.1 k hk
  · exact (TlP.holds _ _).lt h.2.2.2.1 k hk
theorem HeV.off {Y : Nat → Prop} (h : HeV g gq gl gt s Xq Xt w) (o : Off Y w w1) (hd : ∀ k, Bl g gl Xq Xt k → ¬ Y k) : HeV g gq gl gt s Xq Xt w1 := by
  obtain ⟨h1, h2, h3, h4, h5⟩ := h
  exact ⟨(o.block g (lt_row h1) (hd g (.inl rfl))).trans h1, (QuP.holds _ _ _).off h2 o (fun k hk => hd k (.inr (.inr (.inl hk)))), h3.off o (hd gl (.inr (.inl rfl))), (TlP.holds _ _).off h4 o (fun k hk => hd k (.inr (.inr (.inr hk)))), h5⟩
theorem HeV.below (h : HeV g gq gl gt s Xq Xt w) (T : Below w.heap.size w w1) : HeV g gq gl gt s Xq Xt w1 := h.off (Y := fun _ => False) (Off.of_below T) (fun _ _ h => h)
/-- the queue is turned -/
theorem HeV.q (h : HeV g gq gl gt s Xq Xt w) {ls' : List (List UInt8)} {Xq' : Nat → Prop} (hq : QuP gq s.room ls' w1 Xq') (T : Turns Xq Xq' w w1) : HeV g gq gl gt { s with ls := ls' } Xq' Xt w1 ∧ Turns (Bl g gl Xq Xt) (Bl g gl Xq' Xt) w w1 := by
  obtain ⟨h1, h2, h3, h4, h5, h6, h7, h8, h9, h10⟩ := h
  have l1 := lt_row h1
  have l3 : gl < w.heap.size := lt_row h3
  have no : ∀ k, k < w.heap.size → ¬ Xq k → ¬ Xq' k := fun k hk hx hy => by
    rcases T.grow k hy with h | h
    · exact hx h
    · omega
  refine ⟨⟨(T.off.block g l1 h6).trans h1, hq, h3.off T.off h7, (TlP.holds _ _).off h4 T.off (fun k hk hx => h10 k hx hk), h5, no g l1 h6, no gl l3 h7, h8, h9, fun k hk hx => ?_⟩, ⟨T.off.more (fun k hk => .inr (.inr (.inl hk))), fun k hk => ?_⟩⟩
  · have := (TlP.holds _ _).lt h4 k hx
    exact no k this (fun h => h10 k h hx) hk
  · rcases hk with hk | hk | hk | hk
    · exact .inl (.inl hk)
    · exact .inl (.inr (.inl hk))
    · exact (T.grow k hk).imp (fun h => .inr (.inr (.inl h))) id
    · exact .inl (.inr (.inr (.inr hk)))
/-- the tally is turned -/
theorem HeV.t (h : HeV g gq gl gt s Xq Xt w) {al' : List Tal} {Xt' : Nat → Prop} (ht : TlP gt al' w1 Xt') (T : Turns Xt Xt' w w1) : HeV g gq gl gt { s with al := al' } Xq Xt' w1 ∧ Turns (Bl g gl Xq Xt) (Bl g gl Xq Xt') w w1 := by
  obtain ⟨h1, h2, h3, h4, h5, h6, h7, h8, h9, h10⟩ := h
  have l1 := lt_row h1
  have l3 : gl < w.heap.size := lt_row h3
  have no : ∀ k, k < w.heap.size → ¬ Xt k → ¬ Xt' k := fun k hk hx hy => by
    rcases T.grow k hy with h | h
    · exact hx h
    · omega
  refine ⟨⟨(T.off.block g l1 h8).trans h1, (QuP.holds _ _ _).off h2 T.off (fun k hk hx => h10 k hk hx), h3.off T.off h9, ht, h5, h6, h7, no g l1 h8, no gl l3 h9, fun k hk hx => ?_⟩, ⟨T.off.more (fun k hk => .inr (.inr (.inr hk))), fun k hk => ?_⟩⟩
  · have := (QuP.holds _ _ _).lt h2 k hk
    exact no k this (fun h => h10 k hk h) hx
  · rcases hk with hk | hk | hk | hk
    · exact .inl (.inl hk)
    · exact .inl (.inr (.inl hk))
    · exact .inl (.inr (.inr (.inl hk)))
    · exact (T.grow k hk).imp (fun h => .inr (.inr (.inr h))) id
/-- the ledger is turned -/
theorem HeV.l (h : HeV g gq gl gt s Xq Xt w) {o' k' : Nat} (hl : LedP w1 gl o' k') (T : Off (· = gl) w w1) : HeV g gq gl gt { s with o := o', k := k' } Xq Xt w1 ∧ Turns (Bl g gl Xq Xt) (Bl g gl Xq Xt) w w1 := by
  obtain ⟨h1, h2, h3, h4, h5, h6, h7, h8, h9, h10⟩ := h
  exact ⟨⟨(T.block g (lt_row h1) h5).trans h1, (QuP.holds _ _ _).off h2 T (fun k hk e => h7 (e ▸ hk)), hl, (TlP.holds _ _).off h4 T (fun k hk e => h9 (e ▸ hk)), h5, h6, h7, h8, h9, h10⟩, ⟨T.more (fun k hk => .inr (.inl hk)), fun k hk => .inl hk⟩⟩
/-- a number of its own is stored -/
theorem HeV.c (h : HeV g gq gl gt s Xq Xt w) {s' : Hs} (j : Nat) (x : Value) (hc : (hecells gq gl gt s).setIfInBounds j x = hecells gq gl gt s') (e1 : s'.room = s.room) (e2 : s'.ls = s.ls) (e3 : s'.o = s.o) (e4 : s'.k = s.k) (e5 : s'.al = s.al) : HeV g gq gl gt s' Xq Xt (w.setCell ⟨g, j, none⟩ x) ∧ Turns (Bl g gl Xq Xt) (Bl g gl Xq Xt) w (w.setCell ⟨g, j, none⟩ x) := by
  obtain ⟨h1, h2, h3, h4, h5, h6, h7, h8, h9, h10⟩ := h
  have O : Off (· = g) w (w.setCell ⟨g, j, none⟩ x) := (Off.refl (· = g) w).setCell (p := ⟨g, j, none⟩) (.inl rfl) x
  refine ⟨⟨by rw [← hc]; exact heap_setCell_same w g j _ _ x h1, ?_, ?_, ?_, h5, h6, h7, h8, h9, h10⟩, ⟨O.more (fun k hk => .inl hk), fun k hk => .inl hk⟩⟩
  · rw [e1, e2]
    exact (QuP.holds _ _ _).off h2 O (fun k hk e => h6 (e ▸ hk))
  · rw [e3, e4]
    exact h3.off O (fun e => h5 e.symm)
  · rw [e5]
    exact (TlP.holds _ _).off h4 O (fun k hk e => h8 (e ▸ hk))
theorem HeV.cells (h : HeV g gq gl gt s Xq Xt w) : w.cell? ⟨g, 0, none⟩ = some (.pointer (some ⟨gq, 0, none⟩)) ∧ w.cell? ⟨g, 1, none⟩ = some (.pointer (some ⟨gl, 0, none⟩)) ∧ w.cell? ⟨g, 2, none⟩ = some (.pointer (some ⟨gt, 0, none⟩)) ∧ w.cell? ⟨g, 3, none⟩ = some (.int .i64 (s.ent : Int)) ∧ w.cell? ⟨g, 4, none⟩ = some (.int .i64 (s.ret : Int)) ∧ ∀ j, w.frozen? ⟨g, j, none⟩ = false :=
  ⟨cell_of_row _ _ _ _ _ _ h.1, cell_of_row _ _ _ _ _ _ h.1, cell_of_row _ _ _ _ _ _ h.1, cell_of_row _ _ _ _ _ _ h.1, cell_of_row _ _ _ _ _ _ h.1, fun _ => frozen_of_row _ _ _ _ _ h.1⟩
end
/-- a Hearer that New made: its own cell, and its engine -/
def HeP (g : Nat) (s : Hs) (w : World) (X : Nat → Prop) : Prop := ∃ ge gq gl gt Xq Xt, w.heap[g]? = some (.cells #[.pointer (some ⟨ge, 0, none⟩)] 67 (0, 0)) ∧ HeV ge gq gl gt s Xq Xt w ∧ ¬ Bl ge gl Xq Xt g ∧ X = fun k => k = g ∨ Bl ge gl Xq Xt k
theorem HeP.holds (g : Nat) (s : Hs) : Holds (HeP g s) where
  lt := fun ⟨_, _, _, _, _, _, h1, h2, _, e⟩ k hk => by
    subst e
    rcases hk with rfl | hk
    · exact lt_row h1
    · exact h2.lt k hk
  off := fun ⟨ge, gq, gl, gt, Xq, Xt, h1, h2, h3, e⟩ o hd => by
    subst e
    exact ⟨ge, gq, gl, gt, Xq, Xt, (o.block g (lt_row h1) (hd g (.inl rfl))).trans h1, h2.off o (fun k hk => hd k (.inr hk)), h3, rfl⟩
/-- the engine is turned -/
theorem HeP.turn {g ge gq gl gt : Nat} {s' : Hs} {Xq Xq' Xt Xt' : Nat → Prop} {w w1 : World} (h1 : w.heap[g]? = some (.cells #[.pointer (some ⟨ge, 0, none⟩)] 67 (0, 0))) (h3 : ¬ Bl ge gl Xq Xt g) (h2 : HeV ge gq gl gt s' Xq' Xt' w1) (T : Turns (Bl ge gl Xq Xt) (Bl ge gl Xq' Xt') w w1) :
    HeP g s' w1 (fun k => k = g ∨ Bl ge gl Xq' Xt' k) ∧ Turns (fun k => k = g ∨ Bl ge gl Xq Xt k) (fun k => k = g ∨ Bl ge gl Xq' Xt' k) w w1 := by
  have l1 := lt_row h1
  refine ⟨⟨ge, gq, gl, gt, Xq', Xt', (T.off.block g l1 h3).trans h1, h2, fun hk => ?_, rfl⟩, ⟨T.off.more (fun k hk => .inr hk), fun k hk => ?_⟩⟩
  · rcases T.grow g hk with h | h
    · exact h3 h
    · omega
  · rcases hk with rfl | hk
    · exact .inl (.inl rfl)
    · exact (T.grow k hk).imp .inr id
theorem hemod2_spelt (n : Nat) : (n : Int).tmod 2 = ((n % 2 : Nat) : Int) := by rw [Int.tmod_eq_emod_of_nonneg (by omega)]; omega
set_option maxHeartbeats 1000000 in
theorem hemade_any (g : Nat) (p : Addr) (w : World) (h : w.cell? ⟨g, 0, none⟩ = some (.pointer (some p))) :
    Calls Try.prog 29 #[.pointer (some ⟨g, 0, none⟩)] w fun e w' => e = .returned (.bool true) ∧ w = w' := by
  go_enter Try.func29, Try.ntmps29
  go_wp2
  go_ret
  exact ⟨rfl, rfl⟩
set_option maxHeartbeats 1000000 in
theorem henmade_any (w : World) :
    Calls Try.prog 29 #[.pointer none] w fun e w' => e = .returned (.bool false) ∧ w = w' := by
  go_enter Try.func29, Try.ntmps29
  go_wp2
  go_ret
  exact ⟨rfl, rfl⟩
set_option maxHeartbeats 1000000 in
theorem helabel_any (ge ent : Nat) (w : World) (h2 : w.cell? ⟨ge, 3, none⟩ = some (.int .i64 (ent : Int))) :
    Calls Try.prog 44 #[.pointer (some ⟨ge, 0, none⟩)] w fun e w' => e = .returned (.int .i64 ((ent % 2 : Nat) : Int)) ∧ w = w' := by
  have em : (ent : Int) % 2 = ((ent % 2 : Nat) : Int) := by omega
  have emt := hemod2_spelt ent
  have h0 : (0 : Int) ≤ (ent : Int) := by omega
  generalize ent % 2 = dm at *
  go_enter Try.func44, Try.ntmps44
  go_wp2
  go_ret
  exact ⟨rfl, rfl⟩
theorem henew_no (r : Int) (b : Nat) (w : World) (h : r < 1 ∨ 16 < r) :
    Calls Try.prog 9 #[.int .i64 r, .int .u64 (b : Int)] w fun e w' => e = .returned (.tuple #[.pointer none, .int .i64 1]) ∧ w = w' := by
  have H := Lib.hid (qunew_no r w h)
  clear h
  go_enter Try.func9, Try.ntmps9
  go_wp2_with (fail)
  refine H.out.mono ?_
  rintro e w1 ⟨rfl, rfl⟩
  go_wp2
  go_ret2
  exact ⟨rfl, rfl⟩
set_option maxHeartbeats 2000000 in
theorem henew_yes (room b : Nat) (w : World) (h1 : 1 ≤ room) (h2 : room ≤ 16) :
    Calls Try.prog 9 #[.int .i64 (room : Int), .int .u64 (b : Int)] w fun e w' => ∃ g X, e = .returned (.tuple #[.pointer (some ⟨g, 0, none⟩), .int .i64 0]) ∧ HeP g ⟨room, [], b, b, [], 0, 0⟩ w' X ∧ (∀ k, X k → w.heap.size ≤ k) ∧ Below w.heap.size w w' := by
  have H := Lib.hid (qunew_yes room w h1 h2)
  have HL := Lib.hid (fun W => ldnew_any b W)
  have HT := Lib.hid (fun W => tlC.new W)
  clear h1 h2
  go_enter Try.func9, Try.ntmps9
  go_wp2_with (fail)
  refine H.out.mono ?_
  rintro e w1 ⟨gq, Xq, rfl, q1, x1, T1⟩
  have Q1 := Lib.hid q1
  clear q1
  go_wp2_with (fail)
  refine (HL.out _).mono ?_
  rintro e w2 ⟨gl, rfl, hg2, l2, T2⟩
  have L2 := Lib.hid l2
  have hgl : gl < w2.heap.size := lt_row L2.out
  clear l2
  go_wp2_with (fail)
  refine (HT.out _).mono ?_
  rintro e w3 ⟨gt, Xt, rfl, t3, x3, T3⟩
  have TT3 := Lib.hid t3
  have hs1 := T1.size
  have hs2 := T2.size
  have hs3 := T3.size
  have hX := (QuP.holds _ _ _).lt Q1.out
  have hXt := (TlP.holds _ _).lt TT3.out
  clear t3
  go_wp2
  go_ret2
  have T4 := (Below.refl _ w3).alloc (Nat.le_refl _) (.cells (hecells gq gl gt ⟨room, [], b, b, [], 0, 0⟩) 65)
  have T5 := T4.alloc T4.size (.cells #[.pointer (some ⟨w3.heap.size, 0, none⟩)] 67)
  have e3 : (w3.alloc (.cells (hecells gq gl gt ⟨room, [], b, b, [], 0, 0⟩) 65)).heap.size = w3.heap.size + 1 := by simp
  have n1 : ¬ Xq w3.heap.size := fun h => by have := hX _ h; omega
  have n2 : ¬ Xq gl := fun h => by have := hX _ h; omega
  have n3 : ¬ Xt w3.heap.size := fun h => by have := hXt _ h; omega
  have n4 : ¬ Xt gl := fun h => by have := x3 _ h; omega
  have n5 : ∀ k, Xq k → ¬ Xt k := fun k h h' => by have := hX _ h; have := x3 _ h'; omega
  have V : HeV w3.heap.size gq gl gt ⟨room, [], b, b, [], 0, 0⟩ Xq Xt (w3.alloc (.cells (hecells gq gl gt ⟨room, [], b, b, [], 0, 0⟩) 65)) := ⟨heap_alloc_new w3 _, (QuP.holds _ _ _).below ((QuP.holds _ _ _).below ((QuP.holds _ _ _).below Q1.out T2) T3) T4, (L2.out.below T3).below T4, (TlP.holds _ _).below TT3.out T4, by omega, n1, n2, n3, n4, n5⟩
  refine ⟨w3.heap.size + 1, fun k => k = w3.heap.size + 1 ∨ Bl w3.heap.size gl Xq Xt k, rfl, ⟨w3.heap.size, gq, gl, gt, Xq, Xt, ?_, V.below ((Below.refl _ _).alloc (Nat.le_refl _) _), fun hk => ?_, rfl⟩, fun k hk => ?_, nxt (nxt (nxt T1 T2) T3) T5⟩
  · have h := heap_alloc_new (w3.alloc (.cells (hecells gq gl gt ⟨room, [], b, b, [], 0, 0⟩) 65)) (.cells #[.pointer (some ⟨w3.heap.size, 0, none⟩)] 67)
    rw [e3] at h
    exact h
  · have := V.lt _ hk
    omega
  · rcases hk with hk | hk | hk | hk | hk
    · omega
    · omega
    · omega
    · exact x1 k hk
    · have := x3 k hk
      omega
end Go.Proofs.Ytpdnpfohcnpenaa
