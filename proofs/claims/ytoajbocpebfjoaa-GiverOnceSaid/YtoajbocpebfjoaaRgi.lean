/- The document's own giver (kedgeref28) as an object: its own cells, a queue, a source of numbers; New, known. -/
import Derived.Test.YtoajbocpebfjoaaGivM
import Derived.Test.YtoajbocpebfjoaaSep
import Derived.Deep.QuietTactic
import Derived.BigQuiet
import Derived.Deep.RegionHeld3
namespace Go.Proofs.Ytoajbocpebfjoaa
open Go.RowKit
set_option maxRecDepth 20000

def gvcells (gq gs : Nat) (s : Gvs) : Array Value := #[.pointer (some ⟨gq, 0, none⟩), .pointer (some ⟨gs, 0, none⟩), .int .u64 (s.r : Int), .bool s.opn, .bool s.has, .int .u64 (s.t : Int), .int .u64 (s.c : Int), .int .u64 (s.last : Int), .int .i64 (s.ent : Int), .int .i64 (s.ret : Int)]
def RGv (g gq gs : Nat) (s : Gvs) (Xq Xs : Nat → Prop) (w : World) : Prop := Ob g 55 (gvcells gq gs s) (RQ gq s.room s.ls) (RN gs s.l s.k) Xq Xs w
def RG (g : Nat) (s : Gvs) (w : World) (X : Nat → Prop) : Prop := ∃ gq gs Xq Xs, RGv g gq gs s Xq Xs w ∧ X = Ob3 g Xq Xs
section
variable {g gq gs : Nat} {s : Gvs} {Xq Xs : Nat → Prop} {w w1 : World}
theorem RGv.lt (h : RGv g gq gs s Xq Xs w) : ∀ k, Ob3 g Xq Xs k → k < w.heap.size := Ob.lt (RQ.holds _ _ _) (RN.holds _ _ _) h
theorem RGv.below (h : RGv g gq gs s Xq Xs w) (T : Below w.heap.size w w1) : RGv g gq gs s Xq Xs w1 := Ob.below (RQ.holds _ _ _) (RN.holds _ _ _) h T
theorem RG.holds (g : Nat) (s : Gvs) : Holds (RG g s) where
  lt := fun ⟨_, _, _, _, h, e⟩ k hk => h.lt k (e ▸ hk)
  off := fun ⟨gq, gs, Xq, Xs, h, e⟩ o hd => ⟨gq, gs, Xq, Xs, Ob.off (RQ.holds _ _ _) (RN.holds _ _ _) h o (fun k hk => hd k (e ▸ hk)), e⟩
theorem RGv.q (h : RGv g gq gs s Xq Xs w) {ls' : List (List UInt8)} {Xq' : Nat → Prop} (hq : RQ gq s.room ls' w1 Xq') (T : Turns Xq Xq' w w1) : RGv g gq gs { s with ls := ls' } Xq' Xs w1 ∧ Turns (Ob3 g Xq Xs) (Ob3 g Xq' Xs) w w1 := Ob.p (RN.holds _ _ _) h hq T
theorem RGv.n (h : RGv g gq gs s Xq Xs w) {k' : Nat} {Xs' : Nat → Prop} (hn : RN gs s.l k' w1 Xs') (T : Turns Xs Xs' w w1) : RGv g gq gs { s with k := k' } Xq Xs' w1 ∧ Turns (Ob3 g Xq Xs) (Ob3 g Xq Xs') w w1 := Ob.q (RQ.holds _ _ _) h hn T
theorem RGv.c (h : RGv g gq gs s Xq Xs w) {s' : Gvs} (j : Nat) (x : Value) (hc : (gvcells gq gs s).setIfInBounds j x = gvcells gq gs s') (e1 : s'.room = s.room) (e2 : s'.ls = s.ls) (e3 : s'.l = s.l) (e4 : s'.k = s.k) : RGv g gq gs s' Xq Xs (w.setCell ⟨g, j, none⟩ x) ∧ Turns (Ob3 g Xq Xs) (Ob3 g Xq Xs) w (w.setCell ⟨g, j, none⟩ x) := by
  have q := Ob.c (RQ.holds _ _ _) (RN.holds _ _ _) h j x
  rw [hc, ← e1, ← e2, ← e3, ← e4] at q
  exact q
theorem RGv.cells (h : RGv g gq gs s Xq Xs w) : w.cell? ⟨g, 0, none⟩ = some (.pointer (some ⟨gq, 0, none⟩)) ∧ w.cell? ⟨g, 1, none⟩ = some (.pointer (some ⟨gs, 0, none⟩)) ∧ w.cell? ⟨g, 2, none⟩ = some (.int .u64 (s.r : Int)) ∧ w.cell? ⟨g, 3, none⟩ = some (.bool s.opn) ∧ w.cell? ⟨g, 4, none⟩ = some (.bool s.has) ∧ w.cell? ⟨g, 5, none⟩ = some (.int .u64 (s.t : Int)) ∧ w.cell? ⟨g, 6, none⟩ = some (.int .u64 (s.c : Int)) ∧ w.cell? ⟨g, 7, none⟩ = some (.int .u64 (s.last : Int)) ∧ w.cell? ⟨g, 8, none⟩ = some (.int .i64 (s.ent : Int)) ∧ w.cell? ⟨g, 9, none⟩ = some (.int .i64 (s.ret : Int)) ∧ ∀ j, w.frozen? ⟨g, j, none⟩ = false :=
  ⟨h.cell 0, h.cell 1, h.cell 2, h.cell 3, h.cell 4, h.cell 5, h.cell 6, h.cell 7, h.cell 8, h.cell 9, h.froz⟩
theorem RGv.len (h : RGv g gq gs s Xq Xs w) : ∃ P c, w.cell? ⟨gq, 1, none⟩ = some (.slice P s.ls.length c) := by
  obtain ⟨P, c, -, -, -, h3, -⟩ := h.2.1.cells
  exact ⟨P, c, h3⟩
end
theorem rgnew_no (r : Int) (p : Option Addr) (w : World) (h : r < 1 ∨ 16 < r) :
    Calls Try.prog 10 #[.int .i64 r, .pointer p] w fun e w' => e = .returned (.tuple #[.pointer none, .int .i64 1]) ∧ w = w' := by
  have H := Lib.hid (rqnew_no r w h)
  clear h
  go_enter Try.func10, Try.ntmps10
  go_wp2_with (fail)
  refine H.out.mono ?_
  rintro e w1 ⟨rfl, rfl⟩
  go_wp2
  go_ret2
  exact ⟨rfl, rfl⟩
theorem rgnew_nil (room : Nat) (w : World) (h1 : 1 ≤ room) (h2 : room ≤ 16) :
    Calls Try.prog 10 #[.int .i64 (room : Int), .pointer none] w fun e w' => e = .returned (.tuple #[.pointer none, .int .i64 1]) ∧ Below w.heap.size w w' := by
  have H := Lib.hid (rqnew_yes room w h1 h2)
  clear h1 h2
  go_enter Try.func10, Try.ntmps10
  go_wp2_with (fail)
  refine H.out.mono ?_
  rintro e w1 ⟨rfl, -, T⟩
  go_wp2
  go_ret2
  exact ⟨rfl, T⟩
set_option maxHeartbeats 2000000 in
theorem rgnew_yes (room gs : Nat) (l : List Nat) (k : Nat) (Xs : Nat → Prop) (w : World) (h1 : 1 ≤ room) (h2 : room ≤ 16) (hN : RN gs l k w Xs) (hk : k < 1000000) :
    Calls Try.prog 10 #[.int .i64 (room : Int), .pointer (some ⟨gs, 0, none⟩)] w fun e w' => ∃ g X, e = .returned (.tuple #[.pointer (some ⟨g, 0, none⟩), .int .i64 0]) ∧ RG g ⟨room, [], l, k + 1, nx l k, false, false, 0, 0, 0, 0, 0⟩ w' X ∧ Turns Xs X w w' := by
  have H := Lib.hid (rqnew_yes room w h1 h2)
  have HN := Lib.hid (fun W (U : Below w.heap.size w W) => rnnext_any gs l k W Xs ((RN.holds _ _ _).below hN U) hk)
  have hXs := (RN.holds _ _ _).lt hN
  clear h1 h2 hN hk
  go_enter Try.func10, Try.ntmps10
  go_wp2_with (fail)
  refine H.out.mono ?_
  rintro e w1 ⟨rfl, q1, T1⟩
  have Q1 := Lib.hid q1
  clear q1
  go_wp2_with (fail)
  refine (HN.out _ T1).mono ?_
  rintro e w2 ⟨rfl, Xs', n2, t2⟩
  have HN2 := Lib.hid (And.intro n2 t2)
  clear n2 t2
  go_wp2
  go_ret2
  have hs1 := T1.size
  have hq := (RQ.holds _ _ _).lt Q1.out _ rfl
  have hs2 := HN2.out.2.off.size
  have hlt := (RN.holds _ _ _).lt HN2.out.1
  have T3 := (Below.refl _ w2).alloc (Nat.le_refl _) (.cells (gvcells w.heap.size gs ⟨room, [], l, k + 1, nx l k, false, false, 0, 0, 0, 0, 0⟩) 55)
  have hQ2 := (RQ.holds _ _ _).off Q1.out HN2.out.2.off (fun j hj hx => by have := hXs j hx; omega)
  have hd : ∀ j, j = w.heap.size → ¬ Xs' j := fun j hj hx => by
    rcases HN2.out.2.grow j hx with h | h
    · have := hXs j h; omega
    · omega
  refine ⟨w2.heap.size, Ob3 w2.heap.size (· = w.heap.size) Xs', rfl, ⟨w.heap.size, gs, (· = w.heap.size), Xs', ⟨heap_alloc_new w2 _, (RQ.holds _ _ _).below hQ2 T3, (RN.holds _ _ _).below HN2.out.1 T3, by omega, fun h => by have := hlt _ h; omega, hd⟩, rfl⟩, ((Turns.of_below T1).trans HN2.out.2).next T3 |>.off, fun j hj => ?_⟩
  rcases hj with hj | hj | hj
  · exact .inr (by omega)
  · exact .inr (by omega)
  · rcases HN2.out.2.grow j hj with h | h
    · exact .inl h
    · exact .inr (by omega)
set_option maxHeartbeats 4000000 in
theorem rgknown_any (g gq gs : Nat) (s : Gvs) (Xq Xs : Nat → Prop) (w : World) (h : RGv g gq gs s Xq Xs w) :
    Calls Try.prog 33 #[.pointer (some ⟨g, 0, none⟩)] w fun e w' => ∃ A n c, e = .returned (.slice A n c) ∧ Tks w' (fun k => k < w.heap.size) A n c (gvAck s) ∧ Below w.heap.size w w' := by
  obtain ⟨c0, -, c2, -, -, -, -, c7, -, -, -⟩ := h.cells
  obtain ⟨P, pc, cl⟩ := h.len
  clear h
  by_cases h0 : s.ls = []
  · have hl0 : s.ls.length = 0 := by rw [h0]; rfl
    have HA : Hid (gvAck s = [(3, s.last, 0, s.r, [])]) := by show _ = _; unfold gvAck; rw [if_pos h0]
    rw [hl0] at cl
    clear h0 hl0
    go_enter Try.func33, Try.ntmps33
    go_wp2_with (fail)
    go_region
    go_wp2
    go_ret
    rw [HA.out]
    exact ⟨_, _, _, rfl, Tks.one (w := w.drew) (y := 0) (Bys.nil _) (Av.none _ _) (by show ¬ w.heap.size < w.heap.size; omega), ((Below.refl _ w).drew).alloc (Nat.le_refl _) _⟩
  · have hp : 0 < s.ls.length := by
      rcases Nat.eq_zero_or_pos s.ls.length with e | e
      · exact absurd (List.eq_nil_of_length_eq_zero e) h0
      · exact e
    have hl0 : decide ((0 : Int) < (s.ls.length : Int)) = true := by simp; omega
    have hl1 : decide (0 < s.ls.length) = true := by simp; omega
    have HA : Hid (gvAck s = []) := by show _ = _; unfold gvAck; rw [if_neg h0]
    clear h0
    go_enter Try.func33, Try.ntmps33
    go_wp2
    go_ret
    rw [HA.out]
    exact ⟨_, _, _, rfl, Tks.nil _ _, Below.refl _ _⟩
end Go.Proofs.Ytoajbocpebfjoaa
