/- Package giver, as landed: a Giver in memory (its own cell, an engine, a queue, the source); made, isLast, confirm, answer, enter. -/
import Derived.Test.YtoajbocpebfjoaaGiC
import Derived.Test.YtoajbocpebfjoaaQuK
import Derived.Test.YtoajbocpebfjoaaNoK
import Derived.Test.YtoajbocpebfjoaaSepL
import Derived.Deep.QuietTactic
import Derived.BigQuiet
import Derived.Deep.RegionHeld3
import Derived.Laws.StructEq
namespace Go.Proofs.Ytoajbocpebfjoaa
open Go.RowKit
set_option maxRecDepth 20000

/-- where a giver's parts lie -/
structure Gip where
  g : Nat
  ge : Nat
  gq : Nat
  gs : Nat
/-- what lies there: is a challenge open, its T and C; the T of the message that entered last; how many entered -/
structure Gis where
  room : Nat
  ls : List (List UInt8)
  l : List Nat
  k : Nat
  r : Nat
  opn : Bool
  t : Nat
  c : Nat
  last : Nat
  ent : Nat
def giCells (p : Gip) (z : Gis) : Array Value := #[.pointer (some ⟨p.gq, 0, none⟩), .pointer (some ⟨p.gs, 0, none⟩), .int .u64 (z.r : Int), .bool z.opn, .int .u64 (z.t : Int), .int .u64 (z.c : Int), .int .u64 (z.last : Int), .int .i64 (z.ent : Int)]
def GirP (g ge : Nat) : Prt := fun w X => w.heap[g]? = some (.cells #[.pointer (some ⟨ge, 0, none⟩)] 79 (0, 0)) ∧ X = (· = g)
theorem GirP.holds (g ge : Nat) : Holds (GirP g ge) where
  lt := fun ⟨h, e⟩ k hk => by subst e; subst hk; exact obrow_lt h
  off := fun ⟨h, e⟩ o hd => by subst e; exact ⟨(o.block g (obrow_lt h) (hd g rfl)).trans h, rfl⟩
def giOwn (p : Gip) (z : Gis) : List Prt := [QuP p.gq z.room z.ls, GirP p.g p.ge]
def giParts (p : Gip) (z : Gis) : List Prt := [QuP p.gq z.room z.ls, GirP p.g p.ge, NoP p.gs z.l z.k]
theorem giParts_eq (p : Gip) (z : Gis) : giParts p z = giOwn p z ++ [NoP p.gs z.l z.k] := rfl
theorem giHolds (p : Gip) (z : Gis) : HoldsL (giParts p z) := fun i P h => by
  rcases i with _ | _ | _ | i
  · rw [← Option.some.inj h]; exact QuP.holds _ _ _
  · rw [← Option.some.inj h]; exact GirP.holds _ _
  · rw [← Option.some.inj h]; exact NoP.holds _ _ _
  · cases h
def GeP (p : Gip) (z : Gis) (w : World) (Y : Nat → Prop) : Prop := ∃ Xs, ObL p.ge 77 (giCells p z) (giParts p z) Xs w ∧ Y = ObB p.ge Xs
theorem GeP.holds (p : Gip) (z : Gis) : Holds (GeP p z) where
  lt := fun ⟨_, h, e⟩ k hk => by subst e; exact h.lt (giHolds p z) k hk
  off := fun ⟨Xs, h, e⟩ o hd => by subst e; exact ⟨Xs, h.off (giHolds p z) o hd, rfl⟩
section
variable {p : Gip} {z : Gis} {w : World} {Y : Nat → Prop}
/-- a part of it; what a turn of that does -/
theorem GeP.turn (h : GeP p z w Y) (i : Nat) {P : Prt} (hP : (giParts p z)[i]? = some P) : ∃ X, P w X ∧ (∀ k, X k → Y k) ∧ ∀ (P' : Prt) (z' : Gis) (w1 : World) (X' : Nat → Prop), giCells p z' = giCells p z → giParts p z' = (giParts p z).set i P' → P' w1 X' → Turns X X' w w1 → ∃ Y', GeP p z' w1 Y' ∧ Turns Y Y' w w1 := by
  obtain ⟨Xs, h, rfl⟩ := h
  have hi : i < Xs.length := by rw [← h.2.1]; exact (List.getElem?_eq_some_iff.1 hP).1
  have hX : Xs[i]? = some Xs[i] := List.getElem?_eq_getElem hi
  refine ⟨Xs[i], h.part i hP hX, fun k hk => .inr ⟨i, _, hX, hk⟩, fun P' z' w1 X' e1 e2 hp T => ?_⟩
  obtain ⟨h1, h2⟩ := h.turn (giHolds p z) i hX hp T
  exact ⟨_, ⟨_, by rw [e1, e2]; exact h1, rfl⟩, h2⟩
/-- a cell of its own is stored -/
theorem GeP.c (h : GeP p z w Y) (z' : Gis) (j : Nat) (x : Value) (e1 : giCells p z' = (giCells p z).setIfInBounds j x) (e2 : giParts p z' = giParts p z) : GeP p z' (w.setCell ⟨p.ge, j, none⟩ x) Y ∧ Turns Y Y w (w.setCell ⟨p.ge, j, none⟩ x) := by
  obtain ⟨Xs, h, rfl⟩ := h
  obtain ⟨h1, h2⟩ := h.c (giHolds p z) j x
  exact ⟨⟨Xs, by rw [e1, e2]; exact h1, rfl⟩, h2⟩
theorem GeP.cells (h : GeP p z w Y) : (w.cell? ⟨p.ge, 0, none⟩ = some (.pointer (some ⟨p.gq, 0, none⟩)) ∧ w.cell? ⟨p.ge, 1, none⟩ = some (.pointer (some ⟨p.gs, 0, none⟩)) ∧ w.cell? ⟨p.ge, 2, none⟩ = some (.int .u64 (z.r : Int)) ∧ w.cell? ⟨p.ge, 3, none⟩ = some (.bool z.opn) ∧ w.cell? ⟨p.ge, 4, none⟩ = some (.int .u64 (z.t : Int)) ∧ w.cell? ⟨p.ge, 5, none⟩ = some (.int .u64 (z.c : Int)) ∧ w.cell? ⟨p.ge, 6, none⟩ = some (.int .u64 (z.last : Int)) ∧ w.cell? ⟨p.ge, 7, none⟩ = some (.int .i64 (z.ent : Int))) ∧ (∀ j, w.frozen? ⟨p.ge, j, none⟩ = false) ∧ p.ge < w.heap.size := by
  obtain ⟨Xs, h, rfl⟩ := h
  exact ⟨⟨h.cell 0, h.cell 1, h.cell 2, h.cell 3, h.cell 4, h.cell 5, h.cell 6, h.cell 7⟩, fun j => h.froz j, obrow_lt h.1⟩
theorem GeP.below (h : GeP p z w Y) {w' : World} (T : Below w.heap.size w w') : GeP p z w' Y := (GeP.holds p z).below h T
/-- its open challenge is stored -/
theorem GeP.chal (h : GeP p z w Y) (b : Bool) (t c : Nat) : GeP p { z with opn := b, t := t, c := c } (((w.setCell ⟨p.ge, 3, none⟩ (.bool b)).setCell ⟨p.ge, 4, none⟩ (.int .u64 (t : Int))).setCell ⟨p.ge, 5, none⟩ (.int .u64 (c : Int))) Y ∧ Turns Y Y w (((w.setCell ⟨p.ge, 3, none⟩ (.bool b)).setCell ⟨p.ge, 4, none⟩ (.int .u64 (t : Int))).setCell ⟨p.ge, 5, none⟩ (.int .u64 (c : Int))) := by
  obtain ⟨h1, t1⟩ := h.c { z with opn := b } 3 (.bool b) rfl rfl
  obtain ⟨h2, t2⟩ := h1.c { z with opn := b, t := t } 4 (.int .u64 (t : Int)) rfl rfl
  obtain ⟨h3, t3⟩ := h2.c { z with opn := b, t := t, c := c } 5 (.int .u64 (c : Int)) rfl rfl
  exact ⟨h3, (t1.trans t2).trans t3⟩
theorem GeP.queue (h : GeP p z w Y) : QOk z.room z.ls ∧ w.cell? ⟨p.gq, 18, none⟩ = some (.int .i64 (z.ls.length : Int)) := by
  obtain ⟨X, hq, -, -⟩ := h.turn 0 rfl
  have h1 := hq.2.2.1
  obtain ⟨_, f, _, _, _, c18, _⟩ := hq.cells
  exact ⟨h1, c18⟩
theorem GeP.head (h : GeP p z w Y) : w.cell? ⟨p.g, 0, none⟩ = some (.pointer (some ⟨p.ge, 0, none⟩)) := by
  obtain ⟨X, hr, -, -⟩ := h.turn 1 rfl
  exact cell_of_row _ _ _ _ _ _ hr.1
theorem GeP.drewN (h : GeP p z w Y) (k : Nat) : GeP p z (w.drewN k) Y := h.below (below_drewN' (Below.refl w.heap.size w) k)
end
theorem tu_drewNg {X X' : Nat → Prop} {w w' : World} (h : Turns X X' w w') (k : Nat) : Turns X X' w (w'.drewN k) := ⟨h.off.drewN k, h.grow⟩
/-- what a turn of an engine that is as it was gives -/
theorem gg_stay {p : Gip} {z : Gis} {w w' : World} {Y : Nat → Prop} (h : GeP p z w' Y) (t : Turns Y Y w w') {z' : Gis} {l : List Tok} (e1 : z' = z) (e2 : l = []) {e : Ending} (he : e = .returned (.slice none 0 0)) : GivesTks (GeP p z') Y l w e w' := by
  subst e1; subst e2
  exact ⟨none, 0, 0, Y, he, Tks.nil _ _, h, t⟩
theorem gg_then {p : Gip} {z : Gis} {w w1 w' : World} {Y Y1 : Nat → Prop} {l : List Tok} {e : Ending} (t : Turns Y Y1 w w1) (h : GivesTks (GeP p z) Y1 l w1 e w') {z' : Gis} {l' : List Tok} (e1 : z' = z) (e2 : l' = l) : GivesTks (GeP p z') Y l' w e w' := by
  subst e1; subst e2
  obtain ⟨A, n, c, Y', h1, h2, h3, h4⟩ := h
  exact ⟨A, n, c, Y', h1, h2.imp (fun k _ hk => by rcases hk with hk | hk; exact .inl hk; exact .inr (Nat.lt_of_lt_of_le hk t.off.size)), h3, t.trans h4⟩
theorem gimade_any (g : Nat) (p : Addr) (w : World) (h : w.cell? ⟨g, 0, none⟩ = some (.pointer (some p))) :
    Calls Try.prog 30 #[.pointer (some ⟨g, 0, none⟩)] w fun e w' => e = .returned (.bool true) ∧ w = w' := by
  go_enter Try.func30, Try.ntmps30
  go_wp2
  go_ret
  exact ⟨rfl, rfl⟩
theorem ginmade_any (w : World) :
    Calls Try.prog 30 #[.pointer none] w fun e w' => e = .returned (.bool false) ∧ w = w' := by
  go_enter Try.func30, Try.ntmps30
  go_wp2
  go_ret
  exact ⟨rfl, rfl⟩
def giOld (z : Gis) (T : Nat) : Bool := decide (0 < z.ent) && decide (T = z.last)
set_option maxHeartbeats 1000000 in
theorem gilast_any (ge last ent t : Nat) (w : World) (h6 : w.cell? ⟨ge, 6, none⟩ = some (.int .u64 (last : Int))) (h7 : w.cell? ⟨ge, 7, none⟩ = some (.int .i64 (ent : Int))) :
    Calls Try.prog 42 #[.pointer (some ⟨ge, 0, none⟩), .int .u64 (t : Int)] w fun e w' => e = .returned (.bool (decide (0 < ent) && decide (t = last))) ∧ w = w' := by
  by_cases h0 : 0 < ent
  · have d0 : decide ((0 : Int) < (ent : Int)) = true := by simp; omega
    have d1 : decide (0 < ent) = true := by simpa using h0
    rw [d1, Bool.true_and]
    by_cases h1 : t = last
    · have x1 : ((last : Int) == (t : Int)) = true := by rw [h1]; simp
      have x2 : decide (t = last) = true := by simpa using h1
      have x3 : (last == t) = true := by rw [h1]; simp
      rw [x2]
      clear h0 h1 x2
      go_enter Try.func42, Try.ntmps42
      go_wp2
      go_ret
      exact ⟨rfl, rfl⟩
    · have x1 : ((last : Int) == (t : Int)) = false := by simp; omega
      have x2 : decide (t = last) = false := by simpa using h1
      have x3 : (last == t) = false := by simp; omega
      rw [x2]
      clear h0 h1 x2
      go_enter Try.func42, Try.ntmps42
      go_wp2
      go_ret
      exact ⟨rfl, rfl⟩
  · have d0 : decide ((0 : Int) < (ent : Int)) = false := by simp; omega
    have d1 : decide (0 < ent) = false := by simpa using h0
    rw [d1, Bool.false_and]
    clear h0
    go_enter Try.func42, Try.ntmps42
    go_wp2
    go_ret
    exact ⟨rfl, rfl⟩
def giAck (z : Gis) : List Tok := if z.ls = [] then [(3, z.last, 0, z.r, [])] else []
set_option maxHeartbeats 2000000 in
theorem giconf_any (p : Gip) (z : Gis) (w : World) (Y : Nat → Prop) (h : GeP p z w Y) :
    Calls Try.prog 35 #[.pointer (some ⟨p.ge, 0, none⟩)] w fun e w' => ∃ A n c, e = .returned (.slice A n c) ∧ Tks w' (· < w.heap.size) A n c (giAck z) ∧ Below w.heap.size w w' := by
  obtain ⟨⟨c0, -, c2, -, -, -, c6, -⟩, -, -⟩ := h.cells
  obtain ⟨m, hm⟩ : ∃ m, z.ls.length = m := ⟨_, rfl⟩
  have HL := Lib.hid (qulen_any p.gq m w (hm ▸ h.queue.2))
  have HM := Lib.hid hm
  clear h hm
  by_cases h0 : m = 0
  · have HN : Hid (giAck z = [(3, z.last, 0, z.r, [])]) := by
      show _ = _
      unfold giAck
      rw [if_pos (List.eq_nil_of_length_eq_zero (by rw [HM.out]; exact h0))]
    subst h0
    have d1 : decide ((0 : Int) < ((0 : Nat) : Int)) = false := by decide
    go_enter Try.func35, Try.ntmps35
    go_wp2_with (fail)
    refine HL.out.mono ?_
    rintro e w1 ⟨rfl, rfl⟩
    go_wp2_with (fail)
    go_region
    go_wp2
    go_ret
    have TA := (Below.refl _ w).alloc (Nat.le_refl _) (.cells #[.int .i64 3, .int .u64 (z.last : Int), .int .u64 0, .int .u64 (z.r : Int), .slice none 0 0] 41)
    have K5 : Tks _ (· < w.heap.size) _ 1 1 [(3, z.last, 0, z.r, [])] := Tks.one (w := w) (k := 3) (x := z.last) (y := 0) (z := z.r) (Bys.nil _) (Av.none _ _) (by omega)
    rw [HN.out]
    exact ⟨_, 1, 1, rfl, K5.below (below_drewN' (Below.refl _ _) 1), below_drewN' TA 1⟩
  · have d1 : decide ((0 : Int) < (m : Int)) = true := by simp; omega
    have d2 : decide (0 < m) = true := by simp; omega
    have d3 : 0 < m := by omega
    have HN : Hid (giAck z = []) := by
      show _ = _
      unfold giAck
      rw [if_neg (fun e => by have := HM.out; rw [e] at this; simp at this; omega)]
    clear h0
    go_enter Try.func35, Try.ntmps35
    go_wp2_with (fail)
    refine HL.out.mono ?_
    rintro e w1 ⟨rfl, rfl⟩
    go_wp2
    go_ret
    rw [HN.out]
    exact ⟨none, 0, 0, rfl, Tks.nil _ _, Below.refl _ _⟩
theorem giconfirm_any (p : Gip) (z : Gis) (w : World) (Y : Nat → Prop) (h : GeP p z w Y) :
    Calls Try.prog 35 #[.pointer (some ⟨p.ge, 0, none⟩)] w (GivesTks (GeP p z) Y (giAck z) w) :=
  (giconf_any p z w Y h).mono fun _ _ ⟨A, n, c, h1, h2, h3⟩ => ⟨A, n, c, Y, h1, h2.imp (fun k _ hk => by rcases hk with hk | hk; exact (GeP.holds p z).lt h k hk; exact hk), h.below h3, Turns.of_below h3⟩
def giOpen (z : Gis) (T : Nat) : Gis := if z.opn = true ∧ z.t = T then z else { z with opn := true, t := T, c := nx z.l z.k, k := z.k + 1 }
def giAns (z : Gis) (T : Nat) : Gis := if giOld z T = true then z else giOpen z T
def giAnsL (z : Gis) (T : Nat) : List Tok := if giOld z T = true then giAck z else [(1, T, (giOpen z T).c, z.r, [])]
set_option maxHeartbeats 4000000 in
theorem gianswer_any (p : Gip) (z : Gis) (T : Nat) (w : World) (Y : Nat → Prop) (h : GeP p z w Y) (hk : z.k < 1000000) :
    Calls Try.prog 43 #[.pointer (some ⟨p.ge, 0, none⟩), .int .u64 (T : Int)] w (GivesTks (GeP p (giAns z T)) Y (giAnsL z T) w) := by
  obtain ⟨⟨-, c1, c2, c3, c4, c5, c6, c7⟩, -, -⟩ := h.cells
  have hI := gilast_any p.ge z.last z.ent T w c6 c7
  change Calls _ _ _ w fun e w' => e = .returned (.bool (giOld z T)) ∧ w = w' at hI
  have HH := Lib.hid h
  cases hb : giOld z T with
  | true =>
    rw [hb] at hI
    have HI := Lib.hid hI
    have HC := Lib.hid (giconfirm_any p z w Y h)
    have HS : Hid (giAns z T = z ∧ giAnsL z T = giAck z) := by unfold giAns giAnsL; exact ⟨if_pos hb, if_pos hb⟩
    clear h hI hb c1 c2 c3 c4 c5 c6 c7
    go_enter Try.func43, Try.ntmps43
    go_wp2_with (fail)
    refine HI.out.mono ?_
    rintro e w1 ⟨rfl, rfl⟩
    go_wp2_with (fail)
    refine HC.out.mono ?_
    rintro e w2 ⟨A, n, c, Y2, rfl, k2⟩
    have HK := Lib.hid k2
    clear k2
    go_wp2
    go_ret
    exact gg_then (Turns.of_below (Below.refl _ _)) ⟨A, n, c, Y2, rfl, HK.out⟩ HS.out.1 HS.out.2
  | false =>
    rw [hb] at hI
    have HI := Lib.hid hI
    have nb : ¬ (giOld z T = true) := by rw [hb]; simp
    by_cases ho : z.opn = true ∧ z.t = T
    · obtain ⟨ho1, ho2⟩ := ho
      have HS : Hid (giAns z T = z ∧ giAnsL z T = [(1, T, z.c, z.r, [])]) := by
        unfold giAns giAnsL giOpen
        rw [if_neg nb, if_neg nb, if_pos ⟨ho1, ho2⟩]
        exact ⟨rfl, rfl⟩
      rw [ho1] at c3
      have x1 : ((z.t : Int) != (T : Int)) = false := by rw [ho2]; simp
      have x2 : (z.t != T) = false := by rw [ho2]; simp
      clear h hI hb nb ho1 ho2 c1 c6 c7
      go_enter Try.func43, Try.ntmps43
      go_wp2_with (fail)
      refine HI.out.mono ?_
      rintro e w1 ⟨rfl, rfl⟩
      go_wp2_with (fail)
      go_region
      go_wp2
      go_ret
      have TA := (Below.refl _ w).alloc (Nat.le_refl _) (.cells #[.int .i64 1, .int .u64 (T : Int), .int .u64 (z.c : Int), .int .u64 (z.r : Int), .slice none 0 0] 41)
      have K5 : Tks _ (fun k => Y k ∨ k < w.heap.size) _ 1 1 [(1, T, z.c, z.r, [])] := Tks.one (w := w) (k := 1) (x := T) (y := z.c) (z := z.r) (Bys.nil _) (Av.none _ _) (fun hk => by rcases hk with hk | hk; have := (GeP.holds p z).lt HH.out _ hk; omega; omega)
      exact gg_then (Turns.of_below (Below.refl _ _)) ⟨_, 1, 1, Y, rfl, K5.below (below_drewN' (Below.refl _ _) 1), (HH.out.below TA).below (below_drewN' (Below.refl _ _) 1), tu_drewNg (Turns.of_below TA) 1⟩ HS.out.1 HS.out.2
    · have HS : Hid (giAns z T = { z with opn := true, t := T, c := nx z.l z.k, k := z.k + 1 } ∧ giAnsL z T = [(1, T, nx z.l z.k, z.r, [])]) := by
        unfold giAns giAnsL giOpen
        rw [if_neg nb, if_neg nb, if_neg ho]
        exact ⟨rfl, rfl⟩
      obtain ⟨Xs, hs, -, hT⟩ := h.turn 2 rfl
      have HN := Lib.hid (nonext_any p.gs z.l z.k w Xs hs hk)
      have HT := Lib.hid hT
      have hx : z.opn = false ∨ (z.opn = true ∧ ((z.t : Int) != (T : Int)) = true ∧ (z.t != T) = true) := by
        cases h1 : z.opn with
        | false => exact .inl rfl
        | true =>
          have h2 : ¬ z.t = T := fun e => ho ⟨h1, e⟩
          exact .inr ⟨rfl, by simp; omega, by simpa using h2⟩
      clear h hI hb nb ho hs hT c2 c5 c6 c7
      rcases hx with ho1 | ⟨ho1, x1, x2⟩
      all_goals
        rw [ho1] at c3
        clear ho1
        go_enter Try.func43, Try.ntmps43
        go_wp2_with (fail)
        refine HI.out.mono ?_
        rintro e w1 ⟨rfl, rfl⟩
        go_wp2_with (fail)
        refine HN.out.mono ?_
        rintro e w1 ⟨rfl, X1, s1, t1⟩
        obtain ⟨Y1, E1, U1⟩ := HT.out _ { z with k := z.k + 1 } w1 X1 rfl rfl s1 t1
        obtain ⟨-, fz1, hge1⟩ := E1.cells
        have f3 := fz1 3
        have f4 := fz1 4
        have f5 := fz1 5
        obtain ⟨⟨b0, b1, b2, b3, b4, b5, b6, b7⟩, -, -⟩ := E1.cells
        obtain ⟨E2, U2⟩ := E1.chal true T (nx z.l z.k)
        obtain ⟨⟨d0, d1, d2, d3, d4, d5, d6, d7⟩, -, -⟩ := E2.cells
        have HE2 := Lib.hid (And.intro E2 (U1.trans U2))
        clear E1 U1 E2 U2 s1 t1 fz1
        go_wp2_with (fail)
        generalize ((w1.setCell ⟨p.ge, 3, none⟩ (.bool true)).setCell ⟨p.ge, 4, none⟩ (.int .u64 (T : Int))).setCell ⟨p.ge, 5, none⟩ (.int .u64 ((nx z.l z.k : Nat) : Int)) = w2 at *
        go_region
        go_wp2
        go_ret
        have TA := (Below.refl _ w2).alloc (Nat.le_refl _) (.cells #[.int .i64 1, .int .u64 (T : Int), .int .u64 ((nx z.l z.k : Nat) : Int), .int .u64 (z.r : Int), .slice none 0 0] 41)
        have K5 : Tks _ (fun k => Y1 k ∨ k < w2.heap.size) _ 1 1 [(1, T, nx z.l z.k, z.r, [])] := Tks.one (w := w2) (k := 1) (x := T) (y := nx z.l z.k) (z := z.r) (Bys.nil _) (Av.none _ _) (fun hk => by rcases hk with hk | hk; have := (GeP.holds p _).lt HE2.out.1 _ hk; omega; omega)
        exact gg_then HE2.out.2 ⟨_, 1, 1, Y1, rfl, K5.below (below_drewN' (Below.refl _ _) 1), (HE2.out.1.below TA).below (below_drewN' (Below.refl _ _) 1), tu_drewNg (Turns.of_below TA) 1⟩ HS.out.1 HS.out.2
def giEnter (z : Gis) (m : List UInt8) : Gis := if quPushE z.room z.ls m.length = 0 then { z with ls := z.ls ++ [m], opn := false, t := 0, c := 0, last := z.t, ent := z.ent + 1 } else z
set_option maxHeartbeats 4000000 in
theorem gienter_any (p : Gip) (z : Gis) (A : Option Addr) (n c : Nat) (m : List UInt8) (w : World) (Y : Nat → Prop) (h : GeP p z w Y) (he : z.ent < 1000000) (hB : Bys w A n c m) :
    Calls Try.prog 41 #[.pointer (some ⟨p.ge, 0, none⟩), .slice A n c] w fun e w' => e = .returned (.tuple #[]) ∧ ∃ Y', GeP p (giEnter z m) w' Y' ∧ Turns Y Y' w w' := by
  have hml := hB.len
  obtain ⟨⟨c0, -, -, -, -, -, -, -⟩, -, -⟩ := h.cells
  obtain ⟨Xq, hq, -, hT⟩ := h.turn 0 rfl
  have hP := quC.push p.gq z.room z.ls A n c m w Xq hq hB
  have HT := Lib.hid hT
  rw [← hml] at hP ⊢
  obtain ⟨E, hE⟩ : ∃ E, quPushE z.room z.ls m.length = E := ⟨_, rfl⟩
  rw [hE] at hP
  have HP := Lib.hid hP
  have HE := Lib.hid hE
  rw [hml] at HP ⊢
  clear h hq hT hP hE hB
  by_cases h0 : E = 0
  · subst h0
    have HS : Hid (quPush z.room z.ls m = z.ls ++ [m] ∧ giEnter z m = { z with ls := z.ls ++ [m], opn := false, t := 0, c := 0, last := z.t, ent := z.ent + 1 }) := by
      unfold quPush giEnter
      exact ⟨if_pos HE.out, if_pos HE.out⟩
    have x0 : (((0 : Nat) : Int) != 0) = false := by decide
    have hw : IntKind.i64.wrap ((z.ent : Int) + 1) = (z.ent : Int) + 1 := IntWalk.i64_in _ (by omega)
    clear hml
    go_enter Try.func41, Try.ntmps41
    go_wp2_with (fail)
    refine HP.out.mono ?_
    rintro e w1 ⟨rfl, X1, s1, t1⟩
    rw [HS.out.1] at s1
    obtain ⟨Y1, E1, U1⟩ := HT.out _ { z with ls := z.ls ++ [m] } w1 X1 rfl rfl s1 t1
    obtain ⟨⟨-, -, -, b3, b4, b5, b6, b7⟩, fz1, hge1⟩ := E1.cells
    have f3 := fz1 3
    have f4 := fz1 4
    have f5 := fz1 5
    have f6 := fz1 6
    have f7 := fz1 7
    obtain ⟨E2, U2⟩ := E1.c { z with ls := z.ls ++ [m], ent := z.ent + 1 } 7 (.int .i64 ((z.ent : Int) + 1)) rfl rfl
    obtain ⟨E3, U3⟩ := E2.c { z with ls := z.ls ++ [m], ent := z.ent + 1, last := z.t } 6 (.int .u64 (z.t : Int)) rfl rfl
    obtain ⟨E4, U4⟩ := E3.chal false 0 0
    have HF := Lib.hid (And.intro E4 (((U1.trans U2).trans U3).trans U4))
    clear E1 U1 E2 U2 E3 U3 E4 U4 s1 t1 fz1
    go_wp2
    go_end0
    exact ⟨rfl, Y1, by rw [HS.out.2]; exact HF.out.1, HF.out.2⟩
  · have HS : Hid (quPush z.room z.ls m = z.ls ∧ giEnter z m = z) := by
      unfold quPush giEnter
      rw [if_neg (by rw [HE.out]; exact h0), if_neg (by rw [HE.out]; exact h0)]
      exact ⟨rfl, rfl⟩
    have x0 : ((E : Int) != 0) = true := by simp; omega
    clear hml h0
    go_enter Try.func41, Try.ntmps41
    go_wp2_with (fail)
    refine HP.out.mono ?_
    rintro e w1 ⟨rfl, X1, s1, t1⟩
    rw [HS.out.1] at s1
    have HF := Lib.hid (HT.out _ z w1 X1 rfl rfl s1 t1)
    clear s1 t1
    go_wp2
    refine bodyPost_ret (results_none rfl _ _ _) rfl ?_
    obtain ⟨Y1, E1, U1⟩ := HF.out
    exact ⟨rfl, Y1, by rw [HS.out.2]; exact E1, U1⟩
end Go.Proofs.Ytoajbocpebfjoaa
