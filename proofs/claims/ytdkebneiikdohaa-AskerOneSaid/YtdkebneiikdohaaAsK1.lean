/- Package asker, as landed: an Asker in memory (its own cell, an engine, a queue, timers, the numbers of which Unknown is told, the source); made, accepted, ask, begin. -/
import Derived.Test.YtdkebneiikdohaaAsC
import Derived.Test.YtdkebneiikdohaaQuK
import Derived.Test.YtdkebneiikdohaaTmK
import Derived.Test.YtdkebneiikdohaaNoK
import Derived.Test.YtdkebneiikdohaaSetI
import Derived.Test.YtdkebneiikdohaaSepL
import Derived.Deep.QuietTactic
import Derived.BigQuiet
import Derived.Deep.RegionHeld3
namespace Go.Proofs.Ytdkebneiikdohaa
open Go.RowKit
set_option maxRecDepth 20000

section
variable {g : Nat} {ty : TypeId} {cs : Array Value} {Ps : List Prt} {P : Prt} {Xs : List (Nat → Prop)} {X : Nat → Prop} {w : World}
theorem get_snoc {α : Type} (l : List α) (a b : α) (j : Nat) (h : (l ++ [a])[j]? = some b) : (j < l.length ∧ l[j]? = some b) ∨ (j = l.length ∧ b = a) := by
  rcases Nat.lt_trichotomy j l.length with h1 | h1 | h1
  · rw [List.getElem?_append_left h1] at h; exact .inl ⟨h1, h⟩
  · subst h1; simp at h; exact .inr ⟨rfl, h.symm⟩
  · rw [List.getElem?_append_right (by omega), show j - l.length = (j - l.length - 1) + 1 by omega] at h; simp at h
theorem ObB_snoc : ObB g (Xs ++ [X]) = fun k => ObB g Xs k ∨ X k := by
  funext k
  refine propext ⟨fun h => ?_, fun h => ?_⟩
  · rcases h with h | ⟨i, Z, hZ, hk⟩
    · exact .inl (.inl h)
    · rcases get_snoc _ _ _ _ hZ with ⟨_, hZ⟩ | ⟨_, rfl⟩
      · exact .inl (.inr ⟨i, Z, hZ, hk⟩)
      · exact .inr hk
  · rcases h with (h | ⟨i, Z, hZ, hk⟩) | hk
    · exact .inl h
    · exact .inr ⟨i, Z, by rw [List.getElem?_append_left (List.getElem?_eq_some_iff.1 hZ).1]; exact hZ, hk⟩
    · exact .inr ⟨Xs.length, X, by simp, hk⟩
/-- one part more -/
theorem ObL.snoc (h : ObL g ty cs Ps Xs w) (hp : P w X) (hd : ∀ k, ObB g Xs k → ¬ X k) : ObL g ty cs (Ps ++ [P]) (Xs ++ [X]) w := by
  obtain ⟨h1, h2, h3, h4, h5⟩ := h
  refine ⟨h1, by simp [h2], fun i P' X' hP' hX' => ?_, fun i X' hX' => ?_, fun i j A B hA hB hij k hk hk' => ?_⟩
  · rcases get_snoc _ _ _ _ hP' with ⟨a, hP'⟩ | ⟨a, rfl⟩
    · rcases get_snoc _ _ _ _ hX' with ⟨b, hX'⟩ | ⟨b, rfl⟩
      · exact h3 i P' X' hP' hX'
      · omega
    · rcases get_snoc _ _ _ _ hX' with ⟨b, hX'⟩ | ⟨b, rfl⟩
      · omega
      · exact hp
  · rcases get_snoc _ _ _ _ hX' with ⟨_, hX'⟩ | ⟨_, rfl⟩
    · exact h4 i X' hX'
    · exact hd g (.inl rfl)
  · rcases get_snoc _ _ _ _ hA with ⟨a, hA⟩ | ⟨a, eA⟩
    · rcases get_snoc _ _ _ _ hB with ⟨b, hB⟩ | ⟨b, eB⟩
      · exact h5 i j A B hA hB hij k hk hk'
      · rw [eB] at hk'
        exact hd k (.inr ⟨i, A, hA, hk⟩) hk'
    · rcases get_snoc _ _ _ _ hB with ⟨b, hB⟩ | ⟨b, eB⟩
      · rw [eA] at hk
        exact hd k (.inr ⟨j, B, hB, hk'⟩) hk
      · omega
theorem ObL.unsnoc (h : ObL g ty cs (Ps ++ [P]) Xs w) : ∃ Xs0 X, Xs = Xs0 ++ [X] ∧ ObL g ty cs Ps Xs0 w ∧ P w X ∧ ∀ k, ObB g Xs0 k → ¬ X k := by
  obtain ⟨h1, h2, h3, h4, h5⟩ := h
  have hn : Xs ≠ [] := by
    intro e
    rw [e] at h2
    simp at h2
  obtain ⟨Xs0, X, rfl⟩ : ∃ Xs0 X, Xs = Xs0 ++ [X] := ⟨Xs.dropLast, Xs.getLast hn, (List.dropLast_concat_getLast hn).symm⟩
  have hl : Ps.length = Xs0.length := by simpa using h2
  have up : ∀ {j : Nat} {Z : Nat → Prop}, Xs0[j]? = some Z → (Xs0 ++ [X])[j]? = some Z := fun {j Z} h => by
    rw [List.getElem?_append_left (List.getElem?_eq_some_iff.1 h).1]; exact h
  have upP : ∀ {j : Nat} {Z : Prt}, Ps[j]? = some Z → (Ps ++ [P])[j]? = some Z := fun {j Z} h => by
    rw [List.getElem?_append_left (List.getElem?_eq_some_iff.1 h).1]; exact h
  have hX : (Xs0 ++ [X])[Xs0.length]? = some X := by simp
  refine ⟨Xs0, X, rfl, ⟨h1, hl, fun i P' X' a b => h3 i P' X' (upP a) (up b), fun i X' a => h4 i X' (up a), fun i j A B a b => h5 i j A B (up a) (up b)⟩, h3 Ps.length P X (by simp) (by rw [hl]; exact hX), fun k hk hx => ?_⟩
  rcases hk with rfl | ⟨i, Z, hZ, hk⟩
  · exact h4 _ X hX hx
  · have := (List.getElem?_eq_some_iff.1 hZ).1
    exact h5 i Xs0.length Z X (up hZ) hX (by omega) k hk hx
end
/-- where an asker's parts lie -/
structure Enp where
  g : Nat
  ge : Nat
  gq : Nat
  gt : Nat
  gs : Nat
  gm : Nat
/-- what lies there: done messages; at most n numbers in the map, just those that lost tells -/
structure Ens where
  room : Nat
  most : Int
  l : List Nat
  ls : List (List UInt8)
  tm : List Tmr
  k : Nat
  t : Nat
  r : Nat
  bound : Bool
  done : Nat
  n : Nat
  lost : Int → Bool
def enCells (p : Enp) (z : Ens) : Array Value := #[.pointer (some ⟨p.gq, 0, none⟩), .int .u64 (z.t : Int), .int .u64 (z.r : Int), .bool z.bound, .pointer (some ⟨p.gt, 0, none⟩), .pointer (some ⟨p.gs, 0, none⟩), .int .i64 (z.done : Int), .map (some p.gm)]
def LostP (b n : Nat) (T : Int → Bool) : Prt := fun w X => SetI w b n T ∧ X = (· = b)
def RowP (g ge : Nat) : Prt := fun w X => w.heap[g]? = some (.cells #[.pointer (some ⟨ge, 0, none⟩)] 65 (0, 0)) ∧ X = (· = g)
theorem LostP.holds (b n : Nat) (T : Int → Bool) : Holds (LostP b n T) where
  lt := fun ⟨h, e⟩ k hk => by subst e; subst hk; exact h.lt
  off := fun ⟨h, e⟩ o hd => by subst e; exact ⟨h.off o (hd b rfl), rfl⟩
theorem RowP.holds (g ge : Nat) : Holds (RowP g ge) where
  lt := fun ⟨h, e⟩ k hk => by subst e; subst hk; exact obrow_lt h
  off := fun ⟨h, e⟩ o hd => by subst e; exact ⟨(o.block g (obrow_lt h) (hd g rfl)).trans h, rfl⟩
def enOwn (p : Enp) (z : Ens) : List Prt := [QuP p.gq z.room z.ls, TmP p.gt z.most z.tm, LostP p.gm z.n z.lost, RowP p.g p.ge]
def enParts (p : Enp) (z : Ens) : List Prt := [QuP p.gq z.room z.ls, TmP p.gt z.most z.tm, LostP p.gm z.n z.lost, RowP p.g p.ge, NoP p.gs z.l z.k]
theorem enParts_eq (p : Enp) (z : Ens) : enParts p z = enOwn p z ++ [NoP p.gs z.l z.k] := rfl
theorem enHolds (p : Enp) (z : Ens) : HoldsL (enParts p z) := fun i P h => by
  rcases i with _ | _ | _ | _ | _ | i
  · rw [← Option.some.inj h]; exact QuP.holds _ _ _
  · rw [← Option.some.inj h]; exact TmP.holds _ _ _
  · rw [← Option.some.inj h]; exact LostP.holds _ _ _
  · rw [← Option.some.inj h]; exact RowP.holds _ _
  · rw [← Option.some.inj h]; exact NoP.holds _ _ _
  · cases h
def EnP (p : Enp) (z : Ens) (w : World) (Y : Nat → Prop) : Prop := ∃ Xs, ObL p.ge 63 (enCells p z) (enParts p z) Xs w ∧ Y = ObB p.ge Xs
theorem EnP.holds (p : Enp) (z : Ens) : Holds (EnP p z) where
  lt := fun ⟨_, h, e⟩ k hk => by subst e; exact h.lt (enHolds p z) k hk
  off := fun ⟨Xs, h, e⟩ o hd => by subst e; exact ⟨Xs, h.off (enHolds p z) o hd, rfl⟩
section
variable {p : Enp} {z : Ens} {w : World} {Y : Nat → Prop}
/-- a part of it; what a turn of that does -/
theorem EnP.turn (h : EnP p z w Y) (i : Nat) {P : Prt} (hP : (enParts p z)[i]? = some P) : ∃ X, P w X ∧ (∀ k, X k → Y k) ∧ ∀ (P' : Prt) (z' : Ens) (w1 : World) (X' : Nat → Prop), enCells p z' = enCells p z → enParts p z' = (enParts p z).set i P' → P' w1 X' → Turns X X' w w1 → ∃ Y', EnP p z' w1 Y' ∧ Turns Y Y' w w1 := by
  obtain ⟨Xs, h, rfl⟩ := h
  have hi : i < Xs.length := by rw [← h.2.1]; exact (List.getElem?_eq_some_iff.1 hP).1
  have hX : Xs[i]? = some Xs[i] := List.getElem?_eq_getElem hi
  refine ⟨Xs[i], h.part i hP hX, fun k hk => .inr ⟨i, _, hX, hk⟩, fun P' z' w1 X' e1 e2 hp T => ?_⟩
  obtain ⟨h1, h2⟩ := h.turn (enHolds p z) i hX hp T
  exact ⟨_, ⟨_, by rw [e1, e2]; exact h1, rfl⟩, h2⟩
/-- a cell of its own is stored -/
theorem EnP.c (h : EnP p z w Y) (z' : Ens) (j : Nat) (x : Value) (e1 : enCells p z' = (enCells p z).setIfInBounds j x) (e2 : enParts p z' = enParts p z) : EnP p z' (w.setCell ⟨p.ge, j, none⟩ x) Y ∧ Turns Y Y w (w.setCell ⟨p.ge, j, none⟩ x) := by
  obtain ⟨Xs, h, rfl⟩ := h
  obtain ⟨h1, h2⟩ := h.c (enHolds p z) j x
  exact ⟨⟨Xs, by rw [e1, e2]; exact h1, rfl⟩, h2⟩
theorem EnP.cells (h : EnP p z w Y) : (w.cell? ⟨p.ge, 0, none⟩ = some (.pointer (some ⟨p.gq, 0, none⟩)) ∧ w.cell? ⟨p.ge, 1, none⟩ = some (.int .u64 (z.t : Int)) ∧ w.cell? ⟨p.ge, 2, none⟩ = some (.int .u64 (z.r : Int)) ∧ w.cell? ⟨p.ge, 3, none⟩ = some (.bool z.bound) ∧ w.cell? ⟨p.ge, 4, none⟩ = some (.pointer (some ⟨p.gt, 0, none⟩)) ∧ w.cell? ⟨p.ge, 5, none⟩ = some (.pointer (some ⟨p.gs, 0, none⟩)) ∧ w.cell? ⟨p.ge, 6, none⟩ = some (.int .i64 (z.done : Int)) ∧ w.cell? ⟨p.ge, 7, none⟩ = some (.map (some p.gm))) ∧ (∀ j, w.frozen? ⟨p.ge, j, none⟩ = false) ∧ p.ge < w.heap.size := by
  obtain ⟨Xs, h, rfl⟩ := h
  exact ⟨⟨h.cell 0, h.cell 1, h.cell 2, h.cell 3, h.cell 4, h.cell 5, h.cell 6, h.cell 7⟩, fun j => h.froz j, obrow_lt h.1⟩
theorem EnP.below (h : EnP p z w Y) {w' : World} (T : Below w.heap.size w w') : EnP p z w' Y := (EnP.holds p z).below h T
/-- its nonce, its incarnation and whether it is bound are stored -/
theorem EnP.talk (h : EnP p z w Y) (t r : Nat) (b : Bool) : EnP p { z with t := t, r := r, bound := b } (((w.setCell ⟨p.ge, 1, none⟩ (.int .u64 (t : Int))).setCell ⟨p.ge, 2, none⟩ (.int .u64 (r : Int))).setCell ⟨p.ge, 3, none⟩ (.bool b)) Y ∧ Turns Y Y w (((w.setCell ⟨p.ge, 1, none⟩ (.int .u64 (t : Int))).setCell ⟨p.ge, 2, none⟩ (.int .u64 (r : Int))).setCell ⟨p.ge, 3, none⟩ (.bool b)) := by
  obtain ⟨h1, t1⟩ := h.c { z with t := t } 1 (.int .u64 (t : Int)) rfl rfl
  obtain ⟨h2, t2⟩ := h1.c { z with t := t, r := r } 2 (.int .u64 (r : Int)) rfl rfl
  obtain ⟨h3, t3⟩ := h2.c { z with t := t, r := r, bound := b } 3 (.bool b) rfl rfl
  exact ⟨h3, (t1.trans t2).trans t3⟩
theorem EnP.queue (h : EnP p z w Y) : QOk z.room z.ls ∧ w.cell? ⟨p.gq, 18, none⟩ = some (.int .i64 (z.ls.length : Int)) := by
  obtain ⟨X, hq, -, -⟩ := h.turn 0 rfl
  have h1 := hq.2.2.1
  obtain ⟨_, f, _, _, _, c18, _⟩ := hq.cells
  exact ⟨h1, c18⟩
theorem EnP.head (h : EnP p z w Y) : w.cell? ⟨p.g, 0, none⟩ = some (.pointer (some ⟨p.ge, 0, none⟩)) := by
  obtain ⟨X, hr, -, -⟩ := h.turn 3 rfl
  exact cell_of_row _ _ _ _ _ _ hr.1
end
set_option maxHeartbeats 1000000 in
theorem asmade_any (g : Nat) (p : Addr) (w : World) (h : w.cell? ⟨g, 0, none⟩ = some (.pointer (some p))) :
    Calls Try.prog 18 #[.pointer (some ⟨g, 0, none⟩)] w fun e w' => e = .returned (.bool true) ∧ w = w' := by
  go_enter Try.func18, Try.ntmps18
  go_wp2
  go_ret
  exact ⟨rfl, rfl⟩
set_option maxHeartbeats 2000000 in
theorem asaccepted_any (ge gq done n : Nat) (w : World) (h0 : w.cell? ⟨ge, 0, none⟩ = some (.pointer (some ⟨gq, 0, none⟩))) (h6 : w.cell? ⟨ge, 6, none⟩ = some (.int .i64 (done : Int))) (hq : w.cell? ⟨gq, 18, none⟩ = some (.int .i64 (n : Int))) (hd : done ≤ 1000000) (hn : n ≤ 16) :
    Calls Try.prog 19 #[.pointer (some ⟨ge, 0, none⟩)] w fun e w' => e = .returned (.int .i64 ((done + n : Nat) : Int)) ∧ Below w.heap.size w w' := by
  have HL := Lib.hid (fun k => (qulen_any gq n (w.drewN k) (show (w.drewN k).cell? _ = _ from hq)).mono (fun _ _ ⟨h1, h2⟩ => And.intro h1 h2.symm))
  have es : ((done : Int) + (n : Int)) = ((done + n : Nat) : Int) := by omega
  have HS := Lib.hid es
  clear hq es
  go_enter Try.func19, Try.ntmps19
  go_wp2_with (fail)
  go_quiet ((go_at_call 26; refine Calls.quiet_of_same (HL.out _)))
  go_wp2
  go_ret
  exact ⟨rfl, below_drewN' (Below.refl _ _) nq⟩
set_option maxHeartbeats 1000000 in
theorem asask_any (ge t : Nat) (w : World) (h1 : w.cell? ⟨ge, 1, none⟩ = some (.int .u64 (t : Int))) :
    Calls Try.prog 22 #[.pointer (some ⟨ge, 0, none⟩)] w fun e w' => ∃ A n c, e = .returned (.slice A n c) ∧ Tks w' (· < w.heap.size) A n c [(0, t, 0, 0, [])] ∧ Below w.heap.size w w' := by
  go_enter Try.func22, Try.ntmps22
  go_wp2
  go_ret
  exact ⟨_, 1, 1, rfl, Tks.one (Bys.nil _) (Av.none _ _) (by omega), (Below.refl _ w).alloc (Nat.le_refl _) _⟩
def zBegin (z : Ens) : Ens := { z with t := nx z.l z.k, k := z.k + 1, r := 0, bound := false, tm := tmSet z.tm 0 }
set_option maxHeartbeats 2000000 in
theorem asbegin_any (p : Enp) (z : Ens) (w : World) (Y : Nat → Prop) (h : EnP p z w Y) (hk : z.k < 1000000) (hto : TmOk z.most z.tm) (htl : z.tm.length < 1000) :
    Calls Try.prog 28 #[.pointer (some ⟨p.ge, 0, none⟩)] w (GivesTks (EnP p (zBegin z)) Y [(0, nx z.l z.k, 0, 0, [])] w) := by
  obtain ⟨Xs, hs, -, hT⟩ := h.turn 4 rfl
  have HN := Lib.hid (nonext_any p.gs z.l z.k w Xs hs hk)
  have HT := Lib.hid hT
  obtain ⟨⟨-, -, -, -, c4, c5, -, -⟩, fz, hge⟩ := h.cells
  clear hs hT h
  go_enter Try.func28, Try.ntmps28
  go_wp2_with (fail)
  refine HN.out.mono ?_
  rintro e w1 ⟨rfl, X1, s1, t1⟩
  obtain ⟨Y1, E1, U1⟩ := HT.out _ { z with k := z.k + 1 } w1 X1 rfl rfl s1 t1
  obtain ⟨⟨b0, b1, b2, b3, b4, -, -, -⟩, fz1, hge1⟩ := E1.cells
  have f1 := fz1 1
  have f2 := fz1 2
  have f3 := fz1 3
  obtain ⟨E2, U2⟩ := E1.talk (nx z.l z.k) 0 false
  obtain ⟨Xt, ht, -, hTt⟩ := E2.turn 1 rfl
  have HS := Lib.hid (tmC.set p.gt z.most z.tm 0 _ Xt ht hto ⟨by omega, by omega⟩ htl)
  have HT2 := Lib.hid hTt
  have HU := Lib.hid (U1.trans U2)
  obtain ⟨⟨d0, d1, d2, d3, d4, -, -, -⟩, -, -⟩ := E2.cells
  clear s1 t1 E1 U1 E2 U2 ht hTt fz1 HN HT
  go_wp2_with (fail)
  refine HS.out.mono ?_
  rintro e w3 ⟨rfl, X3, s3, t3⟩
  obtain ⟨Y3, E3, U3⟩ := HT2.out _ (zBegin z) w3 X3 rfl rfl s3 t3
  obtain ⟨⟨-, g1, -, -, -, -, -, -⟩, -, -⟩ := E3.cells
  have HA := Lib.hid (asask_any p.ge _ w3 g1)
  have HE := Lib.hid (And.intro E3 (HU.out.trans U3))
  clear s3 t3 E3 U3 g1 HT2
  go_wp2_with (fail)
  refine HA.out.mono ?_
  rintro e w4 ⟨A, n, c, rfl, k4, T4⟩
  have HK := Lib.hid (And.intro k4 T4)
  clear k4 T4
  go_wp2
  go_ret
  obtain ⟨k4, T4⟩ := HK.out
  have hs := HE.out.2.off.size
  have hl := (EnP.holds p (zBegin z)).lt HE.out.1
  exact ⟨A, n, c, Y3, rfl, k4.imp (fun k _ hk => by rcases hk with hk | hk; exact hl k hk; omega), HE.out.1.below T4, HE.out.2.next T4⟩
end Go.Proofs.Ytdkebneiikdohaa
