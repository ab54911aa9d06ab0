/- Package asker, as landed: proceed, give. -/
import Derived.Test.YtdkebneiikdohaaAsK1
namespace Go.Proofs.Ytdkebneiikdohaa
open Go.RowKit
set_option maxRecDepth 20000

theorem EnP.drew {p : Enp} {z : Ens} {w : World} {Y : Nat → Prop} (h : EnP p z w Y) : EnP p z w.drew Y := h.below (below_drewN' (Below.refl w.heap.size w) 1)
theorem tu_drew {X X' : Nat → Prop} {w w' : World} (h : Turns X X' w w') : Turns X X' w w'.drew := ⟨h.off.drew, h.grow⟩
def zNext (z : Ens) : Ens := { z with ls := z.ls.tail, done := z.done + 1 }
def zIdle (z : Ens) : Ens := { z with t := 0, r := 0, bound := false, tm := tmClear z.tm 0 }
def zOn (z : Ens) : Ens := if z.ls.tail = [] then zIdle (zNext z) else zBegin (zNext z)
def zOnL (z : Ens) : List Tok := if z.ls.tail = [] then [] else [(0, nx z.l z.k, 0, 0, [])]
set_option maxHeartbeats 4000000 in
theorem asproceed_any (p : Enp) (z : Ens) (w : World) (Y : Nat → Prop) (h : EnP p z w Y) (hd : z.done < 1000000) (hk : z.k < 1000000) (hto : TmOk z.most z.tm) (htl : z.tm.length < 1000) :
    Calls Try.prog 30 #[.pointer (some ⟨p.ge, 0, none⟩)] w (GivesTks (EnP p (zOn z)) Y (zOnL z) w) := by
  obtain ⟨Xq, hq, -, hT⟩ := h.turn 0 rfl
  have HP := Lib.hid (quC.pop p.gq z.room z.ls w Xq hq)
  have HT := Lib.hid hT
  obtain ⟨⟨c0, -, -, -, -, -, -, -⟩, -, -⟩ := h.cells
  clear hq hT h
  go_enter Try.func30, Try.ntmps30
  go_wp2_with (fail)
  refine HP.out.mono ?_
  rintro e w1 ⟨A1, n1, k1, X1, rfl, -, -, s1, t1⟩
  obtain ⟨Y1, E1, U1⟩ := HT.out _ { z with ls := z.ls.tail } w1 X1 rfl rfl s1 t1
  obtain ⟨⟨b0, -, -, -, -, -, b6, -⟩, fz1, -⟩ := E1.cells
  obtain ⟨E2, U2⟩ := E1.c (zNext z) 6 (.int .i64 ((z.done : Int) + 1)) rfl rfl
  obtain ⟨⟨d0, -, -, -, -, -, -, -⟩, -, -⟩ := E2.cells
  have hln := E2.queue.2
  have HE2 := Lib.hid (And.intro E2 (U1.trans U2))
  have f6 := fz1 6
  have hw : IntKind.i64.wrap ((z.done : Int) + 1) = (z.done : Int) + 1 := IntWalk.i64_in _ (by omega)
  obtain ⟨m, hm⟩ : ∃ m, (zNext z).ls.length = m := ⟨_, rfl⟩
  have HL := Lib.hid (qulen_any p.gq m _ (hm ▸ hln))
  have HM : Hid (z.ls.tail.length = m) := hm
  clear s1 t1 E1 U1 E2 U2 fz1 HP HT hln hm
  by_cases h0 : m = 0
  · have HN : Hid (z.ls.tail = []) := List.eq_nil_of_length_eq_zero (by rw [HM.out]; exact h0)
    subst h0
    have d1 : decide ((0 : Int) < ((0 : Nat) : Int)) = false := by decide
    obtain ⟨E3, U3⟩ := HE2.out.1.talk 0 0 false
    obtain ⟨⟨g0, g1, g2, g3, g4, -, -, -⟩, fz3, -⟩ := HE2.out.1.cells
    have f1 := fz3 1
    have f2 := fz3 2
    have f3 := fz3 3
    obtain ⟨Xt, ht, -, hTt⟩ := E3.turn 1 rfl
    have HC := Lib.hid (tmC.clear p.gt z.most z.tm 0 _ Xt ht hto ⟨by omega, by omega⟩ (by omega))
    have HT := Lib.hid hTt
    obtain ⟨⟨-, -, -, -, q4, -, -, -⟩, -, -⟩ := E3.cells
    have HU := Lib.hid U3
    clear E3 U3 ht hTt fz3
    go_wp2_with (fail)
    refine HL.out.mono ?_
    rintro e w3 ⟨rfl, rfl⟩
    go_wp2_with (fail)
    refine HC.out.mono ?_
    rintro e w4 ⟨rfl, X4, s4, t4⟩
    have HE4 := Lib.hid (HT.out _ (zIdle (zNext z)) w4 X4 rfl rfl s4 t4)
    clear s4 t4
    go_wp2
    go_ret
    obtain ⟨Y4, E4, U4⟩ := HE4.out
    refine ⟨none, 0, 0, Y4, rfl, ?_, ?_, HE2.out.2.trans (HU.out.trans U4)⟩
    · unfold zOnL
      rw [if_pos HN.out]
      exact Tks.nil _ _
    · unfold zOn
      rw [if_pos HN.out]
      exact E4
  · have d1 : decide (0 < (m : Int)) = true := by simp; omega
    have HN : Hid (z.ls.tail ≠ []) := fun e => by have := HM.out; rw [e] at this; simp at this; omega
    have HB := Lib.hid (asbegin_any p (zNext z) _ Y1 HE2.out.1 hk hto htl)
    go_wp2_with (fail)
    refine HL.out.mono ?_
    rintro e w3 ⟨rfl, rfl⟩
    go_wp2_with (fail)
    refine HB.out.mono ?_
    rintro e w4 ⟨A, n, c, Y4, rfl, k4, E4, U4⟩
    have HK := Lib.hid (And.intro k4 (And.intro E4 U4))
    clear k4 E4 U4
    go_wp2
    go_ret
    obtain ⟨k4, E4, U4⟩ := HK.out
    refine ⟨A, n, c, Y4, rfl, ?_, ?_, HE2.out.2.trans U4⟩
    · unfold zOnL
      rw [if_neg HN.out]
      have := HE2.out.2.off.size
      exact k4.imp (fun k _ hk => by rcases hk with hk | hk; exact .inl hk; exact .inr (by omega))
    · unfold zOn
      rw [if_neg HN.out]
      exact E4
set_option maxHeartbeats 4000000 in
theorem asgive_any (p : Enp) (z : Ens) (kd : Int) (T C R : Nat) (P : Option Addr) (n c : Nat) (w : World) (Y : Nat → Prop) (h : EnP p z w Y) :
    Calls Try.prog 31 #[.pointer (some ⟨p.ge, 0, none⟩), .agg #[.int .i64 kd, .int .u64 (T : Int), .int .u64 (C : Int), .int .u64 (R : Int), .slice P n c]] w (GivesTks (EnP p { z with bound := true, r := R }) Y [(2, z.t, C, 0, z.ls.headD [])] w) := by
  have hb := (Below.refl _ w).alloc (Nat.le_refl _) (.cells #[.int .i64 kd, .int .u64 (T : Int), .int .u64 (C : Int), .int .u64 (R : Int), .slice P n c] 41)
  have E0 := h.below hb
  have U0 := Turns.of_below (X := Y) hb
  have hge := h.cells.2.2
  obtain ⟨⟨c0, c1, c2, c3, -, -, -, -⟩, fz, -⟩ := E0.cells
  have f2 := fz 2
  have f3 := fz 3
  have hr := heap_alloc_new w (.cells #[.int .i64 kd, .int .u64 (T : Int), .int .u64 (C : Int), .int .u64 (R : Int), .slice P n c] 41)
  have q2 : (w.alloc (.cells #[.int .i64 kd, .int .u64 (T : Int), .int .u64 (C : Int), .int .u64 (R : Int), .slice P n c] 41)).cell? ⟨w.heap.size, 2, none⟩ = some (.int .u64 (C : Int)) := cell_of_row _ _ _ _ _ _ hr
  have q3 : (w.alloc (.cells #[.int .i64 kd, .int .u64 (T : Int), .int .u64 (C : Int), .int .u64 (R : Int), .slice P n c] 41)).cell? ⟨w.heap.size, 3, none⟩ = some (.int .u64 (R : Int)) := cell_of_row _ _ _ _ _ _ hr
  have hsz : w.heap.size < (w.alloc (.cells #[.int .i64 kd, .int .u64 (T : Int), .int .u64 (C : Int), .int .u64 (R : Int), .slice P n c] 41)).heap.size := by simp
  have hY : ¬ Y w.heap.size := fun h' => by have := (EnP.holds p z).lt h _ h'; omega
  have HE0 := Lib.hid (And.intro E0 U0)
  clear h E0 U0 fz hb hr
  go_enter Try.func31, Try.ntmps31
  go_wp2_with (fail)
  generalize w.alloc (.cells #[.int .i64 kd, .int .u64 (T : Int), .int .u64 (C : Int), .int .u64 (R : Int), .slice P n c] 41) = w0 at *
  go_region
  obtain ⟨E1, U1⟩ := HE0.out.1.c { z with bound := true } 3 (.bool true) rfl rfl
  obtain ⟨E2, U2⟩ := E1.c { z with bound := true, r := R } 2 (.int .u64 (R : Int)) rfl rfl
  have E3 := E2.drew
  have U3 := tu_drew (U1.trans U2)
  have q2' := (U3.off.cell (p := ⟨w.heap.size, 2, none⟩) hsz hY).trans q2
  have hs3 := U3.off.size
  have HU := Lib.hid (HE0.out.2.trans U3)
  clear E1 U1 E2 U2 U3 q2 q3 c0 c1 c2 c3 f2 f3 HE0
  generalize ((w0.setCell ⟨p.ge, 3, none⟩ (.bool true)).setCell ⟨p.ge, 2, none⟩ (.int .u64 (R : Int))).drew = w3 at *
  obtain ⟨Xq, hq, -, -⟩ := E3.turn 0 rfl
  have HF := Lib.hid (quC.front p.gq z.room z.ls w3 Xq hq)
  obtain ⟨⟨c0, c1, -, -, -, -, -, -⟩, -, hg3⟩ := E3.cells
  have HE3 := Lib.hid E3
  clear E3 hq
  go_wp2_with (fail)
  refine HF.out.mono ?_
  rintro e w4 ⟨A, m, d, rfl, k4, T4⟩
  have HK := Lib.hid (And.intro k4 T4)
  have c1' := (T4.cell (p := ⟨p.ge, 1, none⟩) hg3).trans c1
  have q2'' := (T4.cell (p := ⟨w.heap.size, 2, none⟩) (by show w.heap.size < _; omega)).trans q2'
  clear k4 T4 c0 c1 q2' HF
  go_wp2_with (fail)
  go_region
  go_wp2
  go_ret
  obtain ⟨k4, T4⟩ := HK.out
  have hs4 := T4.size
  have hl := (EnP.holds p _).lt HE3.out
  have TA := (Below.refl _ w4).alloc (Nat.le_refl _) (.cells #[.int .i64 2, .int .u64 (z.t : Int), .int .u64 (C : Int), .int .u64 0, .slice A m d] 41)
  have E5 := (HE3.out.below T4).below TA
  have K5 : Tks _ (fun k => Y k ∨ k < w.heap.size) _ 1 1 [(2, z.t, C, 0, z.ls.headD [])] := Tks.one (k := 2) (x := z.t) (y := C) (z := 0) k4.1 (k4.2.1.imp (fun k hk => by rcases hk with hk | hk; exact hl k hk; show k < _; omega)) (fun hk => by rcases hk with hk | hk; have := hl _ hk; omega; omega)
  exact ⟨_, 1, 1, Y, rfl, K5.below (below_drewN' (Below.refl _ _) 1), E5.drew, tu_drew ((HU.out.next T4).next TA)⟩
end Go.Proofs.Ytdkebneiikdohaa
