/- Package asker, as landed: take (what comes is told apart). -/
import Derived.Test.YtdkebneiikdohaaAsK2
namespace Go.Proofs.Ytdkebneiikdohaa
open Go.RowKit
set_option maxRecDepth 20000

def zLost (z : Ens) : Ens := { z with n := z.n + 1, lost := fun j => decide (j = (z.done : Int)) || z.lost j }
def zTake (z : Ens) (kd : Int) (T R : Nat) : Ens := if z.ls = [] ∨ T ≠ z.t then z else if kd = 3 then zOn z else if kd = 1 then (if z.bound = true ∧ R ≠ z.r then zOn (zLost z) else { z with bound := true, r := R }) else z
def zTakeL (z : Ens) (kd : Int) (T C R : Nat) : List Tok := if z.ls = [] ∨ T ≠ z.t then [] else if kd = 3 then zOnL z else if kd = 1 then (if z.bound = true ∧ R ≠ z.r then zOnL z else [(2, z.t, C, 0, z.ls.headD [])]) else []
/-- what a turn of an engine that is as it was gives -/
theorem gives_stay {p : Enp} {z : Ens} {w w' : World} {Y : Nat → Prop} (h : EnP p z w' Y) (t : Turns Y Y w w') {z' : Ens} {l : List Tok} (e1 : z' = z) (e2 : l = []) {e : Ending} (he : e = .returned (.slice none 0 0)) : GivesTks (EnP p z') Y l w e w' := by
  subst e1; subst e2
  exact ⟨none, 0, 0, Y, he, Tks.nil _ _, h, t⟩
theorem gives_then {p : Enp} {z : Ens} {w w1 w' : World} {Y Y1 : Nat → Prop} {l : List Tok} {e : Ending} (t : Turns Y Y1 w w1) (h : GivesTks (EnP p z) Y1 l w1 e w') {z' : Ens} {l' : List Tok} (e1 : z' = z) (e2 : l' = l) : GivesTks (EnP p z') Y l' w e w' := by
  subst e1; subst e2
  obtain ⟨A, n, c, Y', h1, h2, h3, h4⟩ := h
  exact ⟨A, n, c, Y', h1, h2.imp (fun k _ hk => by rcases hk with hk | hk; exact .inl hk; exact .inr (Nat.lt_of_lt_of_le hk t.off.size)), h3, t.trans h4⟩
theorem EnP.drewN {p : Enp} {z : Ens} {w : World} {Y : Nat → Prop} (h : EnP p z w Y) (k : Nat) : EnP p z (w.drewN k) Y := h.below (below_drewN' (Below.refl w.heap.size w) k)
theorem tu_drewN {X X' : Nat → Prop} {w w' : World} (h : Turns X X' w w') (k : Nat) : Turns X X' w (w'.drewN k) := ⟨h.off.drewN k, h.grow⟩
set_option maxHeartbeats 8000000 in
theorem astake_any (p : Enp) (z : Ens) (kd : Int) (T C R : Nat) (P : Option Addr) (n c : Nat) (w : World) (Y : Nat → Prop) (h : EnP p z w Y) (hd : z.done < 1000000) (hk : z.k < 1000000) (hto : TmOk z.most z.tm) (htl : z.tm.length < 1000) (hn : z.n ≤ 1000000) :
    Calls Try.prog 23 #[.pointer (some ⟨p.ge, 0, none⟩), .agg #[.int .i64 kd, .int .u64 (T : Int), .int .u64 (C : Int), .int .u64 (R : Int), .slice P n c]] w (GivesTks (EnP p (zTake z kd T R)) Y (zTakeL z kd T C R) w) := by
  have hb := (Below.refl _ w).alloc (Nat.le_refl _) (.cells #[.int .i64 kd, .int .u64 (T : Int), .int .u64 (C : Int), .int .u64 (R : Int), .slice P n c] 41)
  have E0 := h.below hb
  have U0 := Turns.of_below (X := Y) hb
  have hge := h.cells.2.2
  have hY : ¬ Y w.heap.size := fun h' => by have := (EnP.holds p z).lt h _ h'; omega
  have hr := heap_alloc_new w (.cells #[.int .i64 kd, .int .u64 (T : Int), .int .u64 (C : Int), .int .u64 (R : Int), .slice P n c] 41)
  have q0 : (w.alloc (.cells #[.int .i64 kd, .int .u64 (T : Int), .int .u64 (C : Int), .int .u64 (R : Int), .slice P n c] 41)).cell? ⟨w.heap.size, 0, none⟩ = some (.int .i64 kd) := cell_of_row _ _ _ _ _ _ hr
  have q1 : (w.alloc (.cells #[.int .i64 kd, .int .u64 (T : Int), .int .u64 (C : Int), .int .u64 (R : Int), .slice P n c] 41)).cell? ⟨w.heap.size, 1, none⟩ = some (.int .u64 (T : Int)) := cell_of_row _ _ _ _ _ _ hr
  have q2 : (w.alloc (.cells #[.int .i64 kd, .int .u64 (T : Int), .int .u64 (C : Int), .int .u64 (R : Int), .slice P n c] 41)).cell? ⟨w.heap.size, 2, none⟩ = some (.int .u64 (C : Int)) := cell_of_row _ _ _ _ _ _ hr
  have q3 : (w.alloc (.cells #[.int .i64 kd, .int .u64 (T : Int), .int .u64 (C : Int), .int .u64 (R : Int), .slice P n c] 41)).cell? ⟨w.heap.size, 3, none⟩ = some (.int .u64 (R : Int)) := cell_of_row _ _ _ _ _ _ hr
  have q4 : (w.alloc (.cells #[.int .i64 kd, .int .u64 (T : Int), .int .u64 (C : Int), .int .u64 (R : Int), .slice P n c] 41)).cell? ⟨w.heap.size, 4, none⟩ = some (.slice P n c) := cell_of_row _ _ _ _ _ _ hr
  have hsz : w.heap.size < (w.alloc (.cells #[.int .i64 kd, .int .u64 (T : Int), .int .u64 (C : Int), .int .u64 (R : Int), .slice P n c] 41)).heap.size := by simp
  clear h hb hr
  go_enter Try.func23, Try.ntmps23
  go_wp2_with (fail)
  generalize w.alloc (.cells #[.int .i64 kd, .int .u64 (T : Int), .int .u64 (C : Int), .int .u64 (R : Int), .slice P n c] 41) = w0 at *
  have hln := E0.queue.2
  obtain ⟨m, hm⟩ : ∃ m, z.ls.length = m := ⟨_, rfl⟩
  rw [hm] at hln
  have HL := Lib.hid (fun k => (qulen_any p.gq m (w0.drewN k) (show (w0.drewN k).cell? _ = _ from hln)).mono (fun _ _ ⟨h1, h2⟩ => And.intro h1 h2.symm))
  have HM := Lib.hid hm
  have HE := Lib.hid (And.intro E0 U0)
  obtain ⟨⟨c0, c1, c2, c3, -, -, c6, c7⟩, -, -⟩ := E0.cells
  clear E0 U0 hln hm
  by_cases h0 : m = 0
  · have HZ : Hid (z.ls = [] ∨ T ≠ z.t) := .inl (List.eq_nil_of_length_eq_zero (by rw [HM.out]; exact h0))
    subst h0
    go_quiet ((go_at_call 26; refine Calls.quiet_of_same (HL.out _)))
    go_wp2
    go_ret
    exact gives_stay (HE.out.1.drewN nq) (tu_drewN HE.out.2 nq) (by unfold zTake; rw [if_pos HZ.out]) (by unfold zTakeL; rw [if_pos HZ.out]) rfl
  · have b0 : ((m : Int) == 0) = false := by simp; omega
    have b0' : decide ((m : Int) = 0) = false := by simp; omega
    by_cases h1 : T = z.t
    · have HZ : Hid (¬ (z.ls = [] ∨ T ≠ z.t)) := fun e => by
        rcases e with e | e
        · have := HM.out; rw [e] at this; simp at this; omega
        · exact e h1
      have b1 : ((T : Int) != (z.t : Int)) = false := by rw [h1]; simp
      clear h1
      go_quiet ((go_at_call 26; refine Calls.quiet_of_same (HL.out _)))
      have HE1 := Lib.hid (And.intro (HE.out.1.drewN nq) (tu_drewN HE.out.2 nq))
      have q0' : (w0.drewN nq).cell? ⟨w.heap.size, 0, none⟩ = some (.int .i64 kd) := q0
      have q1' : (w0.drewN nq).cell? ⟨w.heap.size, 1, none⟩ = some (.int .u64 (T : Int)) := q1
      have q2' : (w0.drewN nq).cell? ⟨w.heap.size, 2, none⟩ = some (.int .u64 (C : Int)) := q2
      have q3' : (w0.drewN nq).cell? ⟨w.heap.size, 3, none⟩ = some (.int .u64 (R : Int)) := q3
      have q4' : (w0.drewN nq).cell? ⟨w.heap.size, 4, none⟩ = some (.slice P n c) := q4
      clear q0 q1 q2 q3 q4 c0 c1 c2 c3 c6 c7 HL HE HM
      obtain ⟨⟨c0, c1, c2, c3, -, -, c6, c7⟩, -, -⟩ := HE1.out.1.cells
      generalize w0.drewN nq = w1 at *
      by_cases k1 : kd = 1
      · subst k1
        have x1 : ((1 : Int) == 1) = true := by decide
        have x3 : ((1 : Int) == 3) = false := by decide
        cases hbd : z.bound with
        | false =>
          have HS : Hid (zTake z 1 T R = { z with bound := true, r := R } ∧ zTakeL z 1 T C R = [(2, z.t, C, 0, z.ls.headD [])]) := by
            unfold zTake zTakeL
            rw [if_neg HZ.out, if_neg HZ.out, hbd]
            exact ⟨rfl, rfl⟩
          rw [hbd] at c3
          go_wp2_with (fail)
          go_region
          go_wp2_with (fail)
          refine (asgive_any p z 1 T C R P n c _ Y HE1.out.1.drew).mono ?_
          rintro e w4 ⟨A, a, d, Y4, rfl, k4, E4, U4⟩
          have HK := Lib.hid (And.intro k4 (And.intro E4 U4))
          clear k4 E4 U4
          go_wp2
          go_ret
          exact gives_then (tu_drew HE1.out.2) ⟨A, a, d, Y4, rfl, HK.out⟩ HS.out.1 HS.out.2
        | true =>
          rw [hbd] at c3
          by_cases hR : R = z.r
          · have HS : Hid (zTake z 1 T R = { z with bound := true, r := R } ∧ zTakeL z 1 T C R = [(2, z.t, C, 0, z.ls.headD [])]) := by
              unfold zTake zTakeL
              have e3 : ¬ (1 : Int) = 3 := by decide
              have e1 : (1 : Int) = 1 := rfl
              have e2 : ¬ (z.bound = true ∧ R ≠ z.r) := fun e => e.2 hR
              rw [if_neg HZ.out, if_neg HZ.out, if_neg e3, if_neg e3, if_pos e1, if_pos e1, if_neg e2, if_neg e2]
              exact ⟨rfl, rfl⟩
            have x2 : ((R : Int) != (z.r : Int)) = false := by rw [hR]; simp
            clear hR
            go_wp2_with (fail)
            go_region
            go_wp2_with (fail)
            refine (asgive_any p z 1 T C R P n c _ Y HE1.out.1.drew).mono ?_
            rintro e w4 ⟨A, a, d, Y4, rfl, k4, E4, U4⟩
            have HK := Lib.hid (And.intro k4 (And.intro E4 U4))
            clear k4 E4 U4
            go_wp2
            go_ret
            exact gives_then (tu_drew HE1.out.2) ⟨A, a, d, Y4, rfl, HK.out⟩ HS.out.1 HS.out.2
          · have HS : Hid (zTake z 1 T R = zOn (zLost z) ∧ zTakeL z 1 T C R = zOnL z) := by
              unfold zTake zTakeL
              have e3 : ¬ (1 : Int) = 3 := by decide
              have e1 : (1 : Int) = 1 := rfl
              have e2 : z.bound = true ∧ R ≠ z.r := ⟨hbd, hR⟩
              rw [if_neg HZ.out, if_neg HZ.out, if_neg e3, if_neg e3, if_pos e1, if_pos e1, if_pos e2, if_pos e2]
              exact ⟨rfl, rfl⟩
            have x2 : ((R : Int) != (z.r : Int)) = true := by simp; omega
            clear hR
            go_wp2_with (fail)
            go_region
            have E2 := HE1.out.1.drew
            have HU2 := Lib.hid (tu_drew HE1.out.2)
            clear q0' q1' q2' q3' q4' c0 c1 c2 c3 c6 c7 HE1
            obtain ⟨⟨-, -, -, -, -, -, c6, c7⟩, -, -⟩ := E2.cells
            generalize w1.drew = w2 at *
            obtain ⟨Xl, ⟨hS, rfl⟩, -, hT⟩ := E2.drew.turn 2 rfl
            have hI : I64k (z.done : Int) := ⟨by omega, by omega⟩
            obtain ⟨w3, hrun, hM3, hg3⟩ := hS.put (by unfold maxLen; omega) (z.done : Int) hI
            obtain ⟨Y3, E3, U3⟩ := hT (LostP p.gm (z.n + 1) (fun j => decide (j = (z.done : Int)) || z.lost j)) (zLost z) w3 (· = p.gm) rfl rfl ⟨hM3, rfl⟩ ⟨(Off.refl (· = p.gm) w2.drew).grown hg3 (fun j hj => .inl (by injection hj with hj; exact hj.symm)), fun k hk => .inl hk⟩
            have HE3 := Lib.hid (And.intro E3 ((tu_drew HU2.out).trans U3))
            clear hS hT hM3 hg3 E3 U3 E2
            go_wp2_with (fail)
            go_region
            go_wp2_with (fail)
            refine (asproceed_any p (zLost z) _ Y3 HE3.out.1 hd hk hto htl).mono ?_
            rintro e w4 ⟨A, a, d, Y4, rfl, k4, E4, U4⟩
            have HK := Lib.hid (And.intro k4 (And.intro E4 U4))
            clear k4 E4 U4
            go_wp2
            go_ret
            exact gives_then HE3.out.2 ⟨A, a, d, Y4, rfl, HK.out⟩ HS.out.1 HS.out.2
      · have x1 : (kd == 1) = false := by simpa using k1
        by_cases k3 : kd = 3
        · have HS : Hid (zTake z kd T R = zOn z ∧ zTakeL z kd T C R = zOnL z) := by
            unfold zTake zTakeL
            rw [if_neg HZ.out, if_neg HZ.out, if_pos k3, if_pos k3]
            exact ⟨rfl, rfl⟩
          have x3 : (kd == 3) = true := by simpa using k3
          clear k1 k3
          go_wp2_with (fail)
          go_region
          go_wp2_with (fail)
          refine (asproceed_any p z _ Y HE1.out.1.drew hd hk hto htl).mono ?_
          rintro e w4 ⟨A, a, d, Y4, rfl, k4, E4, U4⟩
          have HK := Lib.hid (And.intro k4 (And.intro E4 U4))
          clear k4 E4 U4
          go_wp2
          go_ret
          exact gives_then (tu_drew HE1.out.2) ⟨A, a, d, Y4, rfl, HK.out⟩ HS.out.1 HS.out.2
        · have HS : Hid (zTake z kd T R = z ∧ zTakeL z kd T C R = []) := by
            unfold zTake zTakeL
            rw [if_neg HZ.out, if_neg HZ.out, if_neg k3, if_neg k3, if_neg k1, if_neg k1]
            exact ⟨rfl, rfl⟩
          have x3 : (kd == 3) = false := by simpa using k3
          clear k1 k3
          go_wp2_with (fail)
          go_region
          go_wp2
          go_ret
          exact gives_stay HE1.out.1.drew (tu_drew HE1.out.2) HS.out.1 HS.out.2 rfl
    · have HZ : Hid (z.ls = [] ∨ T ≠ z.t) := .inr h1
      have b1 : ((T : Int) != (z.t : Int)) = true := by simp; omega
      clear h1
      go_quiet ((go_at_call 26; refine Calls.quiet_of_same (HL.out _)))
      go_wp2
      go_ret
      exact gives_stay (HE.out.1.drewN nq) (tu_drewN HE.out.2 nq) (by unfold zTake; rw [if_pos HZ.out]) (by unfold zTakeL; rw [if_pos HZ.out]) rfl
end Go.Proofs.Ytdkebneiikdohaa
