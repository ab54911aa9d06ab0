/- Package giver, as landed: take (what comes is told apart). -/
import Derived.Test.YtoajbocpebfjoaaGiK1
namespace Go.Proofs.Ytoajbocpebfjoaa
open Go.RowKit
set_option maxRecDepth 20000

def giTake (z : Gis) (kd : Int) (T C : Nat) (d : List UInt8) : Gis := if kd = 2 then (if z.opn = true ∧ z.t = T ∧ z.c = C then giEnter z d else if giOld z T = true then giAns z T else z) else if kd = 0 then giAns z T else z
def giTakeL (z : Gis) (kd : Int) (T C : Nat) : List Tok := if kd = 2 then (if z.opn = true ∧ z.t = T ∧ z.c = C then [] else if giOld z T = true then giAnsL z T else []) else if kd = 0 then giAnsL z T else []
set_option maxHeartbeats 8000000 in
theorem gitake_any (p : Gip) (z : Gis) (kd : Int) (T C R : Nat) (P : Option Addr) (n c : Nat) (m : List UInt8) (w : World) (Y : Nat → Prop) (h : GeP p z w Y) (hk : z.k < 1000000) (he : z.ent < 1000000) (hB : Bys w P n c m) :
    Calls Try.prog 31 #[.pointer (some ⟨p.ge, 0, none⟩), .agg #[.int .i64 kd, .int .u64 (T : Int), .int .u64 (C : Int), .int .u64 (R : Int), .slice P n c]] w (GivesTks (GeP p (giTake z kd T C m)) Y (giTakeL z kd T C) w) := by
  have hb := (Below.refl _ w).alloc (Nat.le_refl _) (.cells #[.int .i64 kd, .int .u64 (T : Int), .int .u64 (C : Int), .int .u64 (R : Int), .slice P n c] 41)
  have E0 := h.below hb
  have U0 := Turns.of_below (X := Y) hb
  have B0 := hB.below hb
  have hr := heap_alloc_new w (.cells #[.int .i64 kd, .int .u64 (T : Int), .int .u64 (C : Int), .int .u64 (R : Int), .slice P n c] 41)
  have q : ∀ j : Nat, (w.alloc (.cells #[.int .i64 kd, .int .u64 (T : Int), .int .u64 (C : Int), .int .u64 (R : Int), .slice P n c] 41)).cell? ⟨w.heap.size, j, none⟩ = #[Value.int .i64 kd, .int .u64 (T : Int), .int .u64 (C : Int), .int .u64 (R : Int), .slice P n c][j]? := fun j => cell_of_row _ _ _ _ _ _ hr
  have q0 := q 0
  have q1 := q 1
  have q2 := q 2
  have q3 := q 3
  have q4 := q 4
  simp only [List.getElem?_toArray, List.getElem?_cons_zero, List.getElem?_cons_succ] at q0 q1 q2 q3 q4
  obtain ⟨⟨-, -, -, c3, c4, c5, c6, c7⟩, -, -⟩ := E0.cells
  clear h hB hb hr q
  by_cases k2 : kd = 2
  · subst k2
    have x1 : ((2 : Int) == 2) = true := by decide
    by_cases ho : z.opn = true ∧ z.t = T ∧ z.c = C
    · have HS : Hid (giTake z 2 T C m = giEnter z m ∧ giTakeL z 2 T C = []) := by
        unfold giTake giTakeL
        rw [if_pos rfl, if_pos rfl, if_pos ho, if_pos ho]
        exact ⟨rfl, rfl⟩
      have HF := Lib.hid (fun W (U : Below _ _ W) => gienter_any p z P n c m W Y (E0.below U) he (B0.below U))
      have HU := Lib.hid U0
      rw [ho.1] at c3
      have y1 : ((z.t : Int) == (T : Int)) = true := by rw [ho.2.1]; simp
      have y2 : ((z.c : Int) == (C : Int)) = true := by rw [ho.2.2]; simp
      have y1' : (z.t == T) = true := by rw [ho.2.1]; simp
      have y2' : (z.c == C) = true := by rw [ho.2.2]; simp
      clear ho E0 B0 U0
      go_enter Try.func31, Try.ntmps31
      go_wp2_with (fail)
      generalize w.alloc (.cells #[.int .i64 2, .int .u64 (T : Int), .int .u64 (C : Int), .int .u64 (R : Int), .slice P n c] 41) = w0 at *
      go_region
      go_wp2_with (fail)
      refine (HF.out _ (below_drewN' (Below.refl _ w0) 1)).mono ?_
      rintro e w4 ⟨rfl, Y4, E4, U4⟩
      have HK := Lib.hid (And.intro E4 U4)
      clear E4 U4
      go_wp2
      go_ret
      exact gg_then (tu_drewNg HU.out 1) ⟨none, 0, 0, Y4, rfl, Tks.nil _ _, HK.out⟩ HS.out.1 HS.out.2
    · have hI := fun W (U : Below _ _ W) => by
        obtain ⟨⟨-, -, -, -, -, -, d6, d7⟩, -, -⟩ := (E0.below U).cells
        exact gilast_any p.ge z.last z.ent T W d6 d7
      change ∀ W, _ → Calls _ _ _ W fun e w' => e = .returned (.bool (giOld z T)) ∧ W = w' at hI
      have hx : z.opn = false ∨ (z.opn = true ∧ ((z.t : Int) == (T : Int)) = false ∧ (z.t == T) = false) ∨ (z.opn = true ∧ ((z.t : Int) == (T : Int)) = true ∧ (z.t == T) = true ∧ ((z.c : Int) == (C : Int)) = false ∧ (z.c == C) = false) := by
        cases h1 : z.opn with
        | false => exact .inl rfl
        | true =>
          by_cases h2 : z.t = T
          · have h3 : ¬ z.c = C := fun e => ho ⟨h1, h2, e⟩
            exact .inr (.inr ⟨rfl, by rw [h2]; simp, by rw [h2]; simp, by simp; omega, by simpa using h3⟩)
          · exact .inr (.inl ⟨rfl, by simp; omega, by simpa using h2⟩)
      have HU := Lib.hid (And.intro E0 U0)
      have HA := Lib.hid (fun W (U : Below _ _ W) => gianswer_any p z T W Y (E0.below U) hk)
      cases hd : giOld z T with
      | true =>
        have HS : Hid (giTake z 2 T C m = giAns z T ∧ giTakeL z 2 T C = giAnsL z T) := by
          unfold giTake giTakeL
          rw [if_pos rfl, if_pos rfl, if_neg ho, if_neg ho, if_pos hd, if_pos hd]
          exact ⟨rfl, rfl⟩
        rw [hd] at hI
        have HI := Lib.hid hI
        clear ho E0 U0 B0 hI hd
        rcases hx with ho1 | ⟨ho1, y1, y2⟩ | ⟨ho1, y1, y2, y3, y4⟩
        all_goals
          rw [ho1] at c3
          clear ho1
          go_enter Try.func31, Try.ntmps31
          go_wp2_with (fail)
          generalize w.alloc (.cells #[.int .i64 2, .int .u64 (T : Int), .int .u64 (C : Int), .int .u64 (R : Int), .slice P n c] 41) = w0 at *
          go_region
          go_wp2_with (fail)
          refine (HI.out _ (below_drewN' (Below.refl _ w0) 1)).mono ?_
          rintro e w4 ⟨rfl, rfl⟩
          go_wp2_with (fail)
          refine (HA.out _ (below_drewN' (Below.refl _ w0) 1)).mono ?_
          rintro e w4 ⟨A, a, d, Y4, rfl, k4⟩
          have HK := Lib.hid k4
          clear k4
          go_wp2
          go_ret
          exact gg_then (tu_drewNg HU.out.2 1) ⟨A, a, d, Y4, rfl, HK.out⟩ HS.out.1 HS.out.2
      | false =>
        have nd : ¬ (giOld z T = true) := by rw [hd]; simp
        have HS : Hid (giTake z 2 T C m = z ∧ giTakeL z 2 T C = []) := by
          unfold giTake giTakeL
          rw [if_pos rfl, if_pos rfl, if_neg ho, if_neg ho, if_neg nd, if_neg nd]
          exact ⟨rfl, rfl⟩
        rw [hd] at hI
        have HI := Lib.hid hI
        clear ho E0 U0 B0 hI hd nd HA
        rcases hx with ho1 | ⟨ho1, y1, y2⟩ | ⟨ho1, y1, y2, y3, y4⟩
        all_goals
          rw [ho1] at c3
          clear ho1
          go_enter Try.func31, Try.ntmps31
          go_wp2_with (fail)
          generalize w.alloc (.cells #[.int .i64 2, .int .u64 (T : Int), .int .u64 (C : Int), .int .u64 (R : Int), .slice P n c] 41) = w0 at *
          go_region
          go_wp2_with (fail)
          refine (HI.out _ (below_drewN' (Below.refl _ w0) 1)).mono ?_
          rintro e w4 ⟨rfl, rfl⟩
          go_wp2
          go_ret
          exact gg_stay (HU.out.1.drewN 1) (tu_drewNg HU.out.2 1) HS.out.1 HS.out.2 rfl
  · have x1 : (kd == 2) = false := by simpa using k2
    have HU := Lib.hid (And.intro E0 U0)
    by_cases k0 : kd = 0
    · have HS : Hid (giTake z kd T C m = giAns z T ∧ giTakeL z kd T C = giAnsL z T) := by
        unfold giTake giTakeL
        rw [if_neg k2, if_neg k2, if_pos k0, if_pos k0]
        exact ⟨rfl, rfl⟩
      have x0 : (kd == 0) = true := by simpa using k0
      have HA := Lib.hid (gianswer_any p z T _ Y E0 hk)
      clear k0 k2 E0 U0 B0 c3 c4 c5 c6 c7
      go_enter Try.func31, Try.ntmps31
      go_wp2_with (fail)
      refine HA.out.mono ?_
      rintro e w4 ⟨A, a, d, Y4, rfl, k4⟩
      have HK := Lib.hid k4
      clear k4
      go_wp2
      go_ret
      exact gg_then HU.out.2 ⟨A, a, d, Y4, rfl, HK.out⟩ HS.out.1 HS.out.2
    · have HS : Hid (giTake z kd T C m = z ∧ giTakeL z kd T C = []) := by
        unfold giTake giTakeL
        rw [if_neg k2, if_neg k2, if_neg k0, if_neg k0]
        exact ⟨rfl, rfl⟩
      have x0 : (kd == 0) = false := by simpa using k0
      clear k0 k2 E0 U0 B0 c3 c4 c5 c6 c7
      go_enter Try.func31, Try.ntmps31
      go_wp2
      go_ret
      exact gg_stay HU.out.1 HU.out.2 HS.out.1 HS.out.2 rfl
end Go.Proofs.Ytoajbocpebfjoaa
