/- Package giver, as landed: Take, Receive, State, Kept; those of a nil one. -/
import Derived.Test.YtoajbocpebfjoaaGiK2
namespace Go.Proofs.Ytoajbocpebfjoaa
open Go.RowKit
set_option maxRecDepth 20000

theorem GeP.drew {p : Gip} {z : Gis} {w : World} {Y : Nat → Prop} (h : GeP p z w Y) : GeP p z w.drew Y := h.drewN 1
theorem tu_drewg {X X' : Nat → Prop} {w w' : World} (h : Turns X X' w w') : Turns X X' w w'.drew := tu_drewNg h 1
theorem bys_drewg {w : World} {A : Option Addr} {n c : Nat} {l : List UInt8} (h : Bys w A n c l) : Bys w.drew A n c l := h.below (below_drewN' (Below.refl _ _) 1)
set_option maxHeartbeats 4000000 in
theorem giTake_any (p : Gip) (z : Gis) (kd : Int) (T C R : Nat) (P : Option Addr) (n c : Nat) (m : List UInt8) (w : World) (Y : Nat → Prop) (h : GeP p z w Y) (hk : z.k < 1000000) (he : z.ent < 1000000) (hB : Bys w P n c m) :
    Calls Try.prog 14 #[.pointer (some ⟨p.g, 0, none⟩), .agg #[.int .i64 kd, .int .u64 (T : Int), .int .u64 (C : Int), .int .u64 (R : Int), .slice P n c]] w (GivesTks (GeP p (giTake z kd T C m)) Y (giTakeL z kd T C) w) := by
  have hb := (Below.refl _ w).alloc (Nat.le_refl _) (.cells #[.int .i64 kd, .int .u64 (T : Int), .int .u64 (C : Int), .int .u64 (R : Int), .slice P n c] 41)
  have E0 := h.below hb
  have U0 := Turns.of_below (X := Y) hb
  have B0 := hB.below hb
  have hr := heap_alloc_new w (.cells #[.int .i64 kd, .int .u64 (T : Int), .int .u64 (C : Int), .int .u64 (R : Int), .slice P n c] 41)
  have q : ∀ j : Nat, (w.alloc (.cells #[.int .i64 kd, .int .u64 (T : Int), .int .u64 (C : Int), .int .u64 (R : Int), .slice P n c] 41)).cell? ⟨w.heap.size, j, none⟩ = #[Value.int .i64 kd, .int .u64 (T : Int), .int .u64 (C : Int), .int .u64 (R : Int), .slice P n c][j]? := fun j => cell_of_row _ _ _ _ _ _ hr
  have q0 := q 0
  have q1 := q 1
  have q2 := q 2
  have q3 := q 3
  have q4 := q 4
  simp only [List.getElem?_toArray, List.getElem?_cons_zero, List.getElem?_cons_succ] at q0 q1 q2 q3 q4
  have HM := Lib.hid (gimade_any p.g ⟨p.ge, 0, none⟩ _ E0.head)
  have c0 := E0.head
  have HE := Lib.hid (And.intro E0 U0)
  have HB := Lib.hid B0
  clear h hb hr E0 U0 q hB B0
  go_enter Try.func14, Try.ntmps14
  go_wp2_with (fail)
  refine HM.out.mono ?_
  rintro e w1 ⟨rfl, rfl⟩
  generalize w.alloc (.cells #[.int .i64 kd, .int .u64 (T : Int), .int .u64 (C : Int), .int .u64 (R : Int), .slice P n c] 41) = w0 at *
  go_wp2_with (fail)
  go_region_with ((go_at_call 31; (with_reducible refine (gitake_any p z kd T C R P n c m _ Y (by first | exact HE.out.1 | exact HE.out.1.drew) hk he (by first | exact HB.out | exact bys_drewg HB.out)).mono ?_); rintro e w2 ⟨A2, n2, c2, X2, rfl, hp, hF, ht⟩; have HG := Lib.hid (And.intro hp (And.intro hF ht))))
  all_goals
    go_wp2
    go_ret
    exact gg_then (by first | exact HE.out.2 | exact tu_drewg HE.out.2) ⟨_, _, _, _, rfl, HG.out⟩ rfl rfl
/-- a message that left its queue lies at no block of the giver's -/
theorem GeP.pop {p : Gip} {z : Gis} {w : World} {Y : Nat → Prop} (h : GeP p z w Y) : ∃ X, QuP p.gq z.room z.ls w X ∧ (∀ k, X k → Y k) ∧ ∀ (ls' : List (List UInt8)) (w1 : World) (X' : Nat → Prop), QuP p.gq z.room ls' w1 X' → Turns X X' w w1 → ∃ Y', GeP p { z with ls := ls' } w1 Y' ∧ Turns Y Y' w w1 ∧ ∀ k, Y' k → X' k ∨ (¬ X k ∧ k < w.heap.size) := by
  obtain ⟨Xs, h, rfl⟩ := h
  have hi : 0 < Xs.length := by rw [← h.2.1]; exact (List.getElem?_eq_some_iff.1 (show (giParts p z)[0]? = some _ from rfl)).1
  have hX : Xs[0]? = some Xs[0] := List.getElem?_eq_getElem hi
  refine ⟨Xs[0], h.part 0 rfl hX, fun k hk => .inr ⟨0, _, hX, hk⟩, fun ls' w1 X' hp T => ?_⟩
  obtain ⟨h1, h2⟩ := h.turn (giHolds p z) 0 (P' := QuP p.gq z.room ls') hX hp T
  refine ⟨_, ⟨_, h1, rfl⟩, h2, fun k hk => ?_⟩
  rcases hk with rfl | ⟨i, Z, hZ, hk⟩
  · exact .inr ⟨h.2.2.2.1 0 _ hX, obrow_lt h.1⟩
  · rcases get_set _ _ _ _ _ hZ with ⟨_, rfl, _⟩ | ⟨e, hZ⟩
    · exact .inl hk
    · exact .inr ⟨fun hx => h.2.2.2.2 0 i _ _ hX hZ e k hx hk, h.lt (giHolds p z) k (.inr ⟨i, Z, hZ, hk⟩)⟩
def giRecv (z : Gis) : Gis := { z with ls := z.ls.tail }
def giRecvL (z : Gis) : List Tok := if z.ls = [] then [] else giAck (giRecv z)
set_option maxHeartbeats 4000000 in
theorem giRecv_any (p : Gip) (z : Gis) (w : World) (Y : Nat → Prop) (h : GeP p z w Y) :
    Calls Try.prog 16 #[.pointer (some ⟨p.g, 0, none⟩)] w (GivesRfT (GeP p (giRecv z)) Y (z.ls.headD []) (!z.ls.isEmpty) (giRecvL z) w) := by
  have c0 := h.head
  have HM := Lib.hid (gimade_any p.g ⟨p.ge, 0, none⟩ w c0)
  obtain ⟨X, hq, hXY, hT⟩ := h.pop
  have hP := quC.pop p.gq z.room z.ls w X hq
  have HT := Lib.hid (And.intro hXY hT)
  obtain ⟨⟨d0, -, -, -, -, -, -, -⟩, -, -⟩ := h.cells
  clear h hq hXY hT
  cases hb : z.ls.isEmpty with
  | true =>
    have HS : Hid (giRecvL z = []) := by
      show _ = _
      unfold giRecvL
      rw [if_pos (List.isEmpty_iff.1 hb)]
    have HN : Hid (z.ls.headD [] = []) := by
      show _ = _
      rw [List.isEmpty_iff.1 hb]
      rfl
    rw [hb] at hP
    have HP := Lib.hid hP
    clear hb hP
    go_enter Try.func16, Try.ntmps16
    go_wp2_with (fail)
    refine HM.out.mono ?_
    rintro e w1 ⟨rfl, rfl⟩
    go_wp2_with (fail)
    refine HP.out.mono ?_
    rintro e w1 ⟨A, n, c, X1, rfl, -, -, s1, t1⟩
    have HF := Lib.hid (HT.out.2 _ w1 X1 s1 t1)
    clear s1 t1
    go_wp2
    go_ret3
    obtain ⟨Y1, E1, U1, -⟩ := HF.out
    rw [HN.out, HS.out]
    exact ⟨none, 0, 0, none, 0, 0, Y1, rfl, Bys.nil _, Av.none _ _, fun h => absurd h (by omega), Tks.nil _ _, E1, U1⟩
  | false =>
    have HS : Hid (giRecvL z = giAck (giRecv z)) := by
      show _ = _
      unfold giRecvL
      rw [if_neg (fun e => by rw [e] at hb; cases hb)]
    rw [hb] at hP
    have HP := Lib.hid hP
    clear hb hP
    go_enter Try.func16, Try.ntmps16
    go_wp2_with (fail)
    refine HM.out.mono ?_
    rintro e w1 ⟨rfl, rfl⟩
    go_wp2_with (fail)
    refine HP.out.mono ?_
    rintro e w1 ⟨A, n, c, X1, rfl, fB, fN, s1, t1⟩
    obtain ⟨Y1, E1, U1, V1⟩ := HT.out.2 _ w1 X1 s1 t1
    have c1 := E1.head
    have HC := Lib.hid (giconf_any p (giRecv z) w1 Y1 E1)
    have HF := Lib.hid (And.intro E1 (And.intro U1 (And.intro V1 (And.intro fB fN))))
    clear s1 t1 E1 U1 V1 fB fN c0 d0
    go_wp2_with (fail)
    refine HC.out.mono ?_
    rintro e w2 ⟨B, m, d, rfl, k2, T2⟩
    have HK := Lib.hid (And.intro k2 T2)
    clear k2 T2
    go_wp2
    go_ret3
    obtain ⟨E1, U1, V1, fB, fN⟩ := HF.out
    obtain ⟨k2, T2⟩ := HK.out
    rw [HS.out]
    refine ⟨A, n, c, B, m, d, Y1, rfl, fB.1.below T2, fun hn q e hy => ?_, fun hn q e => (fN hn q e).imp (HT.out.1 _) id, k2.imp (fun k _ hk => ?_), E1.below T2, U1.next T2⟩
    · rcases V1 _ hy with hx | ⟨hx, hl⟩
      · exact fB.2.1 hn q e hx
      · rcases fN hn q e with h4 | h4
        · exact hx h4
        · omega
    · rcases hk with hk | hk
      · exact (GeP.holds p _).lt E1 k hk
      · exact Nat.lt_of_lt_of_le hk U1.off.size
set_option maxHeartbeats 4000000 in
theorem giKept_any (p : Gip) (z : Gis) (w : World) (Y : Nat → Prop) (h : GeP p z w Y) :
    Calls Try.prog 21 #[.pointer (some ⟨p.g, 0, none⟩)] w fun e w' => ∃ P n c, e = .returned (.slice P n c) ∧ RFre w' (· < w.heap.size) P n c z.ls ∧ Below w.heap.size w w' := by
  have c0 := h.head
  have HM := Lib.hid (gimade_any p.g ⟨p.ge, 0, none⟩ w c0)
  obtain ⟨X, hq, -, -⟩ := h.pop
  have HA := Lib.hid (quall_any p.gq z.room z.ls w X hq)
  obtain ⟨⟨d0, -, -, -, -, -, -, -⟩, -, -⟩ := h.cells
  clear h hq
  go_enter Try.func21, Try.ntmps21
  go_wp2_with (fail)
  refine HM.out.mono ?_
  rintro e w1 ⟨rfl, rfl⟩
  go_wp2_with (fail)
  refine HA.out.mono ?_
  rintro e w2 ⟨P, n, c, rfl, hr, T⟩
  have HE := Lib.hid (And.intro hr T)
  clear hr T
  go_wp2
  go_ret
  exact ⟨_, _, _, rfl, HE.out⟩
theorem gibelow3 {B : Nat} {u w : World} (T : Below B u w) {g : Nat} (hg : B ≤ g) (a' b' c' : Value) : Below B u (((w.setCell ⟨g, 0, none⟩ a').setCell ⟨g, 1, none⟩ b').setCell ⟨g, 2, none⟩ c') :=
  ((T.setCell (p := ⟨g, 0, none⟩) hg a').setCell (p := ⟨g, 1, none⟩) hg b').setCell (p := ⟨g, 2, none⟩) hg c'
set_option maxHeartbeats 8000000 in
theorem giState_any (p : Gip) (z : Gis) (R : Nat) (w : World) (Y : Nat → Prop) (h : GeP p z w Y) (hR : z.ent = R + z.ls.length) (hE : z.ent ≤ 1000000) :
    Calls Try.prog 19 #[.pointer (some ⟨p.g, 0, none⟩)] w fun e w' => e = .returned (.agg #[.int .i64 (z.ent : Int), .int .i64 (R : Int), .int .u64 (z.r : Int)]) ∧ Below w.heap.size w w' := by
  have HC : Hid (∀ W, Below w.heap.size w W → W.cell? ⟨p.ge, 0, none⟩ = some (.pointer (some ⟨p.gq, 0, none⟩)) ∧ W.cell? ⟨p.ge, 2, none⟩ = some (.int .u64 (z.r : Int)) ∧ W.cell? ⟨p.ge, 7, none⟩ = some (.int .i64 (z.ent : Int))) := fun W U => by
    obtain ⟨⟨a0, -, a2, -, -, -, -, a7⟩, -, -⟩ := (h.below U).cells
    exact ⟨a0, a2, a7⟩
  obtain ⟨m, hm⟩ : ∃ m, z.ls.length = m := ⟨_, rfl⟩
  have HL := Lib.hid (fun W (U : Below w.heap.size w W) => qulen_any p.gq m W (hm ▸ (h.below U).queue.2))
  have T0 := (Below.refl _ w).alloc (Nat.le_refl _) (.cells #[.int .i64 0, .int .i64 0, .int .u64 0] 51)
  have n0 := heap_alloc_new w (.cells #[.int .i64 0, .int .i64 0, .int .u64 0] 51)
  have c0 := (h.below T0).head
  have HM := Lib.hid (gimade_any p.g ⟨p.ge, 0, none⟩ _ c0)
  obtain ⟨k0, k1, k2, f0, f1, f2⟩ := row3 n0
  obtain ⟨d0, d2, d7⟩ := HC.out _ T0
  have HT0 := Lib.hid T0
  have HN0 := Lib.hid n0
  have HT2 := Lib.hid (gibelow3 T0 (Nat.le_refl _) (.int .i64 (z.ent : Int)) (.int .i64 (R : Int)) (.int .u64 (z.r : Int)))
  rw [hm] at hR
  have es : (z.ent : Int) - (m : Int) = (R : Int) := by omega
  have hw : IntKind.i64.wrap (R : Int) = (R : Int) := IntWalk.i64_in _ (by omega)
  have hRb : R ≤ 1000000 := by omega
  clear h T0 n0 hm hR
  generalize z.ent = ze at *
  generalize z.r = zr at *
  go_enter Try.func19, Try.ntmps19
  go_wp2_with (fail)
  refine HM.out.mono ?_
  rintro e w1 ⟨rfl, rfl⟩
  generalize w.alloc (.cells #[.int .i64 0, .int .i64 0, .int .u64 0] 51) = W1 at *
  go_wp2_with (fail)
  clear c0
  go_region_held3 (fun w' => w'.cell? ⟨p.ge, 0, none⟩ = some (.pointer (some ⟨p.gq, 0, none⟩)) ∧ w'.cell? ⟨p.ge, 2, none⟩ = some (.int .u64 (zr : Int)) ∧ w'.cell? ⟨p.ge, 7, none⟩ = some (.int .i64 (ze : Int))) (first | (with_reducible exact (HC.out _ HT0.out)) | (with_reducible exact (HC.out _ HT0.out.drew)) | (with_reducible exact (HC.out _ HT2.out)) | (with_reducible exact (HC.out _ HT2.out.drew)))
    (first
      | (go_at_call 37; (with_reducible refine (HL.out _ (by first | exact HT0.out | exact HT0.out.drew)).mono ?_); rintro e w3 ⟨rfl, rfl⟩))
  all_goals
    go_wp2_with (fail)
    refine bodyPost_ret (v := .agg #[.int .i64 (ze : Int), .int .i64 (R : Int), .int .u64 (zr : Int)]) (results_cell_row rfl _ _ w.heap.size 51 #[.int .i64 (ze : Int), .int .i64 (R : Int), .int .u64 (zr : Int)] (0, 0) _ rfl (stored3 HN0.out _ _ _) Try.underlying51 rfl (by kernel_rfl)) rfl ?_
    exact ⟨rfl, HT2.out.drew⟩
set_option maxHeartbeats 2000000 in
theorem ginTake_any (kd : Int) (T C R : Nat) (A : Option Addr) (n c : Nat) (w : World) : Calls Try.prog 14 #[.pointer none, .agg #[.int .i64 kd, .int .u64 (T : Int), .int .u64 (C : Int), .int .u64 (R : Int), .slice A n c]] w fun e w' => ∃ P c, e = .returned (.slice P 0 c) ∧ Below w.heap.size w w' := by
  have HT0 := Lib.hid ((Below.refl _ w).alloc (Nat.le_refl _) (.cells #[.int .i64 kd, .int .u64 (T : Int), .int .u64 (C : Int), .int .u64 (R : Int), .slice A n c] 41))
  go_enter Try.func14, Try.ntmps14
  go_wp2_with (fail)
  refine (ginmade_any _).mono ?_
  rintro e w1 ⟨rfl, rfl⟩
  go_wp2
  go_ret
  exact ⟨none, 0, rfl, HT0.out⟩
theorem ginRecv_any (w : World) : Calls Try.prog 16 #[.pointer none] w fun e w' => ∃ A c P d, e = .returned (.tuple #[.slice A 0 c, .slice P 0 d, .bool false]) ∧ Below w.heap.size w w' := by
  go_enter Try.func16, Try.ntmps16
  go_wp2_with (fail)
  refine (ginmade_any _).mono ?_
  rintro e w1 ⟨rfl, rfl⟩
  go_wp2
  go_ret3
  exact ⟨none, 0, none, 0, rfl, Below.refl _ _⟩
theorem ginKept_any (w : World) : Calls Try.prog 21 #[.pointer none] w fun e w' => ∃ P c, e = .returned (.slice P 0 c) ∧ Below w.heap.size w w' := by
  go_enter Try.func21, Try.ntmps21
  go_wp2_with (fail)
  refine (ginmade_any _).mono ?_
  rintro e w1 ⟨rfl, rfl⟩
  go_wp2
  go_ret
  exact ⟨none, 0, rfl, Below.refl _ _⟩
set_option maxHeartbeats 2000000 in
theorem ginState_any (w : World) : Calls Try.prog 19 #[.pointer none] w fun e w' => e = .returned (.agg #[.int .i64 0, .int .i64 0, .int .u64 0]) ∧ Below w.heap.size w w' := by
  have T0 := (Below.refl _ w).alloc (Nat.le_refl _) (.cells #[.int .i64 0, .int .i64 0, .int .u64 0] 51)
  have n0 := heap_alloc_new w (.cells #[.int .i64 0, .int .i64 0, .int .u64 0] 51)
  obtain ⟨k0, k1, k2, f0, f1, f2⟩ := row3 n0
  have HN0 := Lib.hid n0
  have HT2 := Lib.hid (gibelow3 T0 (Nat.le_refl _) (.int .i64 0) (.int .i64 0) (.int .u64 0))
  have HM := Lib.hid (ginmade_any (w.alloc (.cells #[.int .i64 0, .int .i64 0, .int .u64 0] 51)))
  clear T0 n0
  go_enter Try.func19, Try.ntmps19
  go_wp2_with (fail)
  refine HM.out.mono ?_
  rintro e w1 ⟨rfl, rfl⟩
  generalize w.alloc (.cells #[.int .i64 0, .int .i64 0, .int .u64 0] 51) = W1 at *
  go_wp2_with (fail)
  refine bodyPost_ret (v := .agg #[.int .i64 0, .int .i64 0, .int .u64 0]) (results_cell_row rfl _ _ w.heap.size 51 #[.int .i64 0, .int .i64 0, .int .u64 0] (0, 0) _ rfl (stored3 HN0.out _ _ _) Try.underlying51 rfl (by kernel_rfl)) rfl ?_
  exact ⟨rfl, HT2.out⟩
end Go.Proofs.Ytoajbocpebfjoaa
