/- Package pusher, as landed: New; what a place is sent as. -/
import Derived.Test.YtncpabnmdofomaaPuK2
namespace Go.Proofs.Ytncpabnmdofomaa
open Go.RowKit
set_option maxRecDepth 20000

section
variable {T : Nat → Int → List Tmr → World → (Nat → Prop) → Prop}
set_option maxHeartbeats 4000000 in
theorem punew_no (C : TmC T) (c : Cfg) (w : World) (hi : CfI c) (h : puNew c ≠ 0) :
    Calls Try.prog 8 #[cfgV c] w fun e w' => e = .returned (.tuple #[.pointer none, .int .i64 (puNew c)]) ∧ Below w.heap.size w w' := by
  unfold cfgV
  have hib := hi.2.2.2.2.1
  clear hi
  obtain ⟨eng, cw, cm, cl, cb, room, beg⟩ := c
  simp only at *
  have T0 := (Below.refl _ w).alloc (Nat.le_refl _) (.cells #[.int .i64 eng, .int .i64 cw, .int .i64 cm, .int .i64 cl, .int .i64 cb, .int .i64 room, .int .u64 (beg : Int)] 24)
  have hn := heap_alloc_new w (.cells #[.int .i64 eng, .int .i64 cw, .int .i64 cm, .int .i64 cl, .int .i64 cb, .int .i64 room, .int .u64 (beg : Int)] 24)
  obtain ⟨c0, c1, c2, c3, c4, c5, c6⟩ := row7 hn
  have HK := Lib.hid (fun W => rgcheck_any cw cm cl W)
  unfold puNew at *
  simp only at *
  have HT0 := Lib.hid T0
  have HB := Lib.hid (lt_row hn)
  clear hn T0
  by_cases h1 : rgCheck cw cm cl = 0
  · rw [h1] at HK h
    rw [h1]
    simp only [ne_eq, not_true_eq_false, if_false] at h ⊢
    by_cases h2 : cb < 1 ∨ 64 < cb
    · rw [if_pos h2]
      have HN := Lib.hid (fun W => C.new_no cb W hib h2)
      clear h h2 h1
      go_enter Try.func8, Try.ntmps8
      go_wp2_with (fail)
      refine (HK.out _).mono ?_
      rintro e w1 ⟨rfl, rfl⟩
      go_wp2_with (fail)
      refine (HN.out _).mono ?_
      rintro e w1 ⟨rfl, T1⟩
      have T2 := nxt HT0.out T1
      go_wp2
      go_ret2
      exact ⟨rfl, T2⟩
    · rw [if_neg h2] at h ⊢
      by_cases h3 : room < 1 ∨ 16 < room
      · rw [if_pos h3]
        have HN := Lib.hid (fun W => C.new_yes cb W (by omega) (by omega))
        by_cases h4 : room < 1
        · have d4 : decide (room < 1) = true := by simpa using h4
          clear h h2 h1 h3 h4
          go_enter Try.func8, Try.ntmps8
          go_wp2_with (fail)
          refine (HK.out _).mono ?_
          rintro e w1 ⟨rfl, rfl⟩
          go_wp2_with (fail)
          refine (HN.out _).mono ?_
          rintro e w1 ⟨gt, X, rfl, -, -, T1⟩
          have c5 := (T1.cell (p := ⟨w.heap.size, 5, none⟩) HB.out).trans c5
          have T2 := nxt HT0.out T1
          clear T1 c0 c1 c2 c3 c4 c6
          go_wp2
          go_ret2
          exact ⟨rfl, T2⟩
        · have d4 : decide (room < 1) = false := by simpa using h4
          have d5 : decide (16 < room) = true := by simp; omega
          clear h h2 h1 h3 h4
          go_enter Try.func8, Try.ntmps8
          go_wp2_with (fail)
          refine (HK.out _).mono ?_
          rintro e w1 ⟨rfl, rfl⟩
          go_wp2_with (fail)
          refine (HN.out _).mono ?_
          rintro e w1 ⟨gt, X, rfl, -, -, T1⟩
          have c5 := (T1.cell (p := ⟨w.heap.size, 5, none⟩) HB.out).trans c5
          have T2 := nxt HT0.out T1
          clear T1 c0 c1 c2 c3 c4 c6
          go_wp2
          go_ret2
          exact ⟨rfl, T2⟩
      · exact absurd (if_neg h3) h
  · rw [if_pos h1]
    have d1 : (rgCheck cw cm cl != 0) = true := by simpa using h1
    generalize rgCheck cw cm cl = z at *
    clear h h1
    go_enter Try.func8, Try.ntmps8
    go_wp2_with (fail)
    refine (HK.out _).mono ?_
    rintro e w1 ⟨rfl, rfl⟩
    go_wp2
    go_ret2
    exact ⟨rfl, HT0.out⟩
set_option maxHeartbeats 4000000 in
theorem punew_yes (C : TmC T) (c : Cfg) (w : World) (h : puNew c = 0) :
    Calls Try.prog 8 #[cfgV c] w fun e w' => ∃ g X, e = .returned (.tuple #[.pointer (some ⟨g, 0, none⟩), .int .i64 0]) ∧ PuP T g ⟨c, [], 0, 0, []⟩ w' X ∧ (∀ k, X k → w.heap.size ≤ k) ∧ Below w.heap.size w w' := by
  have hok := puNew_ok h
  unfold cfgV
  obtain ⟨eng, cw, cm, cl, cb, room, beg⟩ := c
  have T0 := (Below.refl _ w).alloc (Nat.le_refl _) (.cells #[.int .i64 eng, .int .i64 cw, .int .i64 cm, .int .i64 cl, .int .i64 cb, .int .i64 room, .int .u64 (beg : Int)] 24)
  have hn := heap_alloc_new w (.cells #[.int .i64 eng, .int .i64 cw, .int .i64 cm, .int .i64 cl, .int .i64 cb, .int .i64 room, .int .u64 (beg : Int)] 24)
  have HK := Lib.hid (fun W => rgcheck_any cw cm cl W)
  have hz : rgCheck cw cm cl = 0 := by
    unfold puNew at h
    simp only at h
    by_cases e : rgCheck cw cm cl = 0
    · exact e
    · rw [if_pos e] at h; exact h
  rw [hz] at HK
  obtain ⟨k1, k2, k3, k4, k5⟩ := hok
  simp only at k4 k5
  have HN := Lib.hid (fun W => C.new_yes cb W k4.1 k4.2)
  have d4 : decide (room < 1) = false := by simp; omega
  have d5 : decide (16 < room) = false := by simp; omega
  have HT0 := Lib.hid T0
  have HH := Lib.hid hn
  clear hn T0 h hz k1 k2 k3 k4 k5
  have hr := HH.out
  obtain ⟨c0, c1, c2, c3, c4, c5, c6⟩ := row7 hr
  clear hr
  go_enter Try.func8, Try.ntmps8
  go_wp2_with (fail)
  refine (HK.out _).mono ?_
  rintro e w1 ⟨rfl, rfl⟩
  go_wp2_with (fail)
  refine (HN.out _).mono ?_
  rintro e w1 ⟨gt, Xt, rfl, q1, x1, T1⟩
  have Q1 := Lib.hid q1
  have hr := (T1.block _ (lt_row HH.out)).trans HH.out
  clear c0 c1 c2 c3 c4 c5 c6
  obtain ⟨c0, c1, c2, c3, c4, c5, c6⟩ := row7 hr
  have T2 := nxt HT0.out T1
  have hs0 := HT0.out.size
  clear q1 hr
  go_wp2
  go_ret2
  have hlt := (C.holds _ _ _).lt Q1.out
  have U1 := (Below.refl _ w1).alloc (Nat.le_refl _) (.cells (ecells none 0 0 gt ⟨⟨eng, cw, cm, cl, cb, room, beg⟩, [], 0, 0, []⟩) 78)
  have U2 := (Below.refl _ (w1.alloc (.cells (ecells none 0 0 gt ⟨⟨eng, cw, cm, cl, cb, room, beg⟩, [], 0, 0, []⟩) 78))).alloc (Nat.le_refl _) (.cells #[.pointer (some ⟨w1.heap.size, 0, none⟩)] 80)
  have hsz : (w1.alloc (.cells (ecells none 0 0 gt ⟨⟨eng, cw, cm, cl, cb, room, beg⟩, [], 0, 0, []⟩) 78)).heap.size = w1.heap.size + 1 := by simp
  have hE : EnV T w1.heap.size gt none 0 0 [] ⟨⟨eng, cw, cm, cl, cb, room, beg⟩, [], 0, 0, []⟩ 0 Xt (fun _ => False) (w1.alloc (.cells (ecells none 0 0 gt ⟨⟨eng, cw, cm, cl, cb, room, beg⟩, [], 0, 0, []⟩) 78)) :=
    ⟨heap_alloc_new _ _, (C.holds _ _ _).below Q1.out U1, Row.nil _, rfl, fun j hj => absurd hj (Nat.not_lt_zero _), fun _ h => h.elim, fun h => by have := hlt _ h; omega, fun h => h, fun _ h => h.elim, fun h => absurd h.1 (Nat.lt_irrefl 0), fun _ h => absurd h.1 (Nat.lt_irrefl 0), fun _ h => absurd h.1 (Nat.lt_irrefl 0)⟩
  have hg := heap_alloc_new (w1.alloc (.cells (ecells none 0 0 gt ⟨⟨eng, cw, cm, cl, cb, room, beg⟩, [], 0, 0, []⟩) 78)) (.cells #[.pointer (some ⟨w1.heap.size, 0, none⟩)] 80)
  rw [hsz] at hg
  have hE2 := hE.below C U2
  have hEl := hE.lt C
  refine ⟨w1.heap.size + 1, _, rfl, ⟨w1.heap.size, _, hg, ⟨gt, none, 0, 0, [], Xt, _, hE2, rfl⟩, fun hk => by have := hEl _ hk; omega, rfl⟩, fun k hk => ?_, (nxt T2 U1).alloc (by have := T2.size; omega) _⟩
  have hw1 := T2.size
  rcases hk with rfl | rfl | hk | hk | hk
  · omega
  · omega
  · have := x1 k hk; omega
  · exact hk.elim
  · exact absurd hk.1 (Nat.lt_irrefl 0)
end
/-- bytes.Join of one part -/
theorem pubjoin_any (A : Option Addr) (n c b : Nat) (l : List UInt8) (w : World) (hc : w.cell? ⟨b, 0, none⟩ = some (.slice A n c)) (hB : Bys w A n c l) (hn : n ≤ 140737488355328) :
    Calls Try.prog 56 #[.slice (some ⟨b, 0, none⟩) 1 1, .slice none 0 0] w (GivesW w l) := by
  have HB := Lib.hid hB
  have HL := Lib.hid hB.len
  clear hB
  go_enter Try.func56, Try.ntmps56
  go_wp2_with ((with_reducible refine app_bys _ rfl (.const (.slice none 0 0)) (.tmp 21) rfl w.heap.size (.slice none 0 0) 0 [] rfl ?_ A n c l rfl ?_ ?_ ?_ ?_); (exact World.ownsRow_nil _ _ _ _); (exact HB.out); (omega); (exact Nat.le_refl _); intro v1 w1 hown1 hgrow1 hwhere1)
  go_ret
  simp only [Nat.zero_add, List.nil_append] at hown1
  refine ⟨_, rfl, ?_, (Below.refl _ w).grown hgrow1 (by simp) (by intro k hk; simp [Value.ownBlock] at hk)⟩
  rw [HL.out]
  exact hown1
theorem puojoin_any (A : Option Addr) (n c b : Nat) (l : List UInt8) (w : World) (hc : w.cell? ⟨b, 0, none⟩ = some (.slice A n c)) (hB : Bys w A n c l) (hn : n ≤ 140737488355328) :
    Calls Try.prog 45 #[.slice (some ⟨b, 0, none⟩) 1 1] w (GivesW w l) := by
  have H := Lib.hid (pubjoin_any A n c b l w hc hB hn)
  clear hc hB hn
  go_enter Try.func45, Try.ntmps45
  go_wp2_with (fail)
  refine H.out.mono ?_
  rintro e w1 ⟨v, rfl, hv, T1⟩
  obtain ⟨A1, c1, rfl⟩ := own_shape hv
  have HV := Lib.hid hv
  clear hv H
  go_wp2
  go_ret
  exact ⟨_, rfl, HV.out, T1⟩
end Go.Proofs.Ytncpabnmdofomaa
