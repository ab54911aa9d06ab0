/- What kedgeref20's Take answers. -/
import Derived.Test.YtepmecmhnefhkaaRca2
import Derived.Deep.QuietTactic
import Derived.BigQuiet
namespace Go.Proofs.Ytepmecmhnefhkaa
open Go.RowKit
set_option maxRecDepth 20000

theorem prb_rows {w : World} {k lb : Int} {v : Value} : (w.alloc (.cells #[.int .i64 k, .int .i64 lb, v] 36)).heap[w.heap.size]? = some (.cells #[.int .i64 k, .int .i64 lb, v] 36 (0, 0)) := heap_alloc_new w _
set_option maxHeartbeats 4000000 in
theorem rctake_ask (g gq gl : Nat) (s : Cs) (Xq : Nat → Prop) (lb : Int) (A : Option Addr) (n c : Nat) (w : World) (h : RCv g gq gl s Xq w) (hok : CaOk s) :
    Calls Try.prog 16 #[.pointer (some ⟨g, 0, none⟩), .agg #[.int .i64 0, .int .i64 lb, .slice A n c]] w (GivesPks (RCa g s) (Al g gl Xq) (caTakeL s 0) w) := by
  have T0 := (Below.refl _ w).alloc (Nat.le_refl _) (.cells #[.int .i64 0, .int .i64 lb, .slice A n c] 36)
  have h1 := h.below T0
  have HAT := Lib.hid (rqat_any gq s.room s.ls 0 _ Xq h1.2.1)
  have HR := Lib.hid h
  have hd6 : s.done ≤ 1000000 := hok.2.2.2.2.1
  obtain ⟨c0, c1, c2, c3, c4, -⟩ := h1.cells
  have HT0 := Lib.hid T0
  by_cases h0 : s.ls = []
  · have H1 : Hid (caTakeL s 0 = [(2, 0, [])]) := by show _ = _; unfold caTakeL; rw [if_pos rfl, if_pos h0]
    have e0 : decide ((0 : Int) ≤ 0 ∧ (0 : Int) < (s.ls.length : Int)) = false := by rw [h0]; decide
    rw [e0] at HAT
    clear h hok h0 h1 e0 T0
    go_enter Try.func16, Try.ntmps16
    go_wp2_with (fail)
    refine HAT.out.mono ?_
    rintro e w1 ⟨A1, n1, k1, rfl, -, T1⟩
    have U1 := nxt HT0.out T1
    go_wp2
    go_ret
    rw [H1.out]
    have T2 := (Below.refl _ w1).alloc (Nat.le_refl _) (.cells #[.int .i64 2, .int .i64 0, .slice none 0 0] 36)
    have U2 := nxt U1 T2
    have hs := U1.size
    refine ⟨_, _, _, Al g gl Xq, rfl, Pks.one (Bys.nil _) (Av.none _ _) (fun hk => ?_), ⟨gq, gl, Xq, HR.out.below U2, rfl⟩, Turns.of_below U2⟩
    rcases hk with hk | hk
    · have := HR.out.lt _ hk; omega
    · omega
  · have H1 : Hid (caTakeL s 0 = [(3, ((s.done % 2 : Nat) : Int), s.ls.headD [])]) := by show _ = _; unfold caTakeL; rw [if_pos rfl, if_neg h0]
    have hl0 : 0 < s.ls.length := by
      rcases Nat.eq_zero_or_pos s.ls.length with e | e
      · exact absurd (List.eq_nil_of_length_eq_zero e) h0
      · exact e
    have e0 : decide ((0 : Int) ≤ 0 ∧ (0 : Int) < (s.ls.length : Int)) = true := by simp; omega
    have e1 : (if (0 : Int) ≤ 0 ∧ (0 : Int) < (s.ls.length : Int) then s.ls.getD (0 : Int).toNat [] else []) = s.ls.headD [] := by
      rw [if_pos ⟨by omega, by omega⟩]
      cases h9 : s.ls with
      | nil => exact absurd h9 h0
      | cons a r => rfl
    rw [e0, e1] at HAT
    have em : (s.done : Int) % 2 = ((s.done % 2 : Nat) : Int) := by omega
    have emt : (s.done : Int).tmod 2 = ((s.done % 2 : Nat) : Int) := by rw [Int.tmod_eq_emod_of_nonneg (by omega)]; omega
    obtain ⟨dm, hdm⟩ : ∃ dm, s.done % 2 = dm := ⟨_, rfl⟩
    rw [hdm] at em emt H1
    generalize s.ls.headD [] = t at *
    clear h hok h0 h1 e0 e1 hl0 T0 hdm
    go_enter Try.func16, Try.ntmps16
    go_wp2_with (fail)
    refine HAT.out.mono ?_
    rintro e w1 ⟨A1, n1, k1, rfl, f1, T1⟩
    have U1 := nxt HT0.out T1
    have c3 := (T1.cell (p := ⟨g, 3, none⟩) (lt_row (HR.out.below HT0.out).1)).trans c3
    have HF1 := Lib.hid f1
    clear f1 c0 c1 c2 c4 T1
    go_wp2
    go_ret
    rw [H1.out]
    have hs0 : (w.alloc (.cells #[.int .i64 0, .int .i64 lb, .slice A n c] 36)).heap.size = w.heap.size + 1 := by simp
    have T2 := (Below.refl _ w1).alloc (Nat.le_refl _) (.cells #[.int .i64 3, .int .i64 (dm : Int), .slice A1 n1 k1] 36)
    have U2 := nxt U1 T2
    have hs := U1.size
    have lowA : ∀ k, (Al g gl Xq k ∨ k < w.heap.size) → k < w.heap.size := fun k hk => hk.elim (fun h => HR.out.lt _ h) id
    refine ⟨_, _, _, Al g gl Xq, rfl, Pks.one HF1.out.bys (HF1.out.2.1.imp (fun k hk => by have := lowA k hk; omega)) (fun hk => ?_), ⟨gq, gl, Xq, HR.out.below U2, rfl⟩, Turns.of_below U2⟩
    have := lowA _ hk
    omega
set_option maxHeartbeats 4000000 in
theorem rctake_oth (g gq gl : Nat) (s : Cs) (Xq : Nat → Prop) (kd lb : Int) (A : Option Addr) (n c : Nat) (w : World) (h : RCv g gq gl s Xq w) (h0 : kd ≠ 0) (h4 : kd ≠ 4) :
    Calls Try.prog 16 #[.pointer (some ⟨g, 0, none⟩), .agg #[.int .i64 kd, .int .i64 lb, .slice A n c]] w (GivesPks (RCa g s) (Al g gl Xq) [] w) := by
  have T0 := (Below.refl _ w).alloc (Nat.le_refl _) (.cells #[.int .i64 kd, .int .i64 lb, .slice A n c] 36)
  have HR := Lib.hid (h.below T0)
  have HT0 := Lib.hid T0
  obtain ⟨p0, p1, p2, -, -, -⟩ := row3 (prb_rows (w := w) (k := kd) (lb := lb) (v := .slice A n c))
  have d0 : (kd == 0) = false := by simpa using h0
  have d4 : (kd != 4) = true := by simpa using h4
  clear h h0 h4 T0
  go_enter Try.func16, Try.ntmps16
  go_wp2_with (fail)
  go_quiet (fail)
  go_wp2
  go_ret
  have U := HT0.out
  have U2 := below_drewN' U nq
  exact ⟨_, _, _, Al g gl Xq, rfl, Pks.nil _ _, ⟨gq, gl, Xq, HR.out.below (below_drewN' (Below.refl _ _) nq), rfl⟩, Turns.of_below U2⟩
set_option maxHeartbeats 8000000 in
theorem rctake_ack (g gq gl : Nat) (s : Cs) (Xq : Nat → Prop) (lb : Int) (A : Option Addr) (n c : Nat) (w : World) (h : RCv g gq gl s Xq w) (hok : CaOk s) (hacks : s.acks < 1000000) :
    Calls Try.prog 16 #[.pointer (some ⟨g, 0, none⟩), .agg #[.int .i64 4, .int .i64 lb, .slice A n c]] w (GivesPks (RCa g (caAck s lb)) (Al g gl Xq) [] w) := by
  have T0 := (Below.refl _ w).alloc (Nat.le_refl _) (.cells #[.int .i64 4, .int .i64 lb, .slice A n c] 36)
  have h1 := h.below T0
  have hn := heap_alloc_new w (.cells #[.int .i64 4, .int .i64 lb, .slice A n c] 36)
  have hlt := h.lt
  have HT0 := Lib.hid T0
  have hPk : ¬ Al g gl Xq w.heap.size := fun e => by have := hlt _ e; omega
  clear T0 h
  obtain ⟨pb, hpb⟩ : ∃ pb, w.heap.size = pb := ⟨_, rfl⟩
  rw [hpb] at hn hPk
  have hw0 : (w.alloc (.cells #[.int .i64 4, .int .i64 lb, .slice A n c] 36)).heap.size = pb + 1 := by rw [← hpb]; simp
  have HPB := Lib.hid hpb
  obtain ⟨c0, c1, c2, c3, c4, -⟩ := h1.cells
  obtain ⟨P, pc, hp1, hp2, cq⟩ := rq_len h1.2.1
  obtain ⟨p0, p1, -, -, -, -⟩ := row3 hn
  have hgl : gl ≠ pb := fun e => hPk (.inr (.inl e.symm))
  generalize hW : w.alloc (.cells #[.int .i64 4, .int .i64 lb, .slice A n c] 36) = W0 at *
  have P0 := Below.refl W0.heap.size W0
  have HH := Lib.hid (fun W (U : Below W0.heap.size W0 W) => rlhear_any gl s.o s.k W hok.2.1 (h1.below U).2.2.1)
  have HRL := Lib.hid (fun W (U : Below W0.heap.size W0 W) w2 (l2 : LRow w2 gl (ldHear s.o) s.k) (O2 : Off (· = gl) W w2) =>
    have q := (h1.below U).l l2 O2
    have t : Turns (Al g gl Xq) (Al g gl Xq) W0 w2 := (Turns.of_below U).trans q.2
    And.intro q.1 (And.intro t ((t.off.block pb (by omega) hPk).trans hn)))
  have HW := Lib.hid hW
  have hd6 : s.done ≤ 1000000 := hok.2.2.2.2.1
  have em : (s.done : Int) % 2 = ((s.done % 2 : Nat) : Int) := by omega
  have emt : (s.done : Int).tmod 2 = ((s.done % 2 : Nat) : Int) := by rw [Int.tmod_eq_emod_of_nonneg (by omega)]; omega
  have ho2 : ldHear s.o < 18446744073709551616 := ldHear_lt hok.2.1
  obtain ⟨dm, hdm⟩ : ∃ dm, s.done % 2 = dm := ⟨_, rfl⟩
  rw [hdm] at em emt
  have hGiv : ∀ (w4 : World) (s' : Cs) (Xq' : Nat → Prop), RCv g gq gl s' Xq' w4 → Turns (Al g gl Xq) (Al g gl Xq') W0 w4 → GivesPks (RCa g s') (Al g gl Xq) [] w (.returned (.slice none 0 0)) w4 := fun _ _ _ R t =>
    ⟨_, _, _, _, rfl, Pks.nil _ _, ⟨gq, gl, _, R, rfl⟩, ⟨(Off.of_below HT0.out).trans t.off, fun k hk => (t.grow k hk).imp id (fun h => by omega)⟩⟩
  have HG := Lib.hid hGiv
  have hqc : gq ≠ gl := fun e => h1.2.2.2.2.2 (e ▸ h1.2.1.1)
  have KO : Hid (∀ w2, RCv g gq gl { s with o := ldHear s.o, k := s.k } Xq w2 → w2.heap[pb]? = some (.cells #[.int .i64 4, .int .i64 lb, .slice A n c] 36 (0, 0)) → w2.cell? ⟨gq, 1, none⟩ = some (.slice P s.ls.length pc) → (w2.cell? ⟨pb, 0, none⟩ = some (.int .i64 4) ∧ w2.cell? ⟨pb, 1, none⟩ = some (.int .i64 lb)) ∧ (w2.cell? ⟨g, 0, none⟩ = some (.pointer (some ⟨gq, 0, none⟩)) ∧ w2.cell? ⟨g, 1, none⟩ = some (.pointer (some ⟨gl, 0, none⟩)) ∧ w2.cell? ⟨g, 3, none⟩ = some (.int .i64 (s.done : Int))) ∧ w2.cell? ⟨gq, 1, none⟩ = some (.slice P s.ls.length pc)) := fun w2 R hp hq => by
    obtain ⟨q0, q1, -, -, -, -⟩ := row3 hp
    exact ⟨⟨q0, q1⟩, ⟨R.cells.1, R.cells.2.1, R.cells.2.2.2.1⟩, hq⟩
  have hgqw : gq < W0.heap.size := (RQ.holds _ _ _).lt h1.2.1 _ h1.2.1.1
  have K : Hid ((W0.cell? ⟨pb, 0, none⟩ = some (.int .i64 4) ∧ W0.cell? ⟨pb, 1, none⟩ = some (.int .i64 lb)) ∧ (W0.cell? ⟨g, 0, none⟩ = some (.pointer (some ⟨gq, 0, none⟩)) ∧ W0.cell? ⟨g, 1, none⟩ = some (.pointer (some ⟨gl, 0, none⟩)) ∧ W0.cell? ⟨g, 3, none⟩ = some (.int .i64 (s.done : Int))) ∧ W0.cell? ⟨gq, 1, none⟩ = some (.slice P s.ls.length pc)) := ⟨⟨p0, p1⟩, ⟨c0, c1, c3⟩, cq⟩
  clear hlt hn hgl hw0 hGiv h1
  obtain ⟨N, hN⟩ : ∃ N, s.ls.length = N := ⟨_, rfl⟩
  rw [hN] at cq hp1 K KO
  by_cases hc : ldCan s.o = true ∧ s.ls ≠ []
  · obtain ⟨hc, h0⟩ := hc
    have hl0 : ((N : Int) == 0) = false := by
      have : s.ls.length ≠ 0 := fun e => h0 (List.eq_nil_of_length_eq_zero e)
      simp; omega
    rw [hc] at HH
    by_cases hlb : lb = (dm : Int)
    · subst hlb
      have dlb : ((dm : Int) != (dm : Int)) = false := by simp
      obtain ⟨a, ha⟩ : ∃ a, s.acks + 1 = a := ⟨_, rfl⟩
      have hwa : IntKind.u64.wrap ((s.acks : Int) + 1) = (a : Int) := by rw [← ha]; exact IntWalk.u64_in _ (by omega)
      have ha6 : a ≤ 1000000 := by omega
      obtain ⟨dn, hdn⟩ : ∃ dn, s.done + 1 = dn := ⟨_, rfl⟩
      have edn : (s.done : Int) + 1 = (dn : Int) := by omega
      have hdn6 : dn ≤ 1000001 := by omega
      have hcond : ldCan s.o = true ∧ s.ls ≠ [] ∧ (dm : Int) = ((s.done % 2 : Nat) : Int) := ⟨hc, h0, by rw [hdm]⟩
      have hS0 : ldEnough (ldHear s.o) s.k a = false → caAck s (dm : Int) = { s with o := ldHear s.o, acks := a } := fun e => by unfold caAck; rw [if_pos hcond, ha, if_neg (by rw [e]; simp)]
      have hS1 : ldEnough (ldHear s.o) s.k a = true → s.ls.tail = [] → caAck s (dm : Int) = { s with o := ldHear s.o, ls := s.ls.tail, done := dn, acks := a } := fun e e2 => by unfold caAck; rw [if_pos hcond, ha, if_pos e, if_pos e2, hdn]
      have hS2 : ldEnough (ldHear s.o) s.k a = true → s.ls.tail ≠ [] → caAck s (dm : Int) = caNext { s with o := ldHear s.o, ls := s.ls.tail, done := dn, acks := a } := fun e e2 => by unfold caAck; rw [if_pos hcond, ha, if_pos e, if_neg e2, hdn]
      have HS0 := Lib.hid hS0
      have HS1 := Lib.hid hS1
      have HS2 := Lib.hid hS2
      have HACK := Lib.hid (fun w2 (R : RCv g gq gl { s with o := ldHear s.o, k := s.k } Xq w2) => R.c (s' := { s with o := ldHear s.o, acks := a }) 4 (.int .u64 (a : Int)) rfl rfl rfl rfl rfl)
      have HNX := Lib.hid (fun Xq' w1 (h1 : RCv g gq gl { s with o := ldHear s.o, ls := s.ls.tail, done := dn, acks := a } Xq' w1) => rcnext_any g gq gl _ Xq' w1 h1 ho2)
      clear hc hok hN hdm h0 hS0 hS1 hS2 hcond ha hdn hacks
      go_enter Try.func16, Try.ntmps16
      go_wp2_with (fail)
      clear hW hpb
      go_region_held3 (fun w' => (w'.cell? ⟨pb, 0, none⟩ = some (.int .i64 4) ∧ w'.cell? ⟨pb, 1, none⟩ = some (.int .i64 (dm : Int))) ∧ (w'.cell? ⟨g, 0, none⟩ = some (.pointer (some ⟨gq, 0, none⟩)) ∧ w'.cell? ⟨g, 1, none⟩ = some (.pointer (some ⟨gl, 0, none⟩)) ∧ w'.cell? ⟨g, 3, none⟩ = some (.int .i64 (s.done : Int))) ∧ w'.cell? ⟨gq, 1, none⟩ = some (Value.slice P N pc)) (first | exact K.out | exact K2.out)
        (first
          | (go_at_call 35; (with_reducible refine (HH.out _ (by first | exact P0 | exact P0.drew)).mono ?_); rintro e w2 ⟨rfl, l2, O2⟩; have HL2 := Lib.hid (HRL.out _ (by first | exact P0 | exact P0.drew) _ l2 O2); have K2 := Lib.hid (KO.out _ HL2.out.1 HL2.out.2.2 ((O2.cell (p := ⟨gq, 1, none⟩) hgqw hqc).trans cq))))
      all_goals
        have R2 := HL2.out.1
        have T2 := Lib.hid HL2.out.2.1
        obtain ⟨b0, b1, b2, b3, b4, bfz⟩ := R2.cells
        have bf4 := bfz 4
        have HA := Lib.hid (HACK.out _ R2)
        clear R2 cq c0 c1 c2 c3 c4 p0 p1 l2 O2 K2 bfz b0 b1 b2 b3
        go_wp2_with (fail)
        generalize w2.setCell ⟨g, 4, none⟩ (.int .u64 (a : Int)) = W3 at *
        have R3 := HA.out.1
        obtain ⟨d0, d1, d2, d3, d4, dfz⟩ := R3.cells
        have df3 := dfz 3
        have dd3 : W3.cell? ⟨g, 3, none⟩ = some (.int .i64 (s.done : Int)) := d3
        have HT3 := Lib.hid (T2.out.trans HA.out.2)
        have HEN := Lib.hid (fun k => (rlenough_any gl (ldHear s.o) s.k a (W3.drewN k) (show LRow (W3.drewN k) gl _ _ from R3.2.2.1)).mono (fun _ _ ⟨h1, h2⟩ => And.intro h1 h2.symm))
        have HPOP := Lib.hid (fun k => rqpop_any gq s.room s.ls (W3.drewN k) Xq (show RQ gq s.room s.ls (W3.drewN k) Xq from R3.2.1))
        have HR3 := Lib.hid (fun k => R3.below (below_drewN' (Below.refl W3.heap.size W3) k))
        have HU3 := Lib.hid (fun k => HT3.out.next (below_drewN' (Below.refl W3.heap.size W3) k))
        clear R3 d2 d3 dfz b4 bf4
        cases hen : ldEnough (ldHear s.o) s.k a with
        | false =>
          rw [hen] at HEN
          have HS := Lib.hid (HS0.out hen)
          clear hen
          go_quiet ((go_at_call 36; refine Calls.quiet_of_same (HEN.out _)))
          go_wp2
          go_ret
          rw [HS.out]
          exact HG.out _ _ _ (HR3.out nq) (HU3.out nq)
        | true =>
          rw [hen] at HEN
          have HS1 := Lib.hid (HS1.out hen)
          have HS2 := Lib.hid (HS2.out hen)
          clear hen
          go_quiet ((go_at_call 36; refine Calls.quiet_of_same (HEN.out _)))
          go_wp2_with (fail)
          refine (HPOP.out nq).mono ?_
          rintro e w5 ⟨A5, n5, c5, Xq5, rfl, -, q5, t5, -⟩
          obtain ⟨R5, k5⟩ := (HR3.out nq).q q5 t5
          obtain ⟨P5, pc5, hp5, hp6, cq5⟩ := rq_len q5
          have e3 : w5.cell? ⟨g, 3, none⟩ = some (.int .i64 (s.done : Int)) := R5.cells.2.2.2.1
          have e0 := R5.cells.1
          have ef3 := R5.cells.2.2.2.2.2 3
          have HB := Lib.hid (R5.c (s' := { s with o := ldHear s.o, ls := s.ls.tail, done := dn, acks := a }) 3 (.int .i64 (dn : Int)) rfl rfl rfl rfl rfl)
          have HK5 := Lib.hid ((HU3.out nq).trans k5)
          have hgq5 : gq ≠ g := fun e => R5.2.2.2.2.1 (e ▸ R5.2.1.1)
          obtain ⟨N5, hN5⟩ : ∃ N5, s.ls.tail.length = N5 := ⟨_, rfl⟩
          rw [hN5] at cq5 hp5
          clear q5 t5 R5 k5 d0 d1 d4 df3 dd3
          by_cases h5 : s.ls.tail = []
          · have hN0 : decide ((0 : Int) < (N5 : Int)) = false := by rw [← hN5, h5]; rfl
            have hN0' : decide (0 < N5) = false := by rw [← hN5, h5]; rfl
            have HS := Lib.hid (HS1.out h5)
            clear h5 hN5
            go_wp2
            go_ret
            rw [HS.out]
            exact HG.out _ _ _ HB.out.1 (HK5.out.trans HB.out.2)
          · have hpos : 0 < N5 := by
              rcases Nat.eq_zero_or_pos N5 with e | e
              · exact absurd (List.eq_nil_of_length_eq_zero (hN5.trans e)) h5
              · exact e
            have hN0 : decide ((0 : Int) < (N5 : Int)) = true := by simp; omega
            have hN0' : decide (0 < N5) = true := by simp; omega
            have HS := Lib.hid (HS2.out h5)
            clear h5 hN5
            go_wp2_with (fail)
            refine (HNX.out _ _ HB.out.1).mono ?_
            rintro e w6 ⟨rfl, R6, k6⟩
            have HE6 := Lib.hid (And.intro R6 k6)
            clear R6 k6
            go_wp2
            go_ret
            rw [HS.out]
            exact HG.out _ _ _ HE6.out.1 ((HK5.out.trans HB.out.2).trans HE6.out.2)
    · have hS : caAck s lb = { s with o := ldHear s.o } := by unfold caAck; rw [if_neg (fun e => hlb (by rw [e.2.2, hdm]))]
      have HS := Lib.hid hS
      have dlb : (lb != (dm : Int)) = true := by simpa using hlb
      clear hc hok hN hdm h0 hlb hS
      go_enter Try.func16, Try.ntmps16
      go_wp2_with (fail)
      clear hW hpb
      go_region_held3 (fun w' => (w'.cell? ⟨pb, 0, none⟩ = some (.int .i64 4) ∧ w'.cell? ⟨pb, 1, none⟩ = some (.int .i64 lb)) ∧ (w'.cell? ⟨g, 0, none⟩ = some (.pointer (some ⟨gq, 0, none⟩)) ∧ w'.cell? ⟨g, 1, none⟩ = some (.pointer (some ⟨gl, 0, none⟩)) ∧ w'.cell? ⟨g, 3, none⟩ = some (.int .i64 (s.done : Int))) ∧ w'.cell? ⟨gq, 1, none⟩ = some (Value.slice P N pc)) (first | exact K.out | exact K2.out)
        (first
          | (go_at_call 35; (with_reducible refine (HH.out _ (by first | exact P0 | exact P0.drew)).mono ?_); rintro e w2 ⟨rfl, l2, O2⟩; have HL2 := Lib.hid (HRL.out _ (by first | exact P0 | exact P0.drew) _ l2 O2); have K2 := Lib.hid (KO.out _ HL2.out.1 HL2.out.2.2 ((O2.cell (p := ⟨gq, 1, none⟩) hgqw hqc).trans cq))))
      all_goals
        clear cq c0 c1 c2 c3 c4 p0 p1
        go_wp2
        go_ret
        rw [HS.out]
        exact HG.out _ _ _ HL2.out.1 HL2.out.2.1
  · have hS : caAck s lb = { s with o := ldHear s.o } := by unfold caAck; rw [if_neg (fun e => hc ⟨e.1, e.2.1⟩)]
    have HS := Lib.hid hS
    clear hS
    cases hcc : ldCan s.o with
    | false =>
      rw [hcc] at HH
      clear hcc hc hok hN hdm em emt
      go_enter Try.func16, Try.ntmps16
      go_wp2_with (fail)
      clear hW hpb
      (first | go_region_with ((go_at_call 35; (with_reducible refine (HH.out _ (by first | exact P0 | exact P0.drew)).mono ?_); rintro e w2 ⟨rfl, l2, O2⟩; have HL2 := Lib.hid (HRL.out _ (by first | exact P0 | exact P0.drew) _ l2 O2); obtain ⟨⟨r0, r1⟩, ⟨t0, t1, t3⟩, tq⟩ := KO.out _ HL2.out.1 HL2.out.2.2 ((O2.cell (p := ⟨gq, 1, none⟩) hgqw hqc).trans cq))) | fail)
      all_goals
        clear cq c0 c1 c2 c3 c4 p0 p1
        go_wp2
        go_ret
        rw [HS.out]
        exact HG.out _ _ _ HL2.out.1 HL2.out.2.1
    | true =>
      have h0 : N = 0 := by
        rcases Nat.eq_zero_or_pos N with e | e
        · exact e
        · exact absurd ⟨hcc, fun h => by rw [h] at hN; simp at hN; omega⟩ hc
      subst h0
      rw [hcc] at HH
      clear hcc hc hok hN hdm em emt
      go_enter Try.func16, Try.ntmps16
      go_wp2_with (fail)
      clear hW hpb
      (first | go_region_with ((go_at_call 35; (with_reducible refine (HH.out _ (by first | exact P0 | exact P0.drew)).mono ?_); rintro e w2 ⟨rfl, l2, O2⟩; have HL2 := Lib.hid (HRL.out _ (by first | exact P0 | exact P0.drew) _ l2 O2); obtain ⟨⟨r0, r1⟩, ⟨t0, t1, t3⟩, tq⟩ := KO.out _ HL2.out.1 HL2.out.2.2 ((O2.cell (p := ⟨gq, 1, none⟩) hgqw hqc).trans cq))) | fail)
      all_goals
        clear cq c0 c1 c2 c3 c4 p0 p1
        go_wp2
        go_ret
        rw [HS.out]
        exact HG.out _ _ _ HL2.out.1 HL2.out.2.1
theorem rctake_any (g gq gl : Nat) (s : Cs) (Xq : Nat → Prop) (kd lb : Int) (A : Option Addr) (n c : Nat) (w : World) (h : RCv g gq gl s Xq w) (hok : CaOk s) (hacks : s.acks < 1000000) :
    Calls Try.prog 16 #[.pointer (some ⟨g, 0, none⟩), .agg #[.int .i64 kd, .int .i64 lb, .slice A n c]] w (GivesPks (RCa g (caTake s kd lb)) (Al g gl Xq) (caTakeL s kd) w) := by
  by_cases h0 : kd = 0
  · subst h0
    have e : caTake s 0 lb = s := by unfold caTake; rw [if_neg (by omega)]
    rw [e]
    exact rctake_ask g gq gl s Xq lb A n c w h hok
  · have eL : caTakeL s kd = [] := by unfold caTakeL; rw [if_neg h0]
    rw [eL]
    by_cases h4 : kd = 4
    · subst h4
      have e : caTake s 4 lb = caAck s lb := by unfold caTake; rw [if_pos rfl]
      rw [e]
      exact rctake_ack g gq gl s Xq lb A n c w h hok hacks
    · have e : caTake s kd lb = s := by unfold caTake; rw [if_neg h4]
      rw [e]
      exact rctake_oth g gq gl s Xq kd lb A n c w h h0 h4
end Go.Proofs.Ytepmecmhnefhkaa
