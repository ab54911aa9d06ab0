/- Package caller, as landed: what an answer that is heard does. -/
import Derived.Test.YtepmecmhnefhkaaCaK2
namespace Go.Proofs.Ytepmecmhnefhkaa
open Go.RowKit
set_option maxRecDepth 20000

set_option maxHeartbeats 4000000 in
theorem caanswered_any (ge gq gl : Nat) (s : Cs) (Xq : Nat → Prop) (lb : Int) (w : World) (h : CeV ge gq gl s Xq w) (hok : CaOk s) (hacks : s.acks < 1000000) :
    Calls Try.prog 50 #[.pointer (some ⟨ge, 0, none⟩), .int .i64 lb] w fun e w' => e = .returned (.tuple #[]) ∧ ∃ Xq', CeV ge gq gl (caAck s lb) Xq' w' ∧ Turns (Al ge gl Xq) (Al ge gl Xq') w w' := by
  obtain ⟨c0, c1, c2, c3, -⟩ := h.cells
  have HH := Lib.hid (ldhear_any gl s.o s.k w hok.2.1 h.2.2.1)
  have HR := Lib.hid h
  have hd6 : s.done ≤ 1000000 := hok.2.2.2.2.1
  have ho2 : ldHear s.o < 18446744073709551616 := ldHear_lt hok.2.1
  have HC : Hid (∀ w1, CeV ge gq gl { s with o := ldHear s.o, k := s.k } Xq w1 → w1.cell? ⟨ge, 0, none⟩ = some (.pointer (some ⟨gq, 0, none⟩)) ∧ w1.cell? ⟨ge, 1, none⟩ = some (.pointer (some ⟨gl, 0, none⟩)) ∧ w1.cell? ⟨ge, 2, none⟩ = some (.int .i64 (s.done : Int)) ∧ w1.cell? ⟨ge, 3, none⟩ = some (.int .u64 (s.acks : Int)) ∧ ∀ j, w1.frozen? ⟨ge, j, none⟩ = false) := fun w1 h1 => h1.cells
  have HLN : Hid (∀ w1, CeV ge gq gl { s with o := ldHear s.o, k := s.k } Xq w1 → Calls Try.prog 30 #[.pointer (some ⟨gq, 0, none⟩)] w1 fun e w' => e = .returned (.int .i64 (s.ls.length : Int)) ∧ w1 = w') := fun w1 h1 => qulen_any gq s.ls.length w1 h1.qlen
  have HLB : Hid (∀ w1, CeV ge gq gl { s with o := ldHear s.o, k := s.k } Xq w1 → Calls Try.prog 48 #[.pointer (some ⟨ge, 0, none⟩)] w1 fun e w' => e = .returned (.int .i64 ((s.done % 2 : Nat) : Int)) ∧ w1 = w') := fun w1 h1 => calabel_any ge s.done w1 h1.cells.2.2.1
  clear h
  cases hc : ldCan s.o with
  | false =>
    have HS : Hid (caAck s lb = { s with o := ldHear s.o }) := by show _ = _; unfold caAck; rw [if_neg (fun e => by rw [hc] at e; cases e.1)]
    rw [hc] at HH
    clear hok hc
    go_enter Try.func50, Try.ntmps50
    go_wp2_with (fail)
    refine HH.out.mono ?_
    rintro e w1 ⟨rfl, l1, O1⟩
    have HE := Lib.hid (HR.out.l l1 O1)
    clear l1 O1
    go_wp2
    refine bodyPost_ret (results_none rfl _ _ _) rfl ?_
    exact ⟨rfl, Xq, by rw [HS.out]; exact HE.out.1, HE.out.2⟩
  | true =>
    rw [hc] at HH
    by_cases h0 : s.ls = []
    · have HS : Hid (caAck s lb = { s with o := ldHear s.o }) := by show _ = _; unfold caAck; rw [if_neg (fun e => e.2.1 h0)]
      have hl0 : s.ls.length = 0 := by rw [h0]; rfl
      rw [hl0] at HLN
      clear hok hc h0 hl0
      go_enter Try.func50, Try.ntmps50
      go_wp2_with (fail)
      refine HH.out.mono ?_
      rintro e w1 ⟨rfl, l1, O1⟩
      have HE := Lib.hid (HR.out.l l1 O1)
      obtain ⟨d0, d1, d2, d3, -⟩ := HC.out _ HE.out.1
      clear l1 O1 c0 c1 c2 c3
      go_wp2_with (fail)
      refine (HLN.out _ HE.out.1).mono ?_
      rintro e w2 ⟨rfl, rfl⟩
      go_wp2
      refine bodyPost_ret (results_none rfl _ _ _) rfl ?_
      exact ⟨rfl, Xq, by rw [HS.out]; exact HE.out.1, HE.out.2⟩
    · have hl0 : ((s.ls.length : Int) == 0) = false := by
        have : s.ls.length ≠ 0 := fun e => h0 (List.eq_nil_of_length_eq_zero e)
        simp; omega
      by_cases hlb : lb = ((s.done % 2 : Nat) : Int)
      · obtain ⟨a, ha⟩ : ∃ a, s.acks + 1 = a := ⟨_, rfl⟩
        have hwa : IntKind.u64.wrap ((s.acks : Int) + 1) = (a : Int) := by rw [← ha]; exact IntWalk.u64_in _ (by omega)
        obtain ⟨dn, hdn⟩ : ∃ dn, s.done + 1 = dn := ⟨_, rfl⟩
        have edn : (s.done : Int) + 1 = (dn : Int) := by omega
        have hdn6 : dn ≤ 1000001 := by omega
        have hcond : ldCan s.o = true ∧ s.ls ≠ [] ∧ lb = ((s.done % 2 : Nat) : Int) := ⟨hc, h0, hlb⟩
        have HS0 : Hid (ldEnough (ldHear s.o) s.k a = false → caAck s lb = { s with o := ldHear s.o, acks := a }) := fun e => by unfold caAck; rw [if_pos hcond, ha, if_neg (by rw [e]; simp)]
        have HS1 : Hid (ldEnough (ldHear s.o) s.k a = true → s.ls.tail = [] → caAck s lb = { s with o := ldHear s.o, ls := s.ls.tail, done := dn, acks := a }) := fun e e2 => by unfold caAck; rw [if_pos hcond, ha, if_pos e, if_pos e2, hdn]
        have HS2 : Hid (ldEnough (ldHear s.o) s.k a = true → s.ls.tail ≠ [] → caAck s lb = caNext { s with o := ldHear s.o, ls := s.ls.tail, done := dn, acks := a }) := fun e e2 => by unfold caAck; rw [if_pos hcond, ha, if_pos e, if_neg e2, hdn]
        have HACK := Lib.hid (fun w2 (R : CeV ge gq gl { s with o := ldHear s.o, k := s.k } Xq w2) => R.c (s' := { s with o := ldHear s.o, acks := a }) 3 (.int .u64 (a : Int)) rfl rfl rfl rfl rfl)
        have HNX := Lib.hid (fun Xq' w1 (h1 : CeV ge gq gl { s with o := ldHear s.o, ls := s.ls.tail, done := dn, acks := a } Xq' w1) => cabecome_any ge gq gl _ Xq' w1 h1 ho2)
        have dlb : (lb != ((s.done % 2 : Nat) : Int)) = false := by simp [hlb]
        clear hok hc h0 hcond ha hdn hlb
        generalize s.done % 2 = dm at *
        go_enter Try.func50, Try.ntmps50
        go_wp2_with (fail)
        refine HH.out.mono ?_
        rintro e w1 ⟨rfl, l1, O1⟩
        have HE := Lib.hid (HR.out.l l1 O1)
        obtain ⟨d0, d1, d2, d3, f3⟩ := HC.out _ HE.out.1
        have f3 := f3 3
        clear l1 O1 c0 c1 c2 c3
        go_wp2_with (fail)
        refine (HLN.out _ HE.out.1).mono ?_
        rintro e w2 ⟨rfl, rfl⟩
        go_wp2_with (fail)
        refine (HLB.out _ HE.out.1).mono ?_
        rintro e w2 ⟨rfl, rfl⟩
        have HA := Lib.hid (HACK.out _ HE.out.1)
        go_wp2_with (fail)
        generalize w1.setCell ⟨ge, 3, none⟩ (.int .u64 (a : Int)) = W3 at *
        have R3 := HA.out.1
        obtain ⟨e0, e1, e2, e3, -⟩ := R3.cells
        have ee2 : W3.cell? ⟨ge, 2, none⟩ = some (.int .i64 (s.done : Int)) := e2
        have HT3 := Lib.hid (HE.out.2.trans HA.out.2)
        have HEN := Lib.hid (fun k => (ldenough_any gl (ldHear s.o) s.k a (W3.drewN k) (show LedP (W3.drewN k) gl _ _ from R3.2.2.1)).mono (fun _ _ ⟨h1, h2⟩ => And.intro h1 h2.symm))
        have HPOP := Lib.hid (fun k => qupop_any gq s.room s.ls (W3.drewN k) Xq (show QuP gq s.room s.ls (W3.drewN k) Xq from (QuP.holds _ _ _).below R3.2.1 (below_drewN' (Below.refl W3.heap.size W3) k)))
        have HR3 := Lib.hid (fun k => R3.below (below_drewN' (Below.refl W3.heap.size W3) k))
        have HU3 := Lib.hid (fun k => HT3.out.next (below_drewN' (Below.refl W3.heap.size W3) k))
        clear R3 d0 d1 d2 d3 f3 e2
        cases hen : ldEnough (ldHear s.o) s.k a with
        | false =>
          rw [hen] at HEN
          have HS := Lib.hid (HS0.out hen)
          clear hen
          go_quiet ((go_at_call 61; refine Calls.quiet_of_same (HEN.out _)))
          go_wp2
          refine bodyPost_ret (results_none rfl _ _ _) rfl ?_
          exact ⟨rfl, Xq, by rw [HS.out]; exact HR3.out nq, HU3.out nq⟩
        | true =>
          rw [hen] at HEN
          have HS1 := Lib.hid (HS1.out hen)
          have HS2 := Lib.hid (HS2.out hen)
          clear hen
          go_quiet ((go_at_call 61; refine Calls.quiet_of_same (HEN.out _)))
          go_wp2_with (fail)
          refine (HPOP.out nq).mono ?_
          rintro e w5 ⟨A5, n5, c5, Xq5, rfl, -, -, q5, t5⟩
          obtain ⟨R5, k5⟩ := (HR3.out nq).q q5 t5
          have g2 : w5.cell? ⟨ge, 2, none⟩ = some (.int .i64 (s.done : Int)) := R5.cells.2.2.1
          have g0 := R5.cells.1
          have gf2 := R5.cells.2.2.2.2 2
          have HB := Lib.hid (R5.c (s' := { s with o := ldHear s.o, ls := s.ls.tail, done := dn, acks := a }) 2 (.int .i64 (dn : Int)) rfl rfl rfl rfl rfl)
          have HK5 := Lib.hid ((HU3.out nq).trans k5)
          clear q5 t5 R5 k5 e0 e1 e3 ee2
          go_wp2_with (fail)
          generalize w5.setCell ⟨ge, 2, none⟩ (.int .i64 (dn : Int)) = W6 at *
          have h6 := HB.out.1.cells.1
          obtain ⟨N5, hN5⟩ : ∃ N5, s.ls.tail.length = N5 := ⟨_, rfl⟩
          have HL6 := qulen_any gq s.ls.tail.length W6 HB.out.1.qlen
          rw [hN5] at HL6
          have HL6 := Lib.hid HL6
          clear g0 g2 gf2
          by_cases h5 : s.ls.tail = []
          · have hN0 : decide ((0 : Int) < (N5 : Int)) = false := by rw [← hN5, h5]; rfl
            have hN0' : decide (0 < N5) = false := by rw [← hN5, h5]; rfl
            have HS := Lib.hid (HS1.out h5)
            clear h5 hN5
            go_wp2_with (fail)
            refine HL6.out.mono ?_
            rintro e w7 ⟨rfl, rfl⟩
            go_wp2
            go_end0
            exact ⟨rfl, Xq5, by rw [HS.out]; exact HB.out.1, HK5.out.trans HB.out.2⟩
          · have hpos : 0 < N5 := by
              rcases Nat.eq_zero_or_pos N5 with e | e
              · exact absurd (List.eq_nil_of_length_eq_zero (hN5.trans e)) h5
              · exact e
            have hN0 : decide ((0 : Int) < (N5 : Int)) = true := by simp; omega
            have hN0' : decide (0 < N5) = true := by simp; omega
            have HS := Lib.hid (HS2.out h5)
            clear h5 hN5
            go_wp2_with (fail)
            refine HL6.out.mono ?_
            rintro e w7 ⟨rfl, rfl⟩
            go_wp2_with (fail)
            refine (HNX.out _ _ HB.out.1).mono ?_
            rintro e w8 ⟨rfl, R8, k8⟩
            have HE8 := Lib.hid (And.intro R8 k8)
            clear R8 k8
            go_wp2
            go_end0
            exact ⟨rfl, Xq5, by rw [HS.out]; exact HE8.out.1, (HK5.out.trans HB.out.2).trans HE8.out.2⟩
      · have HS : Hid (caAck s lb = { s with o := ldHear s.o }) := by show _ = _; unfold caAck; rw [if_neg (fun e => hlb e.2.2)]
        have dlb : (lb != ((s.done % 2 : Nat) : Int)) = true := by simpa using hlb
        clear hok hc h0 hlb
        generalize s.done % 2 = dm at *
        go_enter Try.func50, Try.ntmps50
        go_wp2_with (fail)
        refine HH.out.mono ?_
        rintro e w1 ⟨rfl, l1, O1⟩
        have HE := Lib.hid (HR.out.l l1 O1)
        obtain ⟨d0, d1, d2, d3, -⟩ := HC.out _ HE.out.1
        clear l1 O1 c0 c1 c2 c3
        go_wp2_with (fail)
        refine (HLN.out _ HE.out.1).mono ?_
        rintro e w2 ⟨rfl, rfl⟩
        go_wp2_with (fail)
        refine (HLB.out _ HE.out.1).mono ?_
        rintro e w2 ⟨rfl, rfl⟩
        go_wp2
        refine bodyPost_ret (results_none rfl _ _ _) rfl ?_
        exact ⟨rfl, Xq, by rw [HS.out]; exact HE.out.1, HE.out.2⟩
end Go.Proofs.Ytepmecmhnefhkaa
