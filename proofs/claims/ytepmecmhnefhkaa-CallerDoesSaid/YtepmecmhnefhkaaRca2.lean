/- What kedgeref20's Send, Poll, Tick answer. -/
import Derived.Test.YtepmecmhnefhkaaRca
namespace Go.Proofs.Ytepmecmhnefhkaa
open Go.RowKit
set_option maxRecDepth 20000

theorem rq_len {g room : Nat} {ls : List (List UInt8)} {w : World} {X : Nat → Prop} (h : RQ g room ls w X) : ∃ P c, ls.length ≤ c ∧ c ≤ 9223372036854775807 ∧ w.cell? ⟨g, 1, none⟩ = some (.slice P ls.length c) := by
  obtain ⟨P, c, h1, h2, -, h3, -⟩ := h.cells
  exact ⟨P, c, h1, h2, h3⟩
set_option maxHeartbeats 4000000 in
theorem rcsend_any (g gq gl : Nat) (s : Cs) (Xq : Nat → Prop) (A : Option Addr) (n c : Nat) (m : List UInt8) (w : World) (h : RCv g gq gl s Xq w) (hok : CaOk s) (hB : Bys w A n c m) (hacc : s.acc < 1000000) :
    Calls Try.prog 11 #[.pointer (some ⟨g, 0, none⟩), .slice A n c] w fun e w' => e = .returned (.tuple #[.int .i64 (caSendN s n : Nat), .int .i64 (caSendE s n : Nat)]) ∧ ∃ Xq', RCv g gq gl (caSend s m) Xq' w' ∧ Turns (Al g gl Xq) (Al g gl Xq') w w' := by
  have hml := hB.len
  obtain ⟨c0, c1, c2, c3, c4, hfz⟩ := h.cells
  obtain ⟨P, pc, hp1, hp2, cq⟩ := rq_len h.2.1
  have HP := Lib.hid (rqpush_any gq s.room s.ls A n c m w Xq h.2.1 hB)
  have HR := Lib.hid h
  have ho := hok.2.1
  by_cases hE : caSendE s n = 0
  · have hq : quPushE s.room s.ls n = 0 := hE
    have hpl : quPush s.room s.ls m = s.ls ++ [m] := by unfold quPush; rw [hml, if_pos hq]
    have hN : caSendN s n = s.acc := by unfold caSendN; rw [if_pos hE]
    rw [hE, hN]
    rw [hq, hpl] at HP
    have ea : (s.acc : Int) + 1 = ((s.acc + 1 : Nat) : Int) := by omega
    have HNX := Lib.hid (fun Xq' w1 (h1 : RCv g gq gl { s with ls := s.ls ++ [m], acc := s.acc + 1 } Xq' w1) => rcnext_any g gq gl _ Xq' w1 h1 ho)
    by_cases h0 : s.ls = []
    · have hS : caSend s m = caNext { s with ls := s.ls ++ [m], acc := s.acc + 1 } := by unfold caSend; rw [hml, if_pos hE, if_pos h0]
      have hl0 : s.ls.length = 0 := by rw [h0]; rfl
      rw [hl0] at cq
      have HS := Lib.hid hS
      obtain ⟨a, ha⟩ : ∃ a, s.acc + 1 = a := ⟨_, rfl⟩
      have ea' : (s.acc : Int) + 1 = (a : Int) := by omega
      have es' : (a : Int) - 1 = (s.acc : Int) := by omega
      rw [ha] at HNX hS
      have ha6 : a ≤ 1000000 := by omega
      have HS := Lib.hid hS
      clear h hok hB hE hq hpl hN h0 hl0 hS ea ha hfz
      go_enter Try.func11, Try.ntmps11
      go_wp2_with (fail)
      refine HP.out.mono ?_
      rintro e w1 ⟨rfl, Xq', q1, t1⟩
      obtain ⟨R1, k1⟩ := HR.out.q q1 t1
      obtain ⟨-, -, a2, -, -, fz⟩ := R1.cells
      have f2 := fz 2
      have HE := Lib.hid (R1.c (s' := { s with ls := s.ls ++ [m], acc := a }) 2 (.int .i64 (a : Int)) rfl rfl rfl rfl rfl)
      have HK := Lib.hid k1
      clear q1 t1 k1 R1 fz
      go_wp2_with (fail)
      refine (HNX.out _ _ HE.out.1).mono ?_
      rintro e w2 ⟨rfl, R2, k2⟩
      have b2 : w2.cell? ⟨g, 2, none⟩ = some (.int .i64 (a : Int)) := R2.cells.2.2.1
      have HR2 := Lib.hid (And.intro R2 k2)
      clear R2 k2
      go_wp2
      go_ret2
      refine ⟨rfl, Xq', ?_, (HK.out.trans HE.out.2).trans HR2.out.2⟩
      rw [HS.out]
      exact HR2.out.1
    · have hS : caSend s m = { s with ls := s.ls ++ [m], acc := s.acc + 1 } := by unfold caSend; rw [hml, if_pos hE, if_neg h0]
      have hl0 : ((s.ls.length : Int) == 0) = false := by
        have : s.ls.length ≠ 0 := fun e => h0 (List.eq_nil_of_length_eq_zero e)
        simp; omega
      obtain ⟨a, ha⟩ : ∃ a, s.acc + 1 = a := ⟨_, rfl⟩
      have ea' : (s.acc : Int) + 1 = (a : Int) := by omega
      have es' : (a : Int) - 1 = (s.acc : Int) := by omega
      rw [ha] at hS
      have ha6 : a ≤ 1000000 := by omega
      have HS := Lib.hid hS
      obtain ⟨N, hN⟩ : ∃ N, s.ls.length = N := ⟨_, rfl⟩
      rw [hN] at cq hl0 hp1
      clear h hok hB hE hq hpl hN h0 hS ea ha hfz HNX
      go_enter Try.func11, Try.ntmps11
      go_wp2_with (fail)
      refine HP.out.mono ?_
      rintro e w1 ⟨rfl, Xq', q1, t1⟩
      obtain ⟨R1, k1⟩ := HR.out.q q1 t1
      obtain ⟨-, -, a2, -, -, fz⟩ := R1.cells
      have f2 := fz 2
      have HE := Lib.hid (R1.c (s' := { s with ls := s.ls ++ [m], acc := a }) 2 (.int .i64 (a : Int)) rfl rfl rfl rfl rfl)
      have HK := Lib.hid k1
      clear q1 t1 k1 R1 fz
      go_wp2
      go_ret2
      refine ⟨rfl, Xq', ?_, HK.out.trans HE.out.2⟩
      rw [HS.out]
      exact HE.out.1
  · have hN : caSendN s n = 0 := by unfold caSendN; rw [if_neg hE]
    have hS : caSend s m = s := by unfold caSend; rw [hml, if_neg hE]
    have hpl : quPush s.room s.ls m = s.ls := by unfold quPush; rw [hml]; exact if_neg hE
    rw [hN]
    rw [hpl] at HP
    have HP : Hid (Calls Try.prog 27 #[.pointer (some ⟨gq, 0, none⟩), .slice A n c] w fun e w' => e = .returned (.int .i64 ((caSendE s n : Nat) : Int)) ∧ ∃ X', RQ gq s.room s.ls w' X' ∧ Turns Xq X' w w') := HP.out
    have HS := Lib.hid hS
    have hne : ((caSendE s n : Int) != 0) = true := by simp; omega
    generalize caSendE s n = E at *
    obtain ⟨N, hN'⟩ : ∃ N, s.ls.length = N := ⟨_, rfl⟩
    rw [hN'] at cq hp1
    clear h hok hB hpl hN hS hN' hfz hE
    go_enter Try.func11, Try.ntmps11
    go_wp2_with (fail)
    refine HP.out.mono ?_
    rintro e w1 ⟨rfl, Xq', q1, t1⟩
    obtain ⟨R1, k1⟩ := HR.out.q q1 t1
    have HE := Lib.hid (And.intro R1 k1)
    clear q1 t1 k1 R1
    go_wp2
    go_ret2
    refine ⟨rfl, Xq', ?_, HE.out.2⟩
    rw [HS.out]
    exact HE.out.1
set_option maxHeartbeats 2000000 in
theorem rcpoll_any (g gq gl : Nat) (s : Cs) (Xq : Nat → Prop) (i : Int) (w : World) (h : RCv g gq gl s Xq w) :
    Calls Try.prog 18 #[.pointer (some ⟨g, 0, none⟩), .int .i64 i] w fun e w' => e = .returned (.tuple #[.int .i64 (caPoll s i : Nat), .int .i64 (caPollE s i : Nat)]) ∧ w = w' := by
  obtain ⟨c0, c1, c2, c3, c4, -⟩ := h.cells
  clear h
  by_cases h1 : i < 0
  · have d1 : decide (i < 0) = true := by simpa using h1
    have H1 : Hid (caPoll s i = 0 ∧ caPollE s i = 4) := ⟨by unfold caPoll; rw [if_pos (.inl h1)], by unfold caPollE; rw [if_pos (.inl h1)]⟩
    clear h1
    go_enter Try.func18, Try.ntmps18
    go_wp2
    go_ret2
    exact ⟨by rw [H1.out.1, H1.out.2]; rfl, rfl⟩
  · have d1 : decide (i < 0) = false := by simpa using h1
    by_cases h2 : (s.acc : Int) ≤ i
    · have d2 : decide ((s.acc : Int) ≤ i) = true := by simpa using h2
      have H1 : Hid (caPoll s i = 0 ∧ caPollE s i = 4) := ⟨by unfold caPoll; rw [if_pos (.inr h2)], by unfold caPollE; rw [if_pos (.inr h2)]⟩
      clear h1 h2
      go_enter Try.func18, Try.ntmps18
      go_wp2
      go_ret2
      exact ⟨by rw [H1.out.1, H1.out.2]; rfl, rfl⟩
    · have d2 : decide ((s.acc : Int) ≤ i) = false := by simpa using h2
      have hE : caPollE s i = 0 := by unfold caPollE; rw [if_neg (by omega)]
      by_cases h3 : i < (s.done : Int)
      · have d3 : decide (i < (s.done : Int)) = true := by simpa using h3
        have H1 : Hid (caPoll s i = 1 ∧ caPollE s i = 0) := ⟨by unfold caPoll; rw [if_neg (by omega), if_pos h3], hE⟩
        clear h1 h2 h3 hE
        go_enter Try.func18, Try.ntmps18
        go_wp2
        go_ret2
        exact ⟨by rw [H1.out.1, H1.out.2]; rfl, rfl⟩
      · have d3 : decide (i < (s.done : Int)) = false := by simpa using h3
        have H1 : Hid (caPoll s i = 0 ∧ caPollE s i = 0) := ⟨by unfold caPoll; rw [if_neg (by omega), if_neg h3], hE⟩
        clear h1 h2 h3 hE
        go_enter Try.func18, Try.ntmps18
        go_wp2
        go_ret2
        exact ⟨by rw [H1.out.1, H1.out.2]; rfl, rfl⟩
/-- a call's end that tells packets in new memory, and turns an object -/
def GivesPks (F : World → (Nat → Prop) → Prop) (X : Nat → Prop) (l : List Pkt) (w : World) (e : Ending) (w' : World) : Prop := ∃ A n c X', e = .returned (.slice A n c) ∧ Pks w' (fun k => X' k ∨ k < w.heap.size) A n c l ∧ F w' X' ∧ Turns X X' w w'
set_option maxHeartbeats 2000000 in
theorem rctick_any (g gq gl : Nat) (s : Cs) (Xq : Nat → Prop) (w : World) (h : RCv g gq gl s Xq w) (hok : CaOk s) :
    Calls Try.prog 14 #[.pointer (some ⟨g, 0, none⟩)] w (GivesPks (RCa g (caTick s)) (Al g gl Xq) (caTickL s) w) := by
  obtain ⟨c0, c1, c2, c3, c4, -⟩ := h.cells
  obtain ⟨P, pc, hp1, hp2, cq⟩ := rq_len h.2.1
  have HA := Lib.hid (rlask_any gl s.o s.k w hok.2.1 h.2.2.1)
  have HR := Lib.hid h
  by_cases h0 : s.ls = []
  · have hl0 : s.ls.length = 0 := by rw [h0]; rfl
    have H1 : Hid (caTick s = s ∧ caTickL s = []) := ⟨by unfold caTick; rw [if_pos h0], by unfold caTickL; rw [if_pos (.inl h0)]⟩
    rw [hl0] at cq
    clear h hok h0 hl0
    go_enter Try.func14, Try.ntmps14
    go_wp2
    go_ret
    rw [H1.out.1, H1.out.2]
    exact ⟨_, _, _, _, rfl, Pks.nil _ _, ⟨gq, gl, Xq, HR.out, rfl⟩, Turns.of_below (Below.refl _ _)⟩
  · have hl0 : ((s.ls.length : Int) == 0) = false := by
      have : s.ls.length ≠ 0 := fun e => h0 (List.eq_nil_of_length_eq_zero e)
      simp; omega
    obtain ⟨N, hN⟩ : ∃ N, s.ls.length = N := ⟨_, rfl⟩
    rw [hN] at cq hl0 hp1
    have HT : Hid (caTick s = { s with o := ldAsk s.o }) := by show _ = _; unfold caTick; rw [if_neg h0]
    cases hs : ldS s.o with
    | true =>
      have HL : Hid (caTickL s = []) := by show _ = _; unfold caTickL; rw [if_pos (.inr hs)]
      rw [hs] at HA
      clear h hok h0 hN hs
      go_enter Try.func14, Try.ntmps14
      go_wp2_with (fail)
      refine HA.out.mono ?_
      rintro e w1 ⟨rfl, l1, O1⟩
      have HE := Lib.hid (HR.out.l l1 O1)
      clear l1 O1
      go_wp2
      go_ret
      rw [HT.out, HL.out]
      exact ⟨_, _, _, _, rfl, Pks.nil _ _, ⟨gq, gl, Xq, HE.out.1, rfl⟩, HE.out.2⟩
    | false =>
      have HL : Hid (caTickL s = [(1, 0, [])]) := by show _ = _; unfold caTickL; rw [if_neg (by simp [h0, hs])]
      rw [hs] at HA
      clear h hok h0 hN hs
      go_enter Try.func14, Try.ntmps14
      go_wp2_with (fail)
      refine HA.out.mono ?_
      rintro e w1 ⟨rfl, l1, O1⟩
      have HE := Lib.hid (HR.out.l l1 O1)
      clear l1 O1
      go_wp2
      go_ret
      rw [HT.out, HL.out]
      have hs1 := HE.out.2.off.size
      have T2 := (Below.refl _ w1).alloc (Nat.le_refl _) (.cells #[.int .i64 1, .int .i64 0, .slice none 0 0] 36)
      refine ⟨_, _, _, Al g gl Xq, rfl, Pks.one (Bys.nil _) (Av.none _ _) (fun hk => ?_), ⟨gq, gl, Xq, HE.out.1.below T2, rfl⟩, HE.out.2.next T2⟩
      rcases hk with hk | hk
      · have := HE.out.1.lt _ hk; omega
      · omega
end Go.Proofs.Ytepmecmhnefhkaa
