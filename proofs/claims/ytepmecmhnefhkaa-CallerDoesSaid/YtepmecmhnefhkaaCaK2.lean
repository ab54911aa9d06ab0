/- Package caller, as landed: Send, Poll, Tick, State. -/
import Derived.Test.YtepmecmhnefhkaaCaK1
namespace Go.Proofs.Ytepmecmhnefhkaa
open Go.RowKit
set_option maxRecDepth 20000

set_option maxHeartbeats 4000000 in
theorem caesend_any (ge gq gl : Nat) (s : Cs) (Xq : Nat → Prop) (A : Option Addr) (n c : Nat) (m : List UInt8) (w : World) (h : CeV ge gq gl s Xq w) (hok : CaOk s) (ha : s.acc = s.done + s.ls.length) (hB : Bys w A n c m) :
    Calls Try.prog 26 #[.pointer (some ⟨ge, 0, none⟩), .slice A n c] w fun e w' => e = .returned (.tuple #[.int .i64 (caSendN s n : Nat), .int .i64 (caSendE s n : Nat)]) ∧ ∃ Xq', CeV ge gq gl (caSend s m) Xq' w' ∧ Turns (Al ge gl Xq) (Al ge gl Xq') w w' := by
  have hml := hB.len
  obtain ⟨c0, -, c2, -, -⟩ := h.cells
  have hl16 : s.ls.length ≤ 16 := by have := hok.1.2.1; have := hok.1.2.2.1; omega
  have HAC := Lib.hid (caaccepted_any ge gq s.done s.ls.length w c0 c2 h.qlen hok.2.2.2.2.1 hl16)
  have HP := Lib.hid (fun W (U : Below w.heap.size w W) => qupush_any gq s.room s.ls A n c m W Xq (h.below U).2.1 (hB.below U))
  have HR := Lib.hid (fun W (U : Below w.heap.size w W) => h.below U)
  have HBC := Lib.hid (fun Xq' w1 (h1 : CeV ge gq gl { s with ls := s.ls ++ [m], acc := s.acc + 1 } Xq' w1) => cabecome_any ge gq gl _ Xq' w1 h1 hok.2.1)
  clear c0 c2
  by_cases hE : caSendE s n = 0
  · have hq : quPushE s.room s.ls n = 0 := hE
    have hpl : quPush s.room s.ls m = s.ls ++ [m] := by unfold quPush; rw [hml, if_pos hq]
    have hN : caSendN s n = s.acc := by unfold caSendN; rw [if_pos hE]
    rw [hE, hN]
    rw [hq, hpl] at HP
    rw [← ha] at HAC
    by_cases h0 : s.ls = []
    · have HS : Hid (caSend s m = caNext { s with ls := s.ls ++ [m], acc := s.acc + 1 }) := by show _ = _; unfold caSend; rw [hml, if_pos hE, if_pos h0]
      have dq : ((s.acc : Int) == (s.done : Int)) = true := by rw [ha, h0]; simp
      clear h hok hB hE hq hpl hN h0 ha hml hl16
      generalize s.acc = a at *
      go_enter Try.func26, Try.ntmps26
      go_wp2_with (fail)
      refine HAC.out.mono ?_
      rintro e w1 ⟨rfl, T1⟩
      obtain ⟨c0, -, c2, -, -⟩ := (HR.out _ T1).cells
      go_wp2_with (fail)
      refine (HP.out _ T1).mono ?_
      rintro e w2 ⟨rfl, Xq', q2, t2⟩
      obtain ⟨R2, k2⟩ := (HR.out _ T1).q q2 t2
      have R2' : CeV ge gq gl { s with ls := s.ls ++ [m], acc := a + 1 } Xq' w2 := R2
      have c2 : w2.cell? ⟨ge, 2, none⟩ = some (.int .i64 (s.done : Int)) := R2.cells.2.2.1
      have HK := Lib.hid ((Turns.of_below T1).trans k2)
      have HR2 := Lib.hid R2'
      clear q2 t2 k2 R2 R2' c0
      go_wp2_with (fail)
      refine (HBC.out _ _ HR2.out).mono ?_
      rintro e w3 ⟨rfl, R3, k3⟩
      have HR3 := Lib.hid (And.intro R3 k3)
      clear R3 k3
      go_wp2
      go_ret2
      refine ⟨rfl, Xq', ?_, HK.out.trans HR3.out.2⟩
      rw [HS.out]
      exact HR3.out.1
    · have HS : Hid (caSend s m = { s with ls := s.ls ++ [m], acc := s.acc + 1 }) := by show _ = _; unfold caSend; rw [hml, if_pos hE, if_neg h0]
      have dq : ((s.acc : Int) == (s.done : Int)) = false := by
        have : s.ls.length ≠ 0 := fun e => h0 (List.eq_nil_of_length_eq_zero e)
        simp; omega
      clear h hok hB hE hq hpl hN h0 ha hml hl16 HBC
      generalize s.acc = a at *
      go_enter Try.func26, Try.ntmps26
      go_wp2_with (fail)
      refine HAC.out.mono ?_
      rintro e w1 ⟨rfl, T1⟩
      obtain ⟨c0, -, c2, -, -⟩ := (HR.out _ T1).cells
      go_wp2_with (fail)
      refine (HP.out _ T1).mono ?_
      rintro e w2 ⟨rfl, Xq', q2, t2⟩
      obtain ⟨R2, k2⟩ := (HR.out _ T1).q q2 t2
      have R2' : CeV ge gq gl { s with ls := s.ls ++ [m], acc := a + 1 } Xq' w2 := R2
      have c2 : w2.cell? ⟨ge, 2, none⟩ = some (.int .i64 (s.done : Int)) := R2.cells.2.2.1
      have HK := Lib.hid ((Turns.of_below T1).trans k2)
      have HR2 := Lib.hid R2'
      clear q2 t2 k2 R2 R2' c0
      go_wp2
      go_ret2
      refine ⟨rfl, Xq', ?_, HK.out⟩
      rw [HS.out]
      exact HR2.out
  · have hN : caSendN s n = 0 := by unfold caSendN; rw [if_neg hE]
    have HS : Hid (caSend s m = s) := by show _ = _; unfold caSend; rw [hml, if_neg hE]
    have hpl : quPush s.room s.ls m = s.ls := by unfold quPush; rw [hml]; exact if_neg hE
    rw [hN]
    rw [hpl] at HP
    have HP : Hid (∀ W, Below w.heap.size w W → Calls Try.prog 42 #[.pointer (some ⟨gq, 0, none⟩), .slice A n c] W fun e w' => e = .returned (.int .i64 ((caSendE s n : Nat) : Int)) ∧ ∃ X', QuP gq s.room s.ls w' X' ∧ Turns Xq X' W w') := HP.out
    have hne : ((caSendE s n : Int) != 0) = true := by simp; omega
    generalize caSendE s n = E at *
    clear h hok hB hpl hN hE ha hml hl16 HBC
    go_enter Try.func26, Try.ntmps26
    go_wp2_with (fail)
    refine HAC.out.mono ?_
    rintro e w1 ⟨rfl, T1⟩
    obtain ⟨c0, -, c2, -, -⟩ := (HR.out _ T1).cells
    go_wp2_with (fail)
    refine (HP.out _ T1).mono ?_
    rintro e w2 ⟨rfl, Xq', q2, t2⟩
    obtain ⟨R2, k2⟩ := (HR.out _ T1).q q2 t2
    have HE := Lib.hid (And.intro R2 ((Turns.of_below T1).trans k2))
    clear q2 t2 k2 R2
    go_wp2
    go_ret2
    refine ⟨rfl, Xq', ?_, HE.out.2⟩
    rw [HS.out]
    exact HE.out.1
set_option maxHeartbeats 2000000 in
theorem casend_any (g : Nat) (s : Cs) (A : Option Addr) (n c : Nat) (m : List UInt8) (w : World) (X : Nat → Prop) (hF : CaP g s w X) (hok : CaOk s) (hB : Bys w A n c m) :
    Calls Try.prog 10 #[.pointer (some ⟨g, 0, none⟩), .slice A n c] w fun e w' => e = .returned (.tuple #[.int .i64 (caSendN s n : Nat), .int .i64 (caSendE s n : Nat)]) ∧ ∃ X', CaP g (caSend s m) w' X' ∧ Turns X X' w w' := by
  obtain ⟨ge, gq, gl, Xq, h1, h2, h3, h4, rfl⟩ := hF
  have c0 : w.cell? ⟨g, 0, none⟩ = some (.pointer (some ⟨ge, 0, none⟩)) := cell_of_row _ _ _ _ _ _ h1
  have HM := Lib.hid (camade_any g ⟨ge, 0, none⟩ w c0)
  have HSD := Lib.hid (caesend_any ge gq gl s Xq A n c m w h2 hok h4 hB)
  have ha : (caSend s m).acc = (caSend s m).done + (caSend s m).ls.length := by
    unfold caSend
    split
    · split
      · show s.acc + 1 = s.done + (s.ls ++ [m]).length
        simp; omega
      · show s.acc + 1 = s.done + (s.ls ++ [m]).length
        simp; omega
    · exact h4
  have HT := Lib.hid (fun Xq' w1 (h2' : CeV ge gq gl (caSend s m) Xq' w1) (T : Turns (Al ge gl Xq) (Al ge gl Xq') w w1) => CaP.turn h1 h3 h2' ha T)
  clear h1 h2 h3 h4 hB hok ha
  go_enter Try.func10, Try.ntmps10
  go_wp2_with (fail)
  refine HM.out.mono ?_
  rintro e w1 ⟨rfl, rfl⟩
  go_wp2_with (fail)
  refine HSD.out.mono ?_
  rintro e w2 ⟨rfl, Xq', h2', t2⟩
  have HE := Lib.hid (HT.out _ _ h2' t2)
  clear h2' t2
  go_wp2
  go_ret2
  exact ⟨rfl, _, HE.out⟩
set_option maxHeartbeats 2000000 in
theorem capoll_any (g : Nat) (s : Cs) (i : Int) (w : World) (X : Nat → Prop) (hF : CaP g s w X) (hok : CaOk s) :
    Calls Try.prog 17 #[.pointer (some ⟨g, 0, none⟩), .int .i64 i] w fun e w' => e = .returned (.tuple #[.int .i64 (caPoll s i : Nat), .int .i64 (caPollE s i : Nat)]) ∧ Below w.heap.size w w' := by
  obtain ⟨ge, gq, gl, Xq, h1, h2, h3, h4, rfl⟩ := hF
  have c0 : w.cell? ⟨g, 0, none⟩ = some (.pointer (some ⟨ge, 0, none⟩)) := cell_of_row _ _ _ _ _ _ h1
  have HM := Lib.hid (camade_any g ⟨ge, 0, none⟩ w c0)
  obtain ⟨d0, -, d2, -, -⟩ := h2.cells
  have hl16 : s.ls.length ≤ 16 := by have := hok.1.2.1; have := hok.1.2.2.1; omega
  have hac := caaccepted_any ge gq s.done s.ls.length w d0 d2 h2.qlen hok.2.2.2.2.1 hl16
  rw [← h4] at hac
  have HAC := Lib.hid hac
  have HC : Hid (∀ W, Below w.heap.size w W → W.cell? ⟨g, 0, none⟩ = some (.pointer (some ⟨ge, 0, none⟩)) ∧ W.cell? ⟨ge, 2, none⟩ = some (.int .i64 (s.done : Int))) := fun W U => ⟨(U.cell (p := ⟨g, 0, none⟩) (lt_row h1)).trans c0, (U.cell (p := ⟨ge, 2, none⟩) (lt_row h2.1)).trans d2⟩
  clear h1 h2 h3 h4 hok d0 d2 hac hl16
  by_cases h1 : i < 0
  · have d1 : decide (i < 0) = true := by simpa using h1
    have H1 : Hid (caPoll s i = 0 ∧ caPollE s i = 4) := ⟨by unfold caPoll; rw [if_pos (.inl h1)], by unfold caPollE; rw [if_pos (.inl h1)]⟩
    clear h1
    go_enter Try.func17, Try.ntmps17
    go_wp2_with (fail)
    refine HM.out.mono ?_
    rintro e w1 ⟨rfl, rfl⟩
    go_wp2
    go_ret2
    exact ⟨by rw [H1.out.1, H1.out.2]; rfl, Below.refl _ _⟩
  · have d1 : decide (i < 0) = false := by simpa using h1
    by_cases h2 : (s.acc : Int) ≤ i
    · have d2 : decide ((s.acc : Int) ≤ i) = true := by simpa using h2
      have H1 : Hid (caPoll s i = 0 ∧ caPollE s i = 4) := ⟨by unfold caPoll; rw [if_pos (.inr h2)], by unfold caPollE; rw [if_pos (.inr h2)]⟩
      clear h1 h2
      go_enter Try.func17, Try.ntmps17
      go_wp2_with (fail)
      refine HM.out.mono ?_
      rintro e w1 ⟨rfl, rfl⟩
      go_wp2_with (fail)
      refine HAC.out.mono ?_
      rintro e w2 ⟨rfl, T2⟩
      go_wp2
      go_ret2
      exact ⟨by rw [H1.out.1, H1.out.2]; rfl, T2⟩
    · have d2 : decide ((s.acc : Int) ≤ i) = false := by simpa using h2
      have hE : caPollE s i = 0 := by unfold caPollE; rw [if_neg (by omega)]
      by_cases h3 : i < (s.done : Int)
      · have d3 : decide (i < (s.done : Int)) = true := by simpa using h3
        have H1 : Hid (caPoll s i = 1 ∧ caPollE s i = 0) := ⟨by unfold caPoll; rw [if_neg (by omega), if_pos h3], hE⟩
        clear h1 h2 h3 hE
        go_enter Try.func17, Try.ntmps17
        go_wp2_with (fail)
        refine HM.out.mono ?_
        rintro e w1 ⟨rfl, rfl⟩
        go_wp2_with (fail)
        refine HAC.out.mono ?_
        rintro e w2 ⟨rfl, T2⟩
        obtain ⟨e0, e2⟩ := HC.out _ T2
        go_wp2
        go_ret2
        exact ⟨by rw [H1.out.1, H1.out.2]; rfl, T2⟩
      · have d3 : decide (i < (s.done : Int)) = false := by simpa using h3
        have H1 : Hid (caPoll s i = 0 ∧ caPollE s i = 0) := ⟨by unfold caPoll; rw [if_neg (by omega), if_neg h3], hE⟩
        clear h1 h2 h3 hE
        go_enter Try.func17, Try.ntmps17
        go_wp2_with (fail)
        refine HM.out.mono ?_
        rintro e w1 ⟨rfl, rfl⟩
        go_wp2_with (fail)
        refine HAC.out.mono ?_
        rintro e w2 ⟨rfl, T2⟩
        obtain ⟨e0, e2⟩ := HC.out _ T2
        go_wp2
        go_ret2
        exact ⟨by rw [H1.out.1, H1.out.2]; rfl, T2⟩
set_option maxHeartbeats 4000000 in
theorem catick_any (g : Nat) (s : Cs) (w : World) (X : Nat → Prop) (hF : CaP g s w X) (hok : CaOk s) :
    Calls Try.prog 13 #[.pointer (some ⟨g, 0, none⟩)] w (GivesPks (CaP g (caTick s)) X (caTickL s) w) := by
  obtain ⟨ge, gq, gl, Xq, h1, h2, h3, h4, rfl⟩ := hF
  have c0 : w.cell? ⟨g, 0, none⟩ = some (.pointer (some ⟨ge, 0, none⟩)) := cell_of_row _ _ _ _ _ _ h1
  have HM := Lib.hid (camade_any g ⟨ge, 0, none⟩ w c0)
  obtain ⟨d0, d1, -, -, -⟩ := h2.cells
  have HL := Lib.hid (qulen_any gq s.ls.length w h2.qlen)
  have HA := Lib.hid (ldask_any gl s.o s.k w hok.2.1 h2.2.2.1)
  have HV := Lib.hid h2
  have ha : (caTick s).acc = (caTick s).done + (caTick s).ls.length := by unfold caTick; split <;> exact h4
  have HT := Lib.hid (fun w1 (h2' : CeV ge gq gl (caTick s) Xq w1) (T : Turns (Al ge gl Xq) (Al ge gl Xq) w w1) => CaP.turn h1 h3 h2' ha T)
  have HB := Lib.hid (CaP.holds g (caTick s))
  clear h1 h2 h3 h4 hok ha
  by_cases h0 : s.ls = []
  · have hl0 : s.ls.length = 0 := by rw [h0]; rfl
    have H1 : Hid (caTick s = s ∧ caTickL s = []) := ⟨by unfold caTick; rw [if_pos h0], by unfold caTickL; rw [if_pos (.inl h0)]⟩
    rw [hl0] at HL
    clear h0 hl0 HA
    go_enter Try.func13, Try.ntmps13
    go_wp2_with (fail)
    refine HM.out.mono ?_
    rintro e w1 ⟨rfl, rfl⟩
    go_wp2_with (fail)
    refine HL.out.mono ?_
    rintro e w2 ⟨rfl, rfl⟩
    go_wp2
    go_ret
    have hT := HT.out w (by rw [H1.out.1]; exact HV.out) (Turns.of_below (Below.refl _ _))
    rw [H1.out.2]
    exact ⟨_, _, _, _, rfl, Pks.nil _ _, hT.1, hT.2⟩
  · have hp : 0 < s.ls.length := by
      rcases Nat.eq_zero_or_pos s.ls.length with e | e
      · exact absurd (List.eq_nil_of_length_eq_zero e) h0
      · exact e
    have hl0 : decide ((0 : Int) < (s.ls.length : Int)) = true := by simp; omega
    have hl1 : decide (0 < s.ls.length) = true := by simp; omega
    have H1 : Hid (caTick s = { s with o := ldAsk s.o }) := by show _ = _; unfold caTick; rw [if_neg h0]
    have HV2 := Lib.hid (fun w2 (l2 : LedP w2 gl (ldAsk s.o) s.k) (O2 : Off (· = gl) w w2) => by
      have q := HV.out.l l2 O2
      have e : caTick s = { s with o := ldAsk s.o, k := s.k } := H1.out
      exact HT.out w2 (by rw [e]; exact q.1) q.2)
    generalize hN : s.ls.length = N at *
    cases hs : ldS s.o with
    | true =>
      have HTL : Hid (caTickL s = []) := by show _ = _; unfold caTickL; rw [if_pos (.inr hs)]
      rw [hs] at HA
      clear h0 hN hs HT H1 hp
      go_enter Try.func13, Try.ntmps13
      go_wp2_with (fail)
      refine HM.out.mono ?_
      rintro e w1 ⟨rfl, rfl⟩
      go_wp2_with (fail)
      refine HL.out.mono ?_
      rintro e w2 ⟨rfl, rfl⟩
      go_wp2_with (fail)
      refine HA.out.mono ?_
      rintro e w3 ⟨rfl, l3, O3⟩
      have HE := Lib.hid (HV2.out _ l3 O3)
      clear l3 O3
      go_wp2
      go_ret
      rw [HTL.out]
      exact ⟨_, _, _, _, rfl, Pks.nil _ _, HE.out.1, HE.out.2⟩
    | false =>
      have HTL : Hid (caTickL s = [(1, 0, [])]) := by show _ = _; unfold caTickL; rw [if_neg (by simp [h0, hs])]
      rw [hs] at HA
      clear h0 hN hs HT H1 hp
      go_enter Try.func13, Try.ntmps13
      go_wp2_with (fail)
      refine HM.out.mono ?_
      rintro e w1 ⟨rfl, rfl⟩
      go_wp2_with (fail)
      refine HL.out.mono ?_
      rintro e w2 ⟨rfl, rfl⟩
      go_wp2_with (fail)
      refine HA.out.mono ?_
      rintro e w3 ⟨rfl, l3, O3⟩
      have HE := Lib.hid (HV2.out _ l3 O3)
      clear l3 O3
      go_wp2
      go_ret
      rw [HTL.out]
      have hs1 := HE.out.2.off.size
      have hlt := HB.out.lt HE.out.1
      have T2 := (Below.refl _ w3).alloc (Nat.le_refl _) (.cells #[.int .i64 1, .int .i64 0, .slice none 0 0] 36)
      refine ⟨_, _, _, _, rfl, Pks.one (Bys.nil _) (Av.none _ _) (fun hk => ?_), HB.out.below HE.out.1 T2, HE.out.2.next T2⟩
      rcases hk with hk | hk
      · have := hlt _ hk; omega
      · omega
end Go.Proofs.Ytepmecmhnefhkaa
