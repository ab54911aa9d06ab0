/- Package pusher, as landed: accept, Send. -/
import Derived.Test.YtncpabnmdofomaaPuK7
namespace Go.Proofs.Ytncpabnmdofomaa
open Go.RowKit
set_option maxRecDepth 20000

def GivesAcc (T : Nat → Int → List Tmr → World → (Nat → Prop) → Prop) (x gt : Nat) (P : Option Addr) (n pc : Nat) (s : Pus) (m : List UInt8) (Xt Xc : Nat → Prop) (w : World) (e : Ending) (w' : World) : Prop := e = .returned (.int .i64 (s.ls.length : Int)) ∧ ∃ P' pc' vs' Xc', EnV T x gt P' (n + 1) pc' vs' (puAdd s m) s.base Xt Xc' w' ∧ Turns (EnX x P pc Xt Xc) (EnX x P' pc' Xt Xc') w w'
set_option maxHeartbeats 8000000 in
theorem puaccept_any {T : Nat → Int → List Tmr → World → (Nat → Prop) → Prop} (C : TmC T) {x gt : Nat} {P : Option Addr} {n pc : Nat} {vs : List Value} {s : Pus} {Xt Xc : Nat → Prop} {w : World} (A : Option Addr) (k c : Nat) (m : List UInt8) (h : EnV T x gt P n pc vs s s.base Xt Xc w) (hB : Bys w A k c m) (hk : k ≤ 64) (hb : s.ls.length < 100000) (hn : n ≤ 100000) (hm : 1 ≤ s.c.m ∧ s.c.m ≤ 65536) :
    Calls Try.prog 28 #[.pointer (some ⟨x, 0, none⟩), .slice A k c] w (GivesAcc T x gt P n pc s m Xt Xc w) := by
  have HR := Lib.hid h
  have HB := Lib.hid hB
  have HAC := Lib.hid (puacc_any h (by omega))
  have HMD := Lib.hid (fun W => rgmod_any (s.ls.length : Int) s.c.m W (by unfold J64; omega) (by unfold J64; omega))
  have HL := Lib.hid hB.len
  have HC : Hid (∀ W, Below w.heap.size w W → W.cell? ⟨x, 1, none⟩ = some (.int .i64 s.c.m) ∧ W.cell? ⟨x, 6, none⟩ = some (.slice P n pc)) := fun W U =>
    ⟨(h.below C U).cells.1.2.1, (h.below C U).cells.1.2.2.2.2.2.2⟩
  have HX := Lib.hid (lt_row h.row)
  have HXR : Hid (∀ W w2, Below w.heap.size w W → Off (RowB P pc) W w2 → w2.cell? ⟨x, 6, none⟩ = some (.slice P n pc) ∧ w2.frozen? ⟨x, 6, none⟩ = false) := fun W w2 U O => by
    have hb := (O.block x (Nat.lt_of_lt_of_le (lt_row h.row) U.size) h.nrx).trans ((U.block x (lt_row h.row)).trans h.row)
    exact ⟨cell_of_row _ _ _ _ _ _ hb, frozen_of_row _ _ _ _ _ hb⟩
  have HROW : Hid (∀ W, Below w.heap.size w W → Row W P n pc vs) := fun W U => (h.below C U).lst
  clear h hB
  obtain ⟨N, hN⟩ : ∃ N, s.ls.length = N := ⟨_, rfl⟩
  have HN := Lib.hid hN
  rw [hN] at HAC HMD
  clear hN hb hm
  unfold GivesAcc
  generalize hrm : rgMod (N : Int) s.c.m = rm at *
  have HRM := Lib.hid hrm
  clear hrm
  go_enter Try.func28, Try.ntmps28
  go_wp2_with (fail)
  refine HAC.out.mono ?_
  rintro e wA ⟨rfl, mm, rfl⟩
  have UA := below_drewN' (Below.refl w.heap.size w) mm
  generalize w.drewN mm = wA at *
  obtain ⟨c1, -⟩ := HC.out _ UA
  go_wp2_with (fail)
  refine (HMD.out _).mono ?_
  rintro e wB ⟨rfl, rfl⟩
  have UB := UA.alloc UA.size (.cells #[.slice A k c] 36)
  have HJ := Lib.hid (puojoin_any A k c wA.heap.size m (wA.alloc (.cells #[.slice A k c] 36)) (cell_of_row _ _ _ _ _ _ (heap_alloc_new wA _)) (HB.out.below UB) (by omega))
  have HUB := Lib.hid UB
  clear UB
  go_wp2_with (fail)
  refine HJ.out.mono ?_
  rintro e w1 ⟨v1, rfl, hw1, U1⟩
  obtain ⟨A1, cA, rfl⟩ := own_shape hw1
  have HW1 := Lib.hid hw1
  have HU1 := Lib.hid (nxt HUB.out U1)
  clear hw1 U1 c1 HJ
  have U3 := (HU1.out.alloc HU1.out.size (.cells #[.int .i64 rm] 3)).alloc (by have := HU1.out.size; simp; omega) (.cells #[.slice A1 m.length cA] 36)
  obtain ⟨-, c6⟩ := HC.out _ U3
  have hs3 : ((w1.alloc (.cells #[.int .i64 rm] 3)).alloc (.cells #[.slice A1 m.length cA] 36)).heap.size = w1.heap.size + 2 := by simp
  have r1 : ((w1.alloc (.cells #[.int .i64 rm] 3)).alloc (.cells #[.slice A1 m.length cA] 36)).heap[w1.heap.size]? = some (.cells #[.int .i64 rm] 3 (0, 0)) := hp_old (heap_alloc_new w1 _) _
  have r2 : ((w1.alloc (.cells #[.int .i64 rm] 3)).alloc (.cells #[.slice A1 m.length cA] 36)).heap[w1.heap.size + 1]? = some (.cells #[.slice A1 m.length cA] 36 (0, 0)) := by
    have h := heap_alloc_new (w1.alloc (.cells #[.int .i64 rm] 3)) (.cells #[.slice A1 m.length cA] 36)
    rwa [show (w1.alloc (.cells #[.int .i64 rm] 3)).heap.size = w1.heap.size + 1 by simp] at h
  obtain ⟨W3, hW3⟩ : ∃ W3, (w1.alloc (.cells #[.int .i64 rm] 3)).alloc (.cells #[.slice A1 m.length cA] 36) = W3 := ⟨_, rfl⟩
  rw [hW3] at U3 c6 hs3 r1 r2
  have UW : Below w1.heap.size w1 W3 := by rw [← hW3]; exact ((Below.refl _ w1).alloc (Nat.le_refl _) _).alloc (by simp) _
  have U4 := U3.alloc U3.size (.cells #[cloV w1.heap.size (w1.heap.size + 1)] 100)
  have hs4 : (W3.alloc (.cells #[cloV w1.heap.size (w1.heap.size + 1)] 100)).heap.size = w1.heap.size + 3 := by simp [hs3]
  have hlit : (W3.alloc (.cells #[cloV w1.heap.size (w1.heap.size + 1)] 100)).cell? ⟨w1.heap.size + 2, 0, none⟩ = some (cloV w1.heap.size (w1.heap.size + 1)) := by
    have h := heap_alloc_new W3 (.cells #[cloV w1.heap.size (w1.heap.size + 1)] 100)
    rw [hs3] at h
    exact cell_of_row _ _ _ _ _ _ h
  have HCLO : Hid (Clo (W3.alloc (.cells #[cloV w1.heap.size (w1.heap.size + 1)] 100)) (fun k => Xc k ∨ (w.heap.size ≤ k ∧ k < (W3.alloc (.cells #[cloV w1.heap.size (w1.heap.size + 1)] 100)).heap.size)) (cloV w1.heap.size (w1.heap.size + 1)) rm m) := by
    have hby := Bys.of_own HW1.out
    have hu1 := HU1.out.size
    refine ⟨w1.heap.size, w1.heap.size + 1, A1, cA, rfl, hp_old r1 _, hp_old r2 _, (hby.below UW).alloc _, fun hn0 p e hno => hno (.inr ?_), .inr ⟨hu1, by omega⟩, .inr ⟨by omega, by omega⟩⟩
    have h1 := own_fr HW1.out hn0 p e
    obtain ⟨b', o', e', hb', -⟩ := hby.at_ hn0
    rw [e'] at e
    injection e with e
    subst e
    have h2 := HUB.out.size
    exact ⟨by show w.heap.size ≤ b'; have h3 : ¬ b' < _ := h1; omega, by show b' < _; omega⟩
  have HLIT := Lib.hid hlit
  have HU4 := Lib.hid U4
  have HROW4 := Lib.hid (HROW.out _ U4)
  unfold cloV at HLIT HU4 HROW4
  clear U3 r1 r2 hlit U4 hs4 UW
  subst hW3
  go_wp2_with (at_builtin; go_loud ((refine app_f _ rfl (.tmp 23) (.tmp 25) rfl P n pc vs rfl ?_ (w1.heap.size + 2) (cloV w1.heap.size (w1.heap.size + 1)) rfl rfl ?_ hn ?_); (exact HROW4.out); (exact HLIT.out); intro P2 c2 w2 hR2 hO2 hP2; obtain ⟨k6, f6⟩ := HXR.out _ w2 HU4.out hO2))
  go_ret
  obtain ⟨R5, t5⟩ := HR.out.pushed C HU4.out (by rw [HN.out, HRM.out]; exact HCLO.out) hR2 hO2 hP2
  exact ⟨by rw [HN.out]; rfl, P2, c2, _, _, R5, t5⟩
def GivesSend (T : Nat → Int → List Tmr → World → (Nat → Prop) → Prop) (g : Nat) (s : Pus) (m : List UInt8) (n : Nat) (X : Nat → Prop) (w : World) (e : Ending) (w' : World) : Prop := ∃ A' n' c' X', e = .returned (.tuple #[.int .i64 (puSendN s n : Nat), .slice A' n' c', .int .i64 (puSendE s n : Nat)]) ∧ Sls w' (fun k => X' k ∨ k < w.heap.size) A' n' c' (puSendL s m) ∧ PuP T g (puSend s m) w' X' ∧ Turns X X' w w'
set_option maxHeartbeats 8000000 in
theorem pusend_any {T : Nat → Int → List Tmr → World → (Nat → Prop) → Prop} (C : TmC T) (g : Nat) (s : Pus) (A : Option Addr) (k c : Nat) (m : List UInt8) (w : World) (X : Nat → Prop) (hF : PuP T g s w X) (hok : PsOk s) (hB : Bys w A k c m) (hb : s.ls.length < 100000) :
    Calls Try.prog 11 #[.pointer (some ⟨g, 0, none⟩), .slice A k c] w (GivesSend T g s m k X w) := by
  have HF := Lib.hid hF
  have hml := hB.len
  obtain ⟨x, Y, hg1, ⟨gt, P, n, pc, vs, Xt, Xc, h, rfl⟩, hg3, rfl⟩ := hF
  have c0 : w.cell? ⟨g, 0, none⟩ = some (.pointer (some ⟨x, 0, none⟩)) := cell_of_row _ _ _ _ _ _ hg1
  have HM := Lib.hid (pumade_any g ⟨x, 0, none⟩ w c0)
  obtain ⟨-, -, c2, -, -, -, c6⟩ := h.cells.1
  have hcnt := h.cnt
  by_cases h1 : 64 < k
  · have hE : puSendE s k = 2 := by unfold puSendE; rw [if_pos h1]
    have H1 : Hid (puSendN s k = 0 ∧ puSendL s m = [] ∧ puSend s m = s) := ⟨by unfold puSendN; rw [hE]; rfl, by unfold puSendL; rw [hml, hE]; rfl, by unfold puSend; rw [hml, hE]; rfl⟩
    have d1 : decide ((64 : Int) < (k : Int)) = true := by simp; omega
    unfold GivesSend
    rw [hE]
    clear h hok hB hE h1 hml hcnt hg1 hg3 c2 c6
    go_enter Try.func11, Try.ntmps11
    go_wp2_with (fail)
    refine HM.out.mono ?_
    rintro e w1 ⟨rfl, rfl⟩
    go_wp2
    go_ret3
    rw [H1.out.1, H1.out.2.1, H1.out.2.2]
    exact ⟨_, _, _, _, rfl, Sls.nil _ _, HF.out, Turns.of_below (Below.refl _ _)⟩
  · have d1 : decide ((64 : Int) < (k : Int)) = false := by simp; omega
    by_cases h2 : s.c.room ≤ (n : Int)
    · have hE : puSendE s k = 3 := by unfold puSendE; rw [if_neg h1, if_pos (by omega)]
      have H1 : Hid (puSendN s k = 0 ∧ puSendL s m = [] ∧ puSend s m = s) := ⟨by unfold puSendN; rw [hE]; rfl, by unfold puSendL; rw [hml, hE]; rfl, by unfold puSend; rw [hml, hE]; rfl⟩
      have d2 : decide (s.c.room ≤ (n : Int)) = true := by simpa using h2
      unfold GivesSend
      rw [hE]
      clear h hok hB hE h1 hml hcnt hg1 hg3 h2
      go_enter Try.func11, Try.ntmps11
      go_wp2_with (fail)
      refine HM.out.mono ?_
      rintro e w1 ⟨rfl, rfl⟩
      go_wp2_with (fail)
      go_quiet (fail)
      go_wp2
      go_ret3
      rw [H1.out.1, H1.out.2.1, H1.out.2.2]
      have B := below_drewN' (Below.refl w.heap.size w) nq
      exact ⟨_, _, _, _, rfl, Sls.nil _ _, (PuP.holds C g s).below HF.out B, Turns.of_below B⟩
    · have d2 : decide (s.c.room ≤ (n : Int)) = false := by simpa using h2
      have hE : puSendE s k = 0 := by unfold puSendE; rw [if_neg h1, if_neg (by omega)]
      have H1 : Hid (puSendN s k = s.ls.length ∧ puSendL s m = puOnL (puAdd s m) ∧ puSend s m = puOn (puAdd s m)) := ⟨by unfold puSendN; rw [if_pos hE], by unfold puSendL; rw [hml, if_pos hE], by unfold puSend; rw [hml, if_pos hE]⟩
      have HOKA := Lib.hid (hok.add m (by rw [hml]; exact hE))
      have hcf := hok.1
      have HACC := Lib.hid (fun W (U : Below w.heap.size w W) => puaccept_any C A k c m (h.below C U) (hB.below U) (by omega) hb (by omega) (by obtain ⟨⟨_, _⟩, ⟨_, _⟩, ⟨_, _⟩, _⟩ := hcf; omega))
      have HLA : Hid ((puAdd s m).ls.length ≤ 100000) := by show (s.ls ++ [m]).length ≤ _; simp; omega
      have HG1 := Lib.hid hg1
      have HG3 := Lib.hid hg3
      have HGL := Lib.hid (lt_row hg1)
      have HSZ := Lib.hid (h.lt C)
      unfold GivesSend
      rw [hE]
      clear h hok hB hE h1 hml hcnt hg1 hg3 h2 hcf
      go_enter Try.func11, Try.ntmps11
      go_wp2_with (fail)
      refine HM.out.mono ?_
      rintro e w1 ⟨rfl, rfl⟩
      go_wp2_with (fail)
      go_quiet (fail)
      go_wp2_with (fail)
      have B := below_drewN' (Below.refl w.heap.size w) nq
      refine (HACC.out _ B).mono ?_
      rintro e w2 ⟨rfl, P2, pc2, vs2, Xc2, R2, t2⟩
      have T2 : Turns (EnX x P pc Xt Xc) (EnX x P2 pc2 Xt Xc2) w w2 := (Turns.of_below B).trans t2
      have HT2 := Lib.hid T2
      have HR2 : Hid (EnV T x gt P2 (n + 1) pc2 vs2 (puAdd s m) (puAdd s m).base Xt Xc2 w2) := R2
      have c0' : w2.cell? ⟨g, 0, none⟩ = some (.pointer (some ⟨x, 0, none⟩)) := cell_of_row _ _ _ _ _ _ ((T2.off.block g HGL.out HG3.out).trans HG1.out)
      have HON := Lib.hid (pugoon_any C x gt P2 (n + 1) pc2 vs2 (puAdd s m) Xt Xc2 w2 HR2.out HOKA.out HLA.out)
      clear R2 t2 T2 c0 c2 c6
      go_wp2_with (fail)
      refine HON.out.mono ?_
      rintro e w3 ⟨vo, Xt3, rfl, hO3, R3, t3⟩
      have HO3 := Lib.hid hO3
      have HR3 := Lib.hid R3
      have HT3 := Lib.hid (HT2.out.trans t3)
      clear hO3 R3 t3 c0'
      go_wp2
      go_ret3
      rw [H1.out.1, H1.out.2.1, H1.out.2.2]
      obtain ⟨A', c', rfl, hS⟩ := ((HO3.out.base HT2.out.off.size).gx HGL.out).sls
      obtain ⟨hP, hT⟩ := PuP.turn (s' := puOn (puAdd s m)) HG1.out HG3.out ⟨gt, P2, n + 1, pc2, vs2, Xt3, Xc2, HR3.out, rfl⟩ HT3.out
      exact ⟨A', _, c', _, rfl, hS, hP, hT⟩
end Go.Proofs.Ytncpabnmdofomaa
