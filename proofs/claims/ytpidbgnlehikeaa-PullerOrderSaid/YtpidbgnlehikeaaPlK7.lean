/- Package puller, as landed: Receive. -/
import Derived.Test.YtpidbgnlehikeaaPlK6
namespace Go.Proofs.Ytpidbgnlehikeaa
open Go.RowKit
set_option maxRecDepth 20000

/-- what lies off an object lies off it still when it is turned -/
theorem av_turn {X X' : Nat → Prop} {w w' : World} {A : Option Addr} {n c : Nat} {l : List UInt8} (hB : Bys w A n c l) (hA : Av X n A) (t : Turns X X' w w') : Av X' n A := fun hn p e hk => by
  obtain ⟨b, o, e', hb, _⟩ := hB.at_ hn
  rw [e] at e'
  injection e' with e'
  subst e'
  rcases t.grow _ hk with h | h
  · exact hA hn _ e h
  · have hb : b < w.heap.size := hb
    have h : w.heap.size ≤ b := h
    omega
section
variable {Q : Nat → Nat → List (List UInt8) → World → (Nat → Prop) → Prop}
set_option maxHeartbeats 8000000 in
theorem plrecv_any (C : QuC Q) (g : Nat) (s : Pls) (w : World) (X : Nat → Prop) (hF : PlP Q g s w X) (hok : PlOk s) (hb : s.ent ≤ 200000) :
    Calls Try.prog 14 #[.pointer (some ⟨g, 0, none⟩)] w (GivesRx (PlP Q g (plRecv s)) X (s.ls.headD []) (plRecvL s) (!s.ls.isEmpty) w) := by
  obtain ⟨x, Y, hg1, ⟨gq, m, Xq, Xl, h, rfl⟩, hg3, rfl, hrt, hbe⟩ := hF
  have hgw := lt_row hg1
  have c0 : w.cell? ⟨g, 0, none⟩ = some (.pointer (some ⟨x, 0, none⟩)) := cell_of_row _ _ _ _ _ _ hg1
  have HM := Lib.hid (plmade_any g ⟨x, 0, none⟩ _ c0)
  have d2 := h.cells.1.2.2.1
  have hxw := obrow_lt h.1
  have HPO := Lib.hid (C.pop gq _ s.ls w Xq h.2.1)
  have HG1 := Lib.hid hg1
  have HG3 := Lib.hid hg3
  have HTURN : Hid (∀ w1 X' l', Q gq s.c.room.toNat l' w1 X' → Turns Xq X' w w1 → Ob x 73 (plcells gq m s) (Q gq s.c.room.toNat l') (LtP m s.late) X' Xl w1 ∧ Turns (Ob3 x Xq Xl) (Ob3 x X' Xl) w w1) := fun w1 X' l' q t => Ob.p (LtP.holds _ _) h q t
  have HAV : Hid (∀ (A : Option Addr) (n : Nat) (X' : Nat → Prop), Av X' n A → (0 < n → ∀ p, A = some p → Xq p.block ∨ w.heap.size ≤ p.block) → Av (Ob3 x X' Xl) n A ∧ Av (· = g) n A ∧ (0 < n → ∀ p, A = some p → (p.block = g ∨ Ob3 x Xq Xl p.block) ∨ w.heap.size ≤ p.block)) := fun A n X' hA hp => by
    obtain ⟨h1, h2, h3, h4, h5, h6⟩ := h
    refine ⟨fun hn p e hk => ?_, fun hn p e hk => ?_, fun hn p e => (hp hn p e).imp (fun h => .inr (.inr (.inl h))) id⟩
    · have hq := hp hn p e
      rcases hk with hk | hk | hk
      · rw [hk] at hq
        rcases hq with hq | hq
        · exact h4 hq
        · omega
      · exact hA hn p e hk
      · rcases hq with hq | hq
        · exact h6 _ hq hk
        · have := (LtP.holds _ _).lt h3 _ hk; omega
    · have hq := hp hn p e
      rw [show p.block = g from hk] at hq
      rcases hq with hq | hq
      · exact hg3 (.inr (.inl hq))
      · omega
  obtain ⟨ls, hls⟩ : ∃ ls, s.ls = ls := ⟨_, rfl⟩
  cases ls with
  | nil =>
    have e1 : plRecv s = s := by unfold plRecv; rw [if_pos hls]
    have e2 : plRecvL s = [] := by unfold plRecvL; rw [if_pos hls]
    rw [e1, e2]
    rw [hls] at HPO ⊢
    have HFIN := Lib.hid (And.intro hrt hbe)
    have HLS := Lib.hid hls
    clear h hok e1 e2 hg1 hg3 hls hrt
    go_enter Try.func14, Try.ntmps14
    go_wp2_with (fail)
    refine HM.out.mono ?_
    rintro e w1 ⟨rfl, rfl⟩
    go_wp2_with (fail)
    refine HPO.out.mono ?_
    rintro e w1 ⟨A, n, c, X', rfl, hFr, hp, q1, t1⟩
    have HE := Lib.hid (And.intro hFr (And.intro hp (HTURN.out w1 X' _ q1 t1)))
    clear hFr hp q1 t1
    go_wp2
    go_ret3
    obtain ⟨a1, a2, a3⟩ := HAV.out A n X' HE.out.1.2.1 HE.out.2.1
    obtain ⟨hP, hT⟩ := PlP.turn (s' := s) HG1.out HG3.out ⟨gq, m, X', Xl, by show Ob _ _ _ (Q gq s.c.room.toNat s.ls) _ _ _ _; rw [HLS.out]; exact HE.out.2.2.1, rfl⟩ HE.out.2.2.2 HFIN.out
    exact ⟨A, n, c, none, 0, 0, _, rfl, HE.out.1.1, fun hn p e hk => hk.elim (a2 hn p e) (a1 hn p e), a3, Sls.nil _ _, hP, hT⟩
  | cons m0 r =>
    have hne : s.ls ≠ [] := by rw [hls]; simp
    have hokp := hok.pop hne
    have hoke := hokp.enter
    have hl64 := hokp.llen
    have epp : plPop s = { s with ls := r, ret := s.ret + 1 } := by unfold plPop; rw [hls]; rfl
    have e1 : plRecv s = plEnter (plPop s) := by unfold plRecv; rw [if_neg hne]
    have e2 : plRecvL s = if s.ent < (plEnter (plPop s)).ent then plTells (plEnter (plPop s)) else [] := by unfold plRecvL; rw [if_neg hne, e1]
    have hpe : (plPop s).ent = s.ent := rfl
    have heb : (plEnter (plPop s)).ent ≤ 300000 := by have := hoke.2.2.2.2; omega
    rw [e1, e2]
    rw [hls] at HPO ⊢
    have HFIN : Hid ((plEnter (plPop s)).ret + (plEnter (plPop s)).ls.length = (plEnter (plPop s)).ent ∧ (plEnter (plPop s)).ent ≤ 300000) := ⟨hoke.1.2.2.2.2, heb⟩
    have HEP : Hid (∀ X' W, Ob x 73 (plcells gq m s) (Q gq s.c.room.toNat r) (LtP m s.late) X' Xl W → PeV Q x gq m (plPop s) X' Xl W) := fun X' W q => by rw [epp]; exact q
    have HOP := Lib.hid hokp
    have HOE := Lib.hid hoke.1
    have hpb : (plPop s).ent ≤ 300000 := by omega
    have HEN : Hid (∀ X' W, PeV Q x gq m (plPop s) X' Xl W → Calls Try.prog 28 #[.pointer (some ⟨x, 0, none⟩)] W fun e w' => e = .returned (.bool (decide (s.ent < (plEnter (plPop s)).ent))) ∧ ∃ Xq' Xl', PeV Q x gq m (plEnter (plPop s)) Xq' Xl' w' ∧ Turns (Ob3 x X' Xl) (Ob3 x Xq' Xl') W w') := fun X' W q => plenter_any C q HOP.out hpb
    clear h hok e1 e2 hg1 hg3 hls hrt hokp hoke epp hl64 hpe hpb
    generalize plEnter (plPop s) = s3 at *
    by_cases hlt : s.ent < s3.ent
    · rw [if_pos hlt]
      have dd : decide (s.ent < s3.ent) = true := by simpa using hlt
      rw [dd] at HEN
      clear hlt dd
      go_enter Try.func14, Try.ntmps14
      go_wp2_with (fail)
      refine HM.out.mono ?_
      rintro e w1 ⟨rfl, rfl⟩
      go_wp2_with (fail)
      refine HPO.out.mono ?_
      rintro e w1 ⟨A, n, c, X', rfl, hFr, hp, q1, t1⟩
      have HE := Lib.hid (And.intro hFr (And.intro hp (HTURN.out w1 X' _ q1 t1)))
      have k0 : w1.cell? ⟨g, 0, none⟩ = some (.pointer (some ⟨x, 0, none⟩)) := (HE.out.2.2.2.off.cell (p := ⟨g, 0, none⟩) hgw HG3.out).trans (cell_of_row _ _ _ _ _ _ HG1.out)
      clear hFr hp q1 t1 c0 d2
      go_wp2_with (fail)
      refine (HEN.out X' w1 (HEP.out X' w1 HE.out.2.2.1)).mono ?_
      rintro e w2 ⟨rfl, X3, Xl3, R3, t3⟩
      have HT3 := Lib.hid (And.intro t3 (HE.out.2.2.2.trans t3))
      have HR3 := Lib.hid R3
      have HTE := Lib.hid (pltell_any C R3 HOE.out heb)
      have k0 : w2.cell? ⟨g, 0, none⟩ = some (.pointer (some ⟨x, 0, none⟩)) := (HT3.out.2.off.cell (p := ⟨g, 0, none⟩) hgw HG3.out).trans (cell_of_row _ _ _ _ _ _ HG1.out)
      clear R3 t3
      go_wp2_with (fail)
      refine HTE.out.mono ?_
      rintro e w4 ⟨vo, rfl, hO, U4⟩
      have HO4 := Lib.hid (And.intro hO U4)
      clear hO U4
      go_wp2
      go_ret3
      obtain ⟨a1, a2, a3⟩ := HAV.out A n X' HE.out.1.2.1 HE.out.2.1
      have b1 := av_turn HE.out.1.1 a1 HT3.out.1
      have hB2 := HE.out.1.1.off a1 HT3.out.1.off
      obtain ⟨A', c', rfl, hS⟩ := ((HO4.out.1.base HT3.out.2.off.size).gxl hgw).sls
      obtain ⟨hP, hT⟩ := PlP.turn HG1.out HG3.out ⟨gq, m, X3, Xl3, HR3.out.below C HO4.out.2, rfl⟩ (HT3.out.2.next HO4.out.2) HFIN.out
      exact ⟨A, n, c, A', _, c', _, rfl, hB2.below HO4.out.2, fun hn p e hk => hk.elim (a2 hn p e) (b1 hn p e), a3, hS, hP, hT⟩
    · rw [if_neg hlt]
      have dd : decide (s.ent < s3.ent) = false := by simpa using hlt
      rw [dd] at HEN
      clear hlt dd
      go_enter Try.func14, Try.ntmps14
      go_wp2_with (fail)
      refine HM.out.mono ?_
      rintro e w1 ⟨rfl, rfl⟩
      go_wp2_with (fail)
      refine HPO.out.mono ?_
      rintro e w1 ⟨A, n, c, X', rfl, hFr, hp, q1, t1⟩
      have HE := Lib.hid (And.intro hFr (And.intro hp (HTURN.out w1 X' _ q1 t1)))
      have k0 : w1.cell? ⟨g, 0, none⟩ = some (.pointer (some ⟨x, 0, none⟩)) := (HE.out.2.2.2.off.cell (p := ⟨g, 0, none⟩) hgw HG3.out).trans (cell_of_row _ _ _ _ _ _ HG1.out)
      clear hFr hp q1 t1 c0 d2
      go_wp2_with (fail)
      refine (HEN.out X' w1 (HEP.out X' w1 HE.out.2.2.1)).mono ?_
      rintro e w2 ⟨rfl, X3, Xl3, R3, t3⟩
      have HT3 := Lib.hid (And.intro t3 (HE.out.2.2.2.trans t3))
      have HR3 := Lib.hid R3
      clear R3 t3
      go_wp2
      go_ret3
      obtain ⟨a1, a2, a3⟩ := HAV.out A n X' HE.out.1.2.1 HE.out.2.1
      have b1 := av_turn HE.out.1.1 a1 HT3.out.1
      have hB2 := HE.out.1.1.off a1 HT3.out.1.off
      obtain ⟨hP, hT⟩ := PlP.turn HG1.out HG3.out ⟨gq, m, X3, Xl3, HR3.out, rfl⟩ HT3.out.2 HFIN.out
      exact ⟨A, n, c, none, 0, 0, _, rfl, hB2, fun hn p e hk => hk.elim (a2 hn p e) (b1 hn p e), a3, Sls.nil _ _, hP, hT⟩
end
end Go.Proofs.Ytpidbgnlehikeaa
