/- What kedgeref25's Receive answers. -/
import Derived.Test.YtpidbgnlehikeaaRpl5
namespace Go.Proofs.Ytpidbgnlehikeaa
open Go.RowKit
set_option maxRecDepth 20000

def GivesRr (g gq : Nat) (s s' : Pls) (l : List Sld) (Xq Xl : Nat → Prop) (w : World) (e : Ending) (w' : World) : Prop := ∃ A n c vo v' Xq' Xl', e = .returned (.tuple #[.slice A n c, vo, .bool (!s.ls.isEmpty)]) ∧ Bys w' A n c (s.ls.headD []) ∧ Out w (Tri3 g Xq' Xl') vo l w' ∧ RLv g gq v' s' Xq' Xl' w' ∧ Turns (Tri3 g Xq Xl) (Tri3 g Xq' Xl') w w'
set_option maxHeartbeats 16000000 in
theorem rlrecv_any (g gq : Nat) (v : Value) (s : Pls) (Xq Xl : Nat → Prop) (w : World) (h : RLv g gq v s Xq Xl w) (hok : PlOk s) (hb : s.ent ≤ 200000) :
    Calls Try.prog 15 #[.pointer (some ⟨g, 0, none⟩)] w (GivesRr g gq s (plRecv s) (plRecvL s) Xq Xl w) := by
  obtain ⟨-, c7, -, -, c10, hfz⟩ := h.cells
  have f10 := hfz 10
  have hgw := lt_row h.1
  have HR := Lib.hid h
  obtain ⟨ls, hls⟩ : ∃ ls, s.ls = ls := ⟨_, rfl⟩
  cases ls with
  | nil =>
    have HPO := Lib.hid (rqpop_no gq s.c.room.toNat w Xq (by have := h.2.1; rwa [hls] at this))
    have H1 : Hid (plRecv s = s ∧ plRecvL s = [] ∧ (!s.ls.isEmpty) = false ∧ s.ls.headD [] = []) := ⟨by unfold plRecv; rw [if_pos hls], by unfold plRecvL; rw [if_pos hls], by rw [hls]; rfl, by rw [hls]; rfl⟩
    clear h hok hls hfz
    go_enter Try.func15, Try.ntmps15
    go_wp2_with (fail)
    refine HPO.out.mono ?_
    rintro e w1 ⟨rfl, rfl⟩
    go_wp2
    go_ret3
    exact ⟨none, 0, 0, .slice none 0 0, v, Xq, Xl, by rw [H1.out.2.2.1]; rfl, by rw [H1.out.2.2.2]; exact Bys.nil _, by rw [H1.out.2.1]; exact Out.nil _ _ _, by rw [H1.out.1]; exact HR.out, Turns.of_below (Below.refl _ _)⟩
  | cons m r =>
    have hne : s.ls ≠ [] := by rw [hls]; simp
    have HPO := Lib.hid (rqpop_yes gq s.c.room.toNat m r w Xq (by have := h.2.1; rwa [hls] at this))
    have hokp := hok.pop hne
    have hoke := hokp.enter
    have hl64 := hokp.llen
    have hll : (plPop s).late.length ≤ 64 := hl64
    have epp : plPop s = { s with ls := r, ret := s.ret + 1 } := by unfold plPop; rw [hls]; rfl
    have hent : s.ent ≤ (plEnter (plPop s)).ent ∧ (plEnter (plPop s)).ent ≤ s.ent + 64 := ⟨hoke.2.2.1, by have h5 := hoke.2.2.2.2; have h6 : (plPop s).ent = s.ent := rfl; omega⟩
    have hret : s.ret ≤ 200000 := by have := hok.2.2.2.2; omega
    have e1 : plRecv s = plEnter (plPop s) := by unfold plRecv; rw [if_neg hne]
    have e2 : plRecvL s = if s.ent < (plEnter (plPop s)).ent then plTells (plEnter (plPop s)) else [] := by unfold plRecvL; rw [if_neg hne, e1]
    have H1 : Hid ((!s.ls.isEmpty) = true ∧ s.ls.headD [] = m) := ⟨by rw [hls]; rfl, by rw [hls]; rfl⟩
    have HEN : Hid (∀ v2 Xq2 Xl2 W, RLv g gq v2 (plPop s) Xq2 Xl2 W → Calls Try.prog 32 #[.pointer (some ⟨g, 0, none⟩)] W fun e w' => e = .returned (.int .i64 (((plEnter (plPop s)).ent - s.ent : Nat) : Int)) ∧ ∃ v' Xq' Xl', RLv g gq v' (plEnter (plPop s)) Xq' Xl' w' ∧ Turns (Tri3 g Xq2 Xl2) (Tri3 g Xq' Xl') W w') := fun v2 Xq2 Xl2 W q => rlenter_any g gq v2 (plPop s) Xq2 Xl2 W q hokp hb
    have HTE : Hid (∀ v2 Xq2 Xl2 W, RLv g gq v2 (plEnter (plPop s)) Xq2 Xl2 W → Calls Try.prog 33 #[.pointer (some ⟨g, 0, none⟩)] W fun e w' => ∃ vo, e = .returned vo ∧ Out W (Tri3 g Xq2 Xl2) vo (plTells (plEnter (plPop s))) w' ∧ Below W.heap.size W w') := fun v2 Xq2 Xl2 W q => rltells_any g gq v2 _ Xq2 Xl2 W q hoke.1 (by omega)
    have HPQ : Hid (∀ w1 X', RQ gq s.c.room.toNat r w1 X' → Turns Xq X' w w1 → RLv g gq v (plPop s) X' Xl (w1.setCell ⟨g, 10, none⟩ (.int .i64 ((s.ret : Int) + 1))) ∧ Turns (Tri3 g Xq Xl) (Tri3 g X' Xl) w (w1.setCell ⟨g, 10, none⟩ (.int .i64 ((s.ret : Int) + 1))) ∧ w1.cell? ⟨g, 10, none⟩ = some (.int .i64 (s.ret : Int)) ∧ w1.frozen? ⟨g, 10, none⟩ = false) := fun w1 X' q t => by
      have k1 := h.q q t
      have k2 := k1.1.c (s' := plPop s) 10 (.int .i64 ((s.ret : Int) + 1)) (by rw [epp]; simp [lcells]) rfl (by rw [epp]) rfl
      obtain ⟨-, -, -, -, k10, kfz⟩ := k1.1.cells
      exact ⟨k2.1, k1.2.trans k2.2, k10, kfz 10⟩
    have HXD : Hid (∀ X' n A, Av (fun k => X' k ∨ ¬ Xq k) n A → Av (Tri3 g X' Xl) n A ∧ Av (· = g) n A) := fun X' n A hA => by
      obtain ⟨-, -, -, -, -, h6, -, h8⟩ := h
      refine ⟨fun hn p e hx => ?_, fun hn p e hx => hA hn p e (.inr (hx ▸ h6))⟩
      have hh := hA hn p e
      have hq : Xq p.block := by
        refine Classical.byContradiction fun h => hh (.inr h)
      rcases hx with hx | hx | hx
      · exact h6 (hx ▸ hq)
      · exact hh (.inl hx)
      · exact h8 _ hx hq
    rw [e1]
    generalize hLL : plRecvL s = LL at *
    have HLL := Lib.hid e2
    generalize plEnter (plPop s) = s3 at *
    generalize hR1 : s.ret = rt at *
    have HPQ := HPQ
    clear h hok hls hfz hokp hoke epp e1 e2 hne hl64 hll hR1 hLL
    go_enter Try.func15, Try.ntmps15
    go_wp2_with (fail)
    refine HPO.out.mono ?_
    rintro e w1 ⟨A, n, c, X', rfl, hB, q1, t1, hA⟩
    have K := Lib.hid (HPQ.out w1 X' q1 t1)
    obtain ⟨d10, g10⟩ := K.out.2.2
    have hav := HXD.out X' n A hA
    have HAV := Lib.hid hav.1
    have HB2 := Lib.hid (hB.off hav.2 ((Off.refl (· = g) w1).setCell (p := ⟨g, 10, none⟩) (.inl rfl) (.int .i64 ((rt : Int) + 1))))
    clear q1 t1 hA hB hav c7 c10 f10
    go_wp2_with (fail)
    refine (HEN.out _ _ _ _ K.out.1).mono ?_
    rintro e w4 ⟨rfl, v4, Xq4, Xl4, r4, t4⟩
    have HR4 := Lib.hid r4
    have HT4 := Lib.hid (K.out.2.1.trans t4)
    have HB4 := Lib.hid (HB2.out.off HAV.out t4.off)
    clear r4 t4 d10 g10
    by_cases hp : s.ent < s3.ent
    · have HLE := HLL.out
      rw [if_pos hp] at HLE
      have HLE := Lib.hid HLE
      have z1 : (0 : Int) < ((s3.ent - s.ent : Nat) : Int) := by omega
      have z2 : 0 < s3.ent - s.ent := by omega
      generalize s3.ent - s.ent = z at *
      go_wp2_with (fail)
      refine (HTE.out _ _ _ _ HR4.out).mono ?_
      rintro e w5 ⟨vo, rfl, o5, T5⟩
      have HO5 := Lib.hid o5
      have HT5 := Lib.hid T5
      clear o5 T5
      go_wp2
      go_ret3
      exact ⟨A, n, c, vo, _, Xq4, Xl4, by rw [H1.out.1]; rfl, by rw [H1.out.2]; exact HB4.out.below HT5.out, by rw [HLE.out]; exact HO5.out.base HT4.out.off.size, HR4.out.below HT5.out, HT4.out.next HT5.out⟩
    · have HLE := HLL.out
      rw [if_neg hp] at HLE
      have HLE := Lib.hid HLE
      have z1 : s3.ent - s.ent = 0 := by omega
      rw [z1]
      go_wp2
      go_ret3
      exact ⟨A, n, c, .slice none 0 0, _, Xq4, Xl4, by rw [H1.out.1]; rfl, by rw [H1.out.2]; exact HB4.out, by rw [HLE.out]; exact Out.nil _ _ _, HR4.out, HT4.out⟩
end Go.Proofs.Ytpidbgnlehikeaa
