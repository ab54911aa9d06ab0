/- Package hearer, as landed: Receive. -/
import Derived.Test.YtpdnpfohcnpenaaHeK3
namespace Go.Proofs.Ytpdnpfohcnpenaa
open Go.RowKit
set_option maxRecDepth 20000

/-- an engine in the state s, its blocks X -/
def HeA (ge gq gl gt : Nat) (s : Hs) (w : World) (X : Nat → Prop) : Prop := ∃ Xq Xt, HeV ge gq gl gt s Xq Xt w ∧ X = Bl ge gl Xq Xt
set_option maxHeartbeats 4000000 in
theorem heereceive_any (ge gq gl gt : Nat) (s : Hs) (Xq Xt : Nat → Prop) (w : World) (h : HeV ge gq gl gt s Xq Xt w) (hok : HeOk s) (hent : s.ent < 1000000) (hret : s.ret < 1000000) :
    Calls Try.prog 36 #[.pointer (some ⟨ge, 0, none⟩)] w (GivesRf (HeA ge gq gl gt (heRecv s)) (Bl ge gl Xq Xt) (s.ls.headD []) (!s.ls.isEmpty) w) := by
  obtain ⟨c0, -, -, -, c4, -⟩ := h.cells
  have HQ := Lib.hid (qupop_any gq s.room s.ls w Xq h.2.1)
  have HR := Lib.hid h
  have key : ∀ (A : Option Addr) (n : Nat) (Xq' : Nat → Prop), Av Xq' n A → (0 < n → ∀ p, A = some p → Xq p.block ∨ w.heap.size ≤ p.block) → Av (Bl ge gl Xq' Xt) n A ∧ (0 < n → ∀ p, A = some p → Bl ge gl Xq Xt p.block ∨ w.heap.size ≤ p.block) := fun A n Xq' v1 v2 => ⟨fun hn p e hx => by
      have hlt := HR.out.lt
      have hdis := HR.out.2.2.2.2
      rcases hx with hx | hx | hx | hx
      · rcases v2 hn p e with h3 | h3
        · exact hdis.2.1 (hx ▸ h3)
        · have := hlt _ (.inl rfl); omega
      · rcases v2 hn p e with h3 | h3
        · exact hdis.2.2.1 (hx ▸ h3)
        · have := hlt _ (.inr (.inl rfl)); omega
      · exact v1 hn p e hx
      · rcases v2 hn p e with h3 | h3
        · exact hdis.2.2.2.2.2 _ h3 hx
        · have := hlt _ (.inr (.inr (.inr hx))); omega, fun hn p e => (v2 hn p e).imp (fun h => .inr (.inr (.inl h))) id⟩
  have KEY := Lib.hid key
  clear key
  by_cases h0 : s.ls = []
  · have HS : Hid (heRecv s = s) := by show _ = _; unfold heRecv; rw [if_pos h0]
    have he : (!s.ls.isEmpty) = false := by rw [h0]; rfl
    have ht : s.ls.tail = s.ls := by rw [h0]; rfl
    rw [he] at HQ ⊢
    rw [ht] at HQ
    clear h h0 hok he ht
    go_enter Try.func36, Try.ntmps36
    go_wp2_with (fail)
    refine HQ.out.mono ?_
    rintro e w1 ⟨A, n, c, Xq', rfl, f1, v2, q1, t1⟩
    have HE := Lib.hid (HR.out.q q1 t1)
    have HF := Lib.hid (And.intro f1.1 (KEY.out A n Xq' f1.2.1 v2))
    clear f1 v2 q1 t1
    go_wp2
    go_ret2
    rw [HS.out]
    exact ⟨A, n, c, _, rfl, HF.out.1, HF.out.2.1, HF.out.2.2, ⟨_, _, HE.out.1, rfl⟩, HE.out.2⟩
  · have he : (!s.ls.isEmpty) = true := by cases hl : s.ls with | nil => exact absurd hl h0 | cons a r => rfl
    have HS : Hid (heRecv s = heEnter { s with ls := s.ls.tail, ret := s.ret + 1 }) := by show _ = _; unfold heRecv; rw [if_neg h0]
    have hok2 : HeOk { s with ls := s.ls.tail, ret := s.ret + 1 } := ⟨⟨hok.1.1, hok.1.2.1, by have := hok.1.2.2.1; simp; omega, fun m hm => hok.1.2.2.2 m (List.mem_of_mem_tail hm)⟩, hok.2.1, hok.2.2.1, hok.2.2.2.1, hok.2.2.2.2.1, by show s.ret + 1 ≤ 1000000; omega⟩
    have HE := Lib.hid (fun W Xq' (R : HeV ge gq gl gt { s with ls := s.ls.tail, ret := s.ret + 1 } Xq' Xt W) => heeenter_any ge gq gl gt _ Xq' Xt W R hok2 hent)
    obtain ⟨rr, hrr⟩ : ∃ rr, s.ret + 1 = rr := ⟨_, rfl⟩
    have er : (s.ret : Int) + 1 = (rr : Int) := by omega
    have hr6 : rr ≤ 1000000 := by omega
    rw [hrr] at HS HE
    rw [he] at HQ ⊢
    clear h h0 hok hok2 he hrr
    go_enter Try.func36, Try.ntmps36
    go_wp2_with (fail)
    refine HQ.out.mono ?_
    rintro e w1 ⟨A, n, c, Xq', rfl, f1, v2, q1, t1⟩
    obtain ⟨R1, k1⟩ := HR.out.q q1 t1
    have HF := Lib.hid (And.intro f1.1 (KEY.out A n Xq' f1.2.1 v2))
    have bf4 := R1.cells.2.2.2.2.2 4
    have b4 : w1.cell? ⟨ge, 4, none⟩ = some (.int .i64 (s.ret : Int)) := R1.cells.2.2.2.2.1
    have R2 := R1.c (s' := { s with ls := s.ls.tail, ret := rr }) 4 (.int .i64 (rr : Int)) (by simp [hecells]) rfl rfl rfl rfl rfl
    have HE2 := Lib.hid (HE.out _ _ R2.1)
    have HK2 := Lib.hid (k1.trans R2.2)
    have HO2 := Lib.hid R2.2.off
    clear R1 R2 k1 q1 t1 f1 v2 c0 c4
    go_wp2_with (fail)
    refine HE2.out.mono ?_
    rintro e w2 ⟨rfl, Xq2, Xt2, R3, k3⟩
    have HR3 := Lib.hid (And.intro R3 k3)
    clear R3 k3
    go_wp2
    go_ret2
    rw [HS.out]
    have hB2 := HF.out.1.off HF.out.2.1 HO2.out
    refine ⟨A, n, c, Bl ge gl Xq2 Xt2, rfl, hB2.off HF.out.2.1 HR3.out.2.off, ?_, HF.out.2.2, ⟨Xq2, Xt2, HR3.out.1, rfl⟩, HK2.out.trans HR3.out.2⟩
    intro hn p e hx
    rcases HR3.out.2.grow _ hx with h1 | h1
    · exact HF.out.2.1 hn p e h1
    · obtain ⟨b', o', e', hb', _⟩ := hB2.at_ hn
      rw [e] at e'
      have e2 := Option.some.inj e'
      subst e2
      exact absurd hb' (Nat.not_lt.2 h1)
set_option maxHeartbeats 2000000 in
theorem herecv_any (g : Nat) (s : Hs) (w : World) (X : Nat → Prop) (hF : HeP g s w X) (hok : HeOk s) (hent : s.ent < 1000000) (hret : s.ret < 1000000) :
    Calls Try.prog 17 #[.pointer (some ⟨g, 0, none⟩)] w (GivesRf (HeP g (heRecv s)) X (s.ls.headD []) (!s.ls.isEmpty) w) := by
  obtain ⟨ge, gq, gl, gt, Xq, Xt, h1, h2, h3, rfl⟩ := hF
  have c0 : w.cell? ⟨g, 0, none⟩ = some (.pointer (some ⟨ge, 0, none⟩)) := cell_of_row _ _ _ _ _ _ h1
  have HM := Lib.hid (hemade_any g ⟨ge, 0, none⟩ w c0)
  have HE : Hid (Calls Try.prog 36 #[.pointer (some ⟨ge, 0, none⟩)] w (GivesRf (HeP g (heRecv s)) (fun k => k = g ∨ Bl ge gl Xq Xt k) (s.ls.headD []) (!s.ls.isEmpty) w)) := by
    refine (heereceive_any ge gq gl gt s Xq Xt w h2 hok hent hret).mono ?_
    rintro e w' ⟨A, n, c, X', rfl, hB, hA, hN, ⟨Xq', Xt', h2', rfl⟩, t⟩
    obtain ⟨k1, k2⟩ := HeP.turn h1 h3 h2' t
    have hl := lt_row h1
    refine ⟨A, n, c, _, rfl, hB, fun hn p e hx => ?_, fun hn p e => (hN hn p e).imp .inr id, k1, k2⟩
    rcases hx with hx | hx
    · rcases hN hn p e with h4 | h4
      · exact h3 (hx ▸ h4)
      · omega
    · exact hA hn p e hx
  clear h1 h2 h3 hok
  generalize s.ls.headD [] = m at *
  generalize (!s.ls.isEmpty) = b at *
  go_enter Try.func17, Try.ntmps17
  go_wp2_with (fail)
  refine HM.out.mono ?_
  rintro e w1 ⟨rfl, rfl⟩
  go_wp2_with (fail)
  refine HE.out.mono ?_
  rintro e w2 ⟨A, n, c, X', rfl, r1, r2⟩
  have HG := Lib.hid (And.intro r1 r2)
  clear r1 r2
  go_wp2
  go_ret2
  exact ⟨A, n, c, X', rfl, HG.out⟩
end Go.Proofs.Ytpdnpfohcnpenaa
