/- Package hearer, as landed: Receive, Take, and all of its contracts. -/
import Derived.Test.YtpdnpfohcnpenaaHeK3
namespace Go.Proofs.Ytpdnpfohcnpenaa
open Go.RowKit
set_option maxRecDepth 20000

/-- an engine in the state s, its blocks X -/
def HeA (ge gq gl gt : Nat) (s : Hs) (w : World) (X : Nat → Prop) : Prop := ∃ Xq Xt, HeV ge gq gl gt s Xq Xt w ∧ X = Bl ge gl Xq Xt
set_option maxHeartbeats 4000000 in
theorem heereceive_any (ge gq gl gt : Nat) (s : Hs) (Xq Xt : Nat → Prop) (w : World) (h : HeV ge gq gl gt s Xq Xt w) (hok : HeOk s) (hent : s.ent < 1000000) (hret : s.ret < 1000000) :
    Calls Try.prog 36 #[.pointer (some ⟨ge, 0, none⟩)] w (GivesRf (HeA ge gq gl gt (heRecv s)) (Bl ge gl Xq Xt) (s.ls.headD []) (!s.ls.isEmpty) w) := by
  obtain ⟨c0, -, -, -, c4, -⟩ := h.cells
  have HQ := Lib.hid (qupop_any gq s.room s.ls w Xq h.2.1)
  have HR := Lib.hid h
  have key : ∀ (A : Option Addr) (n : Nat) (Xq' : Nat → Prop), Av Xq' n A → (0 < n → ∀ p, A = some p → Xq p.block ∨ w.heap.size ≤ p.block) → Av (Bl ge gl Xq' Xt) n A ∧ (0 < n → ∀ p, A = some p → Bl ge gl Xq Xt p.block ∨ w.heap.size ≤ p.block) := fun A n Xq' v1 v2 => ⟨fun hn p e hx => by
      have hlt := HR.out.lt
      have hdis := HR.out.2.2.2.2
      rcases hx with hx | hx | hx | hx
      · rcases v2 hn p e with h3 | h3
        · exact hdis.2.1 (hx ▸ h3)
        · have := hlt _ (.inl rfl); omega
      · rcases v2 hn p e with h3 | h3
        · exact hdis.2.2.1 (hx ▸ h3)
        · have := hlt _ (.inr (.inl rfl)); omega
      · exact v1 hn p e hx
      · rcases v2 hn p e with h3 | h3
        · exact hdis.2.2.2.2.2 _ h3 hx
        · have := hlt _ (.inr (.inr (.inr hx))); omega, fun hn p e => (v2 hn p e).imp (fun h => .inr (.inr (.inl h))) id⟩
  have KEY := Lib.hid key
  clear key
  by_cases h0 : s.ls = []
  · have HS : Hid (heRecv s = s) := by show _ = _; unfold heRecv; rw [if_pos h0]
    have he : (!s.ls.isEmpty) = false := by rw [h0]; rfl
    have ht : s.ls.tail = s.ls := by rw [h0]; rfl
    rw [he] at HQ ⊢
    rw [ht] at HQ
    clear h h0 hok he ht
    go_enter Try.func36, Try.ntmps36
    go_wp2_with (fail)
    refine HQ.out.mono ?_
    rintro e w1 ⟨A, n, c, Xq', rfl, f1, v2, q1, t1⟩
    have HE := Lib.hid (HR.out.q q1 t1)
    have HF := Lib.hid (And.intro f1.1 (KEY.out A n Xq' f1.2.1 v2))
    clear f1 v2 q1 t1
    go_wp2
    go_ret2
    rw [HS.out]
    exact ⟨A, n, c, _, rfl, HF.out.1, HF.out.2.1, HF.out.2.2, ⟨_, _, HE.out.1, rfl⟩, HE.out.2⟩
  · have he : (!s.ls.isEmpty) = true := by cases hl : s.ls with | nil => exact absurd hl h0 | cons a r => rfl
    have HS : Hid (heRecv s = heEnter { s with ls := s.ls.tail, ret := s.ret + 1 }) := by show _ = _; unfold heRecv; rw [if_neg h0]
    have hok2 : HeOk { s with ls := s.ls.tail, ret := s.ret + 1 } := ⟨⟨hok.1.1, hok.1.2.1, by have := hok.1.2.2.1; simp; omega, fun m hm => hok.1.2.2.2 m (List.mem_of_mem_tail hm)⟩, hok.2.1, hok.2.2.1, hok.2.2.2.1, hok.2.2.2.2.1, by show s.ret + 1 ≤ 1000000; omega⟩
    have HE := Lib.hid (fun W Xq' (R : HeV ge gq gl gt { s with ls := s.ls.tail, ret := s.ret + 1 } Xq' Xt W) => heeenter_any ge gq gl gt _ Xq' Xt W R hok2 hent)
    obtain ⟨rr, hrr⟩ : ∃ rr, s.ret + 1 = rr := ⟨_, rfl⟩
    have er : (s.ret : Int) + 1 = (rr : Int) := by omega
    have hr6 : rr ≤ 1000000 := by omega
    rw [hrr] at HS HE
    rw [he] at HQ ⊢
    clear h h0 hok hok2 he hrr
    go_enter Try.func36, Try.ntmps36
    go_wp2_with (fail)
    refine HQ.out.mono ?_
    rintro e w1 ⟨A, n, c, Xq', rfl, f1, v2, q1, t1⟩
    obtain ⟨R1, k1⟩ := HR.out.q q1 t1
    have HF := Lib.hid (And.intro f1.1 (KEY.out A n Xq' f1.2.1 v2))
    have bf4 := R1.cells.2.2.2.2.2 4
    have b4 : w1.cell? ⟨ge, 4, none⟩ = some (.int .i64 (s.ret : Int)) := R1.cells.2.2.2.2.1
    have R2 := R1.c (s' := { s with ls := s.ls.tail, ret := rr }) 4 (.int .i64 (rr : Int)) (by simp [hecells]) rfl rfl rfl rfl rfl
    have HE2 := Lib.hid (HE.out _ _ R2.1)
    have HK2 := Lib.hid (k1.trans R2.2)
    have HO2 := Lib.hid R2.2.off
    clear R1 R2 k1 q1 t1 f1 v2 c0 c4
    go_wp2_with (fail)
    refine HE2.out.mono ?_
    rintro e w2 ⟨rfl, Xq2, Xt2, R3, k3⟩
    have HR3 := Lib.hid (And.intro R3 k3)
    clear R3 k3
    go_wp2
    go_ret2
    rw [HS.out]
    have hB2 := HF.out.1.off HF.out.2.1 HO2.out
    refine ⟨A, n, c, Bl ge gl Xq2 Xt2, rfl, hB2.off HF.out.2.1 HR3.out.2.off, ?_, HF.out.2.2, ⟨Xq2, Xt2, HR3.out.1, rfl⟩, HK2.out.trans HR3.out.2⟩
    intro hn p e hx
    rcases HR3.out.2.grow _ hx with h1 | h1
    · exact HF.out.2.1 hn p e h1
    · obtain ⟨b', o', e', hb', _⟩ := hB2.at_ hn
      rw [e] at e'
      have e2 := Option.some.inj e'
      subst e2
      exact absurd hb' (Nat.not_lt.2 h1)
set_option maxHeartbeats 2000000 in
theorem herecv_any (g : Nat) (s : Hs) (w : World) (X : Nat → Prop) (hF : HeP g s w X) (hok : HeOk s) (hent : s.ent < 1000000) (hret : s.ret < 1000000) :
    Calls Try.prog 17 #[.pointer (some ⟨g, 0, none⟩)] w (GivesRf (HeP g (heRecv s)) X (s.ls.headD []) (!s.ls.isEmpty) w) := by
  obtain ⟨ge, gq, gl, gt, Xq, Xt, h1, h2, h3, rfl⟩ := hF
  have c0 : w.cell? ⟨g, 0, none⟩ = some (.pointer (some ⟨ge, 0, none⟩)) := cell_of_row _ _ _ _ _ _ h1
  have HM := Lib.hid (hemade_any g ⟨ge, 0, none⟩ w c0)
  have HE : Hid (Calls Try.prog 36 #[.pointer (some ⟨ge, 0, none⟩)] w (GivesRf (HeP g (heRecv s)) (fun k => k = g ∨ Bl ge gl Xq Xt k) (s.ls.headD []) (!s.ls.isEmpty) w)) := by
    refine (heereceive_any ge gq gl gt s Xq Xt w h2 hok hent hret).mono ?_
    rintro e w' ⟨A, n, c, X', rfl, hB, hA, hN, ⟨Xq', Xt', h2', rfl⟩, t⟩
    obtain ⟨k1, k2⟩ := HeP.turn h1 h3 h2' t
    have hl := lt_row h1
    refine ⟨A, n, c, _, rfl, hB, fun hn p e hx => ?_, fun hn p e => (hN hn p e).imp .inr id, k1, k2⟩
    rcases hx with hx | hx
    · rcases hN hn p e with h4 | h4
      · exact h3 (hx ▸ h4)
      · omega
    · exact hA hn p e hx
  clear h1 h2 h3 hok
  generalize s.ls.headD [] = m at *
  generalize (!s.ls.isEmpty) = b at *
  go_enter Try.func17, Try.ntmps17
  go_wp2_with (fail)
  refine HM.out.mono ?_
  rintro e w1 ⟨rfl, rfl⟩
  go_wp2_with (fail)
  refine HE.out.mono ?_
  rintro e w2 ⟨A, n, c, X', rfl, r1, r2⟩
  have HG := Lib.hid (And.intro r1 r2)
  clear r1 r2
  go_wp2
  go_ret2
  exact ⟨A, n, c, X', rfl, HG.out⟩

set_option maxHeartbeats 4000000 in
theorem heetake_try (ge gq gl gt : Nat) (s : Hs) (Xq Xt : Nat → Prop) (lb : Int) (A : Option Addr) (n c : Nat) (w : World) (h : HeV ge gq gl gt s Xq Xt w) :
    Calls Try.prog 32 #[.pointer (some ⟨ge, 0, none⟩), .agg #[.int .i64 1, .int .i64 lb, .slice A n c]] w (GivesPks (HeA ge gq gl gt s) (Bl ge gl Xq Xt) [(4, (((s.ent + 1) % 2 : Nat) : Int), [])] w) := by
  have T0 := (Below.refl _ w).alloc (Nat.le_refl _) (.cells #[.int .i64 1, .int .i64 lb, .slice A n c] 36)
  have h1 := h.below T0
  have HR := Lib.hid h
  have HLB := Lib.hid (helabel_any ge s.ent _ h1.cells.2.2.2.1)
  obtain ⟨p0, p1, p2, -, -, -⟩ := row3 (heap_alloc_new w (.cells #[.int .i64 1, .int .i64 lb, .slice A n c] 36))
  have HT0 := Lib.hid T0
  have hdm : ((1 : Int) - ((s.ent % 2 : Nat) : Int)) = (((s.ent + 1) % 2 : Nat) : Int) := by omega
  have hd2 : s.ent % 2 < 2 := by omega
  generalize (s.ent + 1) % 2 = dn at *
  generalize s.ent % 2 = dm at *
  have hdl : dm ≤ 1 := by omega
  clear h h1 T0 hd2
  go_enter Try.func32, Try.ntmps32
  go_wp2_with (fail)
  refine HLB.out.mono ?_
  rintro e w1 ⟨rfl, rfl⟩
  go_wp2
  go_ret
  have T2 := (Below.refl _ (w.alloc (.cells #[.int .i64 1, .int .i64 lb, .slice A n c] 36))).alloc (Nat.le_refl _) (.cells #[.int .i64 4, .int .i64 (dn : Int), .slice none 0 0] 36)
  have U2 := nxt HT0.out T2
  have hs0 : (w.alloc (.cells #[.int .i64 1, .int .i64 lb, .slice A n c] 36)).heap.size = w.heap.size + 1 := by simp
  have q := Pks.one (w := w.alloc (.cells #[.int .i64 1, .int .i64 lb, .slice A n c] 36)) (Y := fun k => Bl ge gl Xq Xt k ∨ k < w.heap.size) (k := 4) (lb := (dn : Int)) (t := []) (P := none) (m := 0) (d := 0) (Bys.nil _) (Av.none _ _) (fun hk => by
    rcases hk with hk | hk
    · have := HR.out.lt _ hk; omega
    · omega)
  rw [hs0] at q
  exact ⟨_, _, _, Bl ge gl Xq Xt, rfl, q, ⟨Xq, Xt, HR.out.below U2, rfl⟩, Turns.of_below U2⟩
set_option maxHeartbeats 4000000 in
theorem heetake_oth (ge gq gl gt : Nat) (s : Hs) (Xq Xt : Nat → Prop) (kd lb : Int) (A : Option Addr) (n c : Nat) (w : World) (h : HeV ge gq gl gt s Xq Xt w) (h1 : kd ≠ 1) (h2 : kd ≠ 2) (h3 : kd ≠ 3) :
    Calls Try.prog 32 #[.pointer (some ⟨ge, 0, none⟩), .agg #[.int .i64 kd, .int .i64 lb, .slice A n c]] w (GivesPks (HeA ge gq gl gt s) (Bl ge gl Xq Xt) [] w) := by
  have T0 := (Below.refl _ w).alloc (Nat.le_refl _) (.cells #[.int .i64 kd, .int .i64 lb, .slice A n c] 36)
  have HR := Lib.hid (h.below T0)
  have HT0 := Lib.hid T0
  obtain ⟨p0, p1, p2, -, -, -⟩ := row3 (heap_alloc_new w (.cells #[.int .i64 kd, .int .i64 lb, .slice A n c] 36))
  have d1 : (kd == 1) = false := by simpa using h1
  have d2 : (kd == 2) = false := by simpa using h2
  have d3 : (kd == 3) = false := by simpa using h3
  clear h h1 h2 h3
  go_enter Try.func32, Try.ntmps32
  go_wp2
  go_ret
  exact ⟨_, _, _, Bl ge gl Xq Xt, rfl, Pks.nil _ _, ⟨Xq, Xt, HR.out, rfl⟩, Turns.of_below HT0.out⟩
set_option maxHeartbeats 4000000 in
theorem heetake_idle (ge gq gl gt : Nat) (s : Hs) (Xq Xt : Nat → Prop) (lb : Int) (A : Option Addr) (n c : Nat) (w : World) (h : HeV ge gq gl gt s Xq Xt w) (hok : HeOk s) :
    Calls Try.prog 32 #[.pointer (some ⟨ge, 0, none⟩), .agg #[.int .i64 2, .int .i64 lb, .slice A n c]] w (GivesPks (HeA ge gq gl gt { s with o := ldHear s.o }) (Bl ge gl Xq Xt) [] w) := by
  have T0 := (Below.refl _ w).alloc (Nat.le_refl _) (.cells #[.int .i64 2, .int .i64 lb, .slice A n c] 36)
  have h1 := h.below T0
  have HH := Lib.hid (ldhear_any gl s.o s.k _ hok.2.1 h1.2.2.1)
  have HR := Lib.hid h1
  have HU := Lib.hid (Turns.of_below (X := Bl ge gl Xq Xt) T0)
  obtain ⟨c0, c1, c2, c3, c4, -⟩ := h1.cells
  obtain ⟨p0, p1, p2, -, -, -⟩ := row3 (heap_alloc_new w (.cells #[.int .i64 2, .int .i64 lb, .slice A n c] 36))
  clear h hok h1 T0
  generalize ldCan s.o = b at *
  go_enter Try.func32, Try.ntmps32
  go_wp2_with (fail)
  refine HH.out.mono ?_
  rintro e w2 ⟨rfl, l2, O2⟩
  have HL2 := Lib.hid (HR.out.l l2 O2)
  clear l2 O2
  cases b with
  | true =>
    go_wp2
    go_ret
    exact ⟨_, _, _, Bl ge gl Xq Xt, rfl, Pks.nil _ _, ⟨Xq, Xt, HL2.out.1, rfl⟩, HU.out.trans HL2.out.2⟩
  | false =>
    go_wp2
    go_ret
    exact ⟨_, _, _, Bl ge gl Xq Xt, rfl, Pks.nil _ _, ⟨Xq, Xt, HL2.out.1, rfl⟩, HU.out.trans HL2.out.2⟩
set_option maxHeartbeats 8000000 in
theorem heetake_data (ge gq gl gt : Nat) (s : Hs) (Xq Xt : Nat → Prop) (lb : Int) (A : Option Addr) (n c : Nat) (d : List UInt8) (w : World) (h : HeV ge gq gl gt s Xq Xt w) (hok : HeOk s) (hB : Bys w A n c d) (hA : Av (Bl ge gl Xq Xt) n A) (hi : I64 lb) (hl : s.al.length < 1000) (hcnt : alCount s.al lb d < 1000000) (hnb : ldCan s.o = true → n ≤ 140737488355328) (hent : s.ent < 1000000) :
    Calls Try.prog 32 #[.pointer (some ⟨ge, 0, none⟩), .agg #[.int .i64 3, .int .i64 lb, .slice A n c]] w (GivesPks (HeA ge gq gl gt (heData s lb d)) (Bl ge gl Xq Xt) [] w) := by
  have T0 := (Below.refl _ w).alloc (Nat.le_refl _) (.cells #[.int .i64 3, .int .i64 lb, .slice A n c] 36)
  have h1 := h.below T0
  have hn := heap_alloc_new w (.cells #[.int .i64 3, .int .i64 lb, .slice A n c] 36)
  have hlt := h.lt
  have HT0 := Lib.hid T0
  have hB1 := hB.below T0
  have hPk : ¬ Bl ge gl Xq Xt w.heap.size := fun e => by have := hlt _ e; omega
  clear T0 h hB
  obtain ⟨pb, hpb⟩ : ∃ pb, w.heap.size = pb := ⟨_, rfl⟩
  rw [hpb] at hn hPk
  have hw0 : (w.alloc (.cells #[.int .i64 3, .int .i64 lb, .slice A n c] 36)).heap.size = pb + 1 := by rw [← hpb]; simp
  have HPB := Lib.hid hpb
  obtain ⟨c0, c1, c2, c3, c4, -⟩ := h1.cells
  obtain ⟨p0, p1, p2, -, -, -⟩ := row3 hn
  have hlen := hB1.len
  generalize hW : w.alloc (.cells #[.int .i64 3, .int .i64 lb, .slice A n c] 36) = W0 at *
  have HLB := Lib.hid (fun k => (helabel_any ge s.ent (W0.drewN k) (show (W0.drewN k).cell? _ = _ from c3)).mono (fun _ _ ⟨h1, h2⟩ => And.intro h1 h2.symm))
  have HU0 := Lib.hid (fun k => below_drewN' (Below.refl W0.heap.size W0) k)
  have HH := Lib.hid (fun W (U : Below W0.heap.size W0 W) => ldhear_any gl s.o s.k W hok.2.1 (h1.below U).2.2.1)
  have HC := Lib.hid (fun W (U : Below W0.heap.size W0 W) => (h1.below U).cells.2.1)
  have HRL := Lib.hid (fun W (U : Below W0.heap.size W0 W) w2 (l2 : LedP w2 gl (ldHear s.o) s.k) (O2 : Off (· = gl) W w2) =>
    have q := (h1.below U).l l2 O2
    have t : Turns (Bl ge gl Xq Xt) (Bl ge gl Xq Xt) W0 w2 := (Turns.of_below U).trans q.2
    And.intro q.1 (And.intro t (And.intro ((t.off.block pb (by omega) hPk).trans hn) (hB1.off hA t.off))))
  have hd6 : s.ent ≤ 1000000 := hok.2.2.2.2.1
  obtain ⟨dm, hdm⟩ : ∃ dm, s.ent % 2 = dm := ⟨_, rfl⟩
  rw [hdm] at HLB
  have hGiv : ∀ (w4 : World) (s' : Hs) (Xq' Xt' : Nat → Prop), HeV ge gq gl gt s' Xq' Xt' w4 → Turns (Bl ge gl Xq Xt) (Bl ge gl Xq' Xt') W0 w4 → GivesPks (HeA ge gq gl gt s') (Bl ge gl Xq Xt) [] w (.returned (.slice none 0 0)) w4 := fun _ _ _ _ R t =>
    ⟨_, _, _, _, rfl, Pks.nil _ _, ⟨_, _, R, rfl⟩, ⟨(Off.of_below HT0.out).trans t.off, fun k hk => (t.grow k hk).imp id (fun h => by omega)⟩⟩
  have HG := Lib.hid hGiv
  clear hGiv hn hw0 hlt
  cases hcc : ldCan s.o with
  | false =>
    have HS : Hid (heData s lb d = { s with o := ldHear s.o }) := by show _ = _; unfold heData; rw [if_neg (fun e => by rw [hcc] at e; cases e.1)]
    rw [hcc] at HH
    clear hcc hok hdm h1 hB1 hlen hnb
    go_enter Try.func32, Try.ntmps32
    go_wp2_with (fail)
    clear hW hpb
    go_quiet ((go_at_call 44; refine Calls.quiet_of_same (HLB.out _)))
    have U1 := HU0.out nq
    have a1 := HC.out _ U1
    have HH1 := Lib.hid (HH.out _ U1)
    have HR1 := Lib.hid (HRL.out _ U1)
    clear c0 c1 c2 c3 c4 HH HRL HC U1 HU0 HLB
    generalize W0.drewN nq = W1 at *
    go_wp2_with (fail)
    refine HH1.out.mono ?_
    rintro e w2 ⟨rfl, l2, O2⟩
    have HL2 := Lib.hid (HR1.out _ l2 O2)
    clear l2 O2
    go_wp2
    go_ret
    rw [HS.out]
    exact HG.out _ _ _ _ HL2.out.1 HL2.out.2.1
  | true =>
    rw [hcc] at HH
    by_cases hlb : lb = (dm : Int)
    · have dlb : (lb == (dm : Int)) = true := by simpa using hlb
      have HS : Hid (heData s lb d = heEnter { s with o := ldHear s.o, k := s.k, al := alAdd s.al lb d }) := by show _ = _; unfold heData; rw [if_pos ⟨hcc, by rw [hdm]; exact hlb⟩]
      have hnb := hnb hcc
      have hok2 : HeOk { s with o := ldHear s.o, k := s.k, al := alAdd s.al lb d } := ⟨hok.1, ldHear_lt hok.2.1, hok.2.2.1, alAdd_ok hok.2.2.2.1 hl hcnt (by omega), hok.2.2.2.2⟩
      have HEN := Lib.hid (fun W Xt' (R : HeV ge gq gl gt { s with o := ldHear s.o, k := s.k, al := alAdd s.al lb d } Xq Xt' W) => heeenter_any ge gq gl gt _ Xq Xt' W R hok2 hent)
      have hal := hok.2.2.2.1
      have HADD := Lib.hid (fun W (R : HeV ge gq gl gt { s with o := ldHear s.o, k := s.k } Xq Xt W) (B : Bys W A n c d) => tlC.add gt s.al lb A n c d W Xt R.2.2.2.1 hal hl hcnt hi B hnb)
      clear hcc hok hdm h1 hB1 hlen hnb hok2 hal hlb
      go_enter Try.func32, Try.ntmps32
      go_wp2_with (fail)
      clear hW hpb
      go_quiet ((go_at_call 44; refine Calls.quiet_of_same (HLB.out _)))
      have U1 := HU0.out nq
      have a1 := HC.out _ U1
      have HH1 := Lib.hid (HH.out _ U1)
      have HR1 := Lib.hid (HRL.out _ U1)
      clear c0 c1 c2 c3 c4 HH HRL HC U1 HU0 HLB p0 p1 p2
      generalize W0.drewN nq = W1 at *
      go_wp2_with (fail)
      refine HH1.out.mono ?_
      rintro e w2 ⟨rfl, l2, O2⟩
      have HL2 := Lib.hid (HR1.out _ l2 O2)
      have R2 := HL2.out.1
      have T2 := Lib.hid HL2.out.2.1
      have B2 := HL2.out.2.2.2
      obtain ⟨q0, q1, q2, -, -, -⟩ := row3 HL2.out.2.2.1
      obtain ⟨b0, b1, b2, b3, b4, bfz⟩ := R2.cells
      have P2 := Below.refl w2.heap.size w2
      have HAD := Lib.hid (fun W (U : Below w2.heap.size w2 W) => HADD.out W (R2.below U) (B2.below U))
      have hp2 : pb < w2.heap.size := lt_row HL2.out.2.2.1
      have HP := Lib.hid HL2.out.2.2.1
      have HR3 := Lib.hid (fun W (U : Below w2.heap.size w2 W) w3 Xt' (r3 : TlP gt (alAdd s.al lb d) w3 Xt') (t3 : Turns Xt Xt' W w3) =>
        have q := (R2.below U).t r3 t3
        have t : Turns (Bl ge gl Xq Xt) (Bl ge gl Xq Xt') w2 w3 := (Turns.of_below U).trans q.2
        And.intro q.1 (And.intro t ((t.off.block pb hp2 hPk).trans HP.out)))
      have K3O : Hid (∀ w3 Xt', HeV ge gq gl gt { s with o := ldHear s.o, k := s.k, al := alAdd s.al lb d } Xq Xt' w3 → w3.heap[pb]? = some (.cells #[.int .i64 3, .int .i64 lb, .slice A n c] 36 (0, 0)) → w3.cell? ⟨ge, 2, none⟩ = some (.pointer (some ⟨gt, 0, none⟩)) ∧ w3.cell? ⟨pb, 1, none⟩ = some (.int .i64 lb) ∧ w3.cell? ⟨pb, 2, none⟩ = some (.slice A n c)) := fun w3 Xt' R hp => by
        obtain ⟨z0, z1, z2, -, -, -⟩ := row3 hp
        exact ⟨R.cells.2.2.1, z1, z2⟩
      have K4 : Hid (w2.cell? ⟨ge, 2, none⟩ = some (.pointer (some ⟨gt, 0, none⟩)) ∧ w2.cell? ⟨pb, 1, none⟩ = some (.int .i64 lb) ∧ w2.cell? ⟨pb, 2, none⟩ = some (.slice A n c)) := ⟨b2, q1, q2⟩
      clear R2 B2 l2 O2 bfz b0 b1 b2 b3 b4 q0 q1 q2 HH1 HR1
      go_wp2_with (fail)
      go_region_held3 (fun w' => w'.cell? ⟨ge, 2, none⟩ = some (.pointer (some ⟨gt, 0, none⟩)) ∧ w'.cell? ⟨pb, 1, none⟩ = some (.int .i64 lb) ∧ w'.cell? ⟨pb, 2, none⟩ = some (.slice A n c)) (first | exact K4.out | exact K5.out)
        (first
          | (go_at_call 46; (with_reducible refine (HAD.out _ (by first | exact P2 | exact P2.drew)).mono ?_); rintro e w3 ⟨rfl, Xt', r3, t3⟩; have HL3 := Lib.hid (HR3.out _ (by first | exact P2 | exact P2.drew) _ _ r3 t3); have K5 := Lib.hid (K3O.out _ _ HL3.out.1 HL3.out.2.2)))
      all_goals
        have HE3 := Lib.hid (HEN.out _ _ HL3.out.1)
        clear r3 t3 HADD HAD HR3 K3O K4 K5
        go_wp2_with (fail)
        refine HE3.out.mono ?_
        rintro e w5 ⟨rfl, Xq5, Xt5, R5, k5⟩
        have HF := Lib.hid (And.intro R5 k5)
        clear R5 k5
        go_wp2
        go_ret
        rw [HS.out]
        exact HG.out _ _ _ _ HF.out.1 ((T2.out.trans HL3.out.2.1).trans HF.out.2)
    · have dlb : (lb == (dm : Int)) = false := by simpa using hlb
      have HS : Hid (heData s lb d = { s with o := ldHear s.o }) := by show _ = _; unfold heData; rw [if_neg (fun e => hlb (by rw [e.2, hdm]))]
      clear hcc hok hdm h1 hB1 hlen hnb hlb
      go_enter Try.func32, Try.ntmps32
      go_wp2_with (fail)
      clear hW hpb
      go_quiet ((go_at_call 44; refine Calls.quiet_of_same (HLB.out _)))
      have U1 := HU0.out nq
      have a1 := HC.out _ U1
      have HH1 := Lib.hid (HH.out _ U1)
      have HR1 := Lib.hid (HRL.out _ U1)
      clear c0 c1 c2 c3 c4 HH HRL HC U1 HU0 HLB
      generalize W0.drewN nq = W1 at *
      go_wp2_with (fail)
      refine HH1.out.mono ?_
      rintro e w2 ⟨rfl, l2, O2⟩
      have HL2 := Lib.hid (HR1.out _ l2 O2)
      clear l2 O2
      go_wp2
      go_ret
      rw [HS.out]
      exact HG.out _ _ _ _ HL2.out.1 HL2.out.2.1
theorem heetake_any (ge gq gl gt : Nat) (s : Hs) (Xq Xt : Nat → Prop) (kd lb : Int) (A : Option Addr) (n c : Nat) (d : List UInt8) (w : World) (h : HeV ge gq gl gt s Xq Xt w) (hok : HeOk s) (hB : Bys w A n c d) (hA : Av (Bl ge gl Xq Xt) n A) (hi : I64 lb) (hl : s.al.length < 1000) (hcnt : alCount s.al lb d < 1000000) (hnb : ldCan s.o = true → n ≤ 140737488355328) (hent : s.ent < 1000000) :
    Calls Try.prog 32 #[.pointer (some ⟨ge, 0, none⟩), .agg #[.int .i64 kd, .int .i64 lb, .slice A n c]] w (GivesPks (HeA ge gq gl gt (heTake s kd lb d)) (Bl ge gl Xq Xt) (heTakeL s kd) w) := by
  by_cases h1 : kd = 1
  · subst h1
    have e : heTake s 1 lb d = s := by unfold heTake; rw [if_neg (by omega), if_neg (by omega)]
    have eL : heTakeL s 1 = [(4, (((s.ent + 1) % 2 : Nat) : Int), [])] := by unfold heTakeL; rw [if_pos rfl]
    rw [e, eL]
    exact heetake_try ge gq gl gt s Xq Xt lb A n c w h
  · have eL : heTakeL s kd = [] := by unfold heTakeL; rw [if_neg h1]
    rw [eL]
    by_cases h2 : kd = 2
    · subst h2
      have e : heTake s 2 lb d = { s with o := ldHear s.o } := by unfold heTake; rw [if_pos rfl]
      rw [e]
      exact heetake_idle ge gq gl gt s Xq Xt lb A n c w h hok
    · by_cases h3 : kd = 3
      · subst h3
        have e : heTake s 3 lb d = heData s lb d := by unfold heTake; rw [if_neg (by omega), if_pos rfl]
        rw [e]
        exact heetake_data ge gq gl gt s Xq Xt lb A n c d w h hok hB hA hi hl hcnt hnb hent
      · have e : heTake s kd lb d = s := by unfold heTake; rw [if_neg h2, if_neg h3]
        rw [e]
        exact heetake_oth ge gq gl gt s Xq Xt kd lb A n c w h h1 h2 h3
set_option maxHeartbeats 4000000 in
theorem hetake_any (g : Nat) (s : Hs) (kd lb : Int) (A : Option Addr) (n c : Nat) (d : List UInt8) (w : World) (X : Nat → Prop) (hF : HeP g s w X) (hok : HeOk s) (hl : s.al.length < 1000) (hcnt : alCount s.al lb d < 1000000) (hent : s.ent < 1000000) (hi : I64 lb) (hB : Bys w A n c d) (hA : Av X n A) (hnb : ldCan s.o = true → n ≤ 140737488355328) :
    Calls Try.prog 15 #[.pointer (some ⟨g, 0, none⟩), .agg #[.int .i64 kd, .int .i64 lb, .slice A n c]] w (GivesPks (HeP g (heTake s kd lb d)) X (heTakeL s kd) w) := by
  obtain ⟨ge, gq, gl, gt, Xq, Xt, h1, h2, h3, rfl⟩ := hF
  have T0 := ((Below.refl _ w).alloc (Nat.le_refl _) (.cells #[.int .i64 kd, .int .i64 lb, .slice A n c] 36))
  have hg1 := (T0.block g (lt_row h1)).trans h1
  have c0 : (w.alloc (.cells #[.int .i64 kd, .int .i64 lb, .slice A n c] 36)).cell? ⟨g, 0, none⟩ = some (.pointer (some ⟨ge, 0, none⟩)) := cell_of_row _ _ _ _ _ _ hg1
  have HM := Lib.hid (hemade_any g ⟨ge, 0, none⟩ _ c0)
  have hE : ∀ W, Below w.heap.size w W → Calls Try.prog 32 #[.pointer (some ⟨ge, 0, none⟩), .agg #[.int .i64 kd, .int .i64 lb, .slice A n c]] W (GivesPks (HeP g (heTake s kd lb d)) (fun k => k = g ∨ Bl ge gl Xq Xt k) (heTakeL s kd) w) := fun W U => by
    refine (heetake_any ge gq gl gt s Xq Xt kd lb A n c d W (h2.below U) hok (hB.below U) (hA.imp (fun k hk => .inr hk)) hi hl hcnt hnb hent).mono ?_
    rintro e w' ⟨A1, n1, c1, X', rfl, hp, ⟨Xq', Xt', h2', rfl⟩, t⟩
    have hW := (U.block g (lt_row h1)).trans h1
    obtain ⟨k1, k2⟩ := HeP.turn hW h3 h2' t
    have hl := lt_row h1
    have hs := U.size
    exact ⟨A1, n1, c1, _, rfl, hp.imp (fun k _ hk => by
      rcases hk with (rfl | hk) | hk
      · exact .inr (by omega)
      · exact .inl hk
      · exact .inr (by omega)), k1, (Turns.of_below U).trans k2⟩
  have HE := Lib.hid hE
  have p1 := heap_alloc_new w (.cells #[.int .i64 kd, .int .i64 lb, .slice A n c] 36)
  obtain ⟨p0, p1, p2, -, -, -⟩ := row3 p1
  have HT0 := Lib.hid T0
  clear h1 h2 h3 T0 hE hok hg1 hB hA hnb
  go_enter Try.func15, Try.ntmps15
  go_wp2_with (fail)
  refine HM.out.mono ?_
  rintro e w1 ⟨rfl, rfl⟩
  go_wp2_with (fail)
  go_region_with ((go_at_call 32; (with_reducible refine (HE.out _ (by first | exact HT0.out | exact HT0.out.drew)).mono ?_); rintro e w2 ⟨A2, n2, c2, X2, rfl, hp, hF, ht⟩; have HG := Lib.hid (And.intro hp (And.intro hF ht))))
  all_goals
    go_wp2
    go_ret
    exact ⟨_, _, _, _, rfl, HG.out.1, HG.out.2.1, HG.out.2.2⟩

theorem heC : HeC HeP where
  holds := HeP.holds
  new_no := fun r b w _ _ h => (henew_no r b w h).mono fun _ _ ⟨h1, h2⟩ => ⟨h1, h2 ▸ Below.refl _ _⟩
  new_yes := fun room b w h1 h2 _ => henew_yes room b w h1 h2
  tick := fun g s w X hF hok => hetick_any g s w X hF hok
  take := fun g s kd lb A n c d w X hF hok hl hcnt hent _ hi hB hA hnb => hetake_any g s kd lb A n c d w X hF hok hl hcnt hent hi hB hA hnb
  recv := fun g s w X hF hok h1 h2 => herecv_any g s w X hF hok h1 h2
  state := fun g s w X hF => hestate_any g s w X hF
  kept := fun g s w X hF => hekept_any g s w X hF
  ntick := hentick_any
  ntake := fun kd lb A n c _ w _ _ _ => hentake_any kd lb A n c w
  nrecv := henrecv_any
  nstate := henstate_any
  nkept := henkept_any
end Go.Proofs.Ytpdnpfohcnpenaa
