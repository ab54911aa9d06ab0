/- What kedgeref21's Tick, Receive and Take answer. -/
import Derived.Test.YtpdnpfohcnpenaaRhe2
namespace Go.Proofs.Ytpdnpfohcnpenaa
open Go.RowKit
set_option maxRecDepth 20000

set_option maxHeartbeats 4000000 in
theorem rhtick_any (g gq gl gt : Nat) (s : Hs) (Xq Xt : Nat → Prop) (w : World) (h : RHv g gq gl gt s Xq Xt w) (hok : HeOk s) :
    Calls Try.prog 14 #[.pointer (some ⟨g, 0, none⟩)] w (GivesPks (RHe g (heTick s)) (Bl g gl Xq Xt) (heTickL s) w) := by
  obtain ⟨c0, c1, c2, c3, c4, -⟩ := h.cells
  have HA := Lib.hid (rlask_any gl s.o s.k w hok.2.1 h.2.2.1)
  have HR := Lib.hid h
  have HT : Hid (heTick s = { s with o := ldAsk s.o }) := rfl
  cases hs : ldS s.o with
  | true =>
    have HL : Hid (heTickL s = []) := by show _ = _; unfold heTickL; rw [if_pos hs]
    rw [hs] at HA
    clear h hok hs
    go_enter Try.func14, Try.ntmps14
    go_wp2_with (fail)
    refine HA.out.mono ?_
    rintro e w1 ⟨rfl, l1, O1⟩
    have HE := Lib.hid (HR.out.l l1 O1)
    clear l1 O1
    go_wp2
    go_ret
    rw [HT.out, HL.out]
    exact ⟨_, _, _, _, rfl, Pks.nil _ _, ⟨gq, gl, gt, Xq, Xt, HE.out.1, rfl⟩, HE.out.2⟩
  | false =>
    have HL : Hid (heTickL s = [(0, 0, [])]) := by show _ = _; unfold heTickL; rw [if_neg (by simp [hs])]
    rw [hs] at HA
    clear h hok hs
    go_enter Try.func14, Try.ntmps14
    go_wp2_with (fail)
    refine HA.out.mono ?_
    rintro e w1 ⟨rfl, l1, O1⟩
    have HE := Lib.hid (HR.out.l l1 O1)
    clear l1 O1
    go_wp2
    go_ret
    rw [HT.out, HL.out]
    have hs1 := HE.out.2.off.size
    have T2 := (Below.refl _ w1).alloc (Nat.le_refl _) (.cells #[.int .i64 0, .int .i64 0, .slice none 0 0] 36)
    refine ⟨_, _, _, Bl g gl Xq Xt, rfl, Pks.one (Bys.nil _) (Av.none _ _) (fun hk => ?_), ⟨gq, gl, gt, Xq, Xt, HE.out.1.below T2, rfl⟩, HE.out.2.next T2⟩
    rcases hk with hk | hk
    · have := HE.out.1.lt _ hk; omega
    · omega
/-- Receive -/
def GivesRv (F : World → (Nat → Prop) → Prop) (X : Nat → Prop) (l : List UInt8) (b : Bool) (w : World) (e : Ending) (w' : World) : Prop := ∃ A n c X', e = .returned (.tuple #[.slice A n c, .bool b]) ∧ Bys w' A n c l ∧ Av X' n A ∧ F w' X' ∧ Turns X X' w w'
set_option maxHeartbeats 4000000 in
theorem rhrecv_no (g gq gl gt : Nat) (s : Hs) (Xq Xt : Nat → Prop) (w : World) (h : RHv g gq gl gt s Xq Xt w) (h0 : s.ls = []) :
    Calls Try.prog 18 #[.pointer (some ⟨g, 0, none⟩)] w (GivesRv (RHe g s) (Bl g gl Xq Xt) [] false w) := by
  obtain ⟨c0, c1, c2, c3, c4, -⟩ := h.cells
  have HQ := Lib.hid (rqpop_no gq s.room w Xq (h0 ▸ h.2.1))
  have HR := Lib.hid h
  clear h h0
  go_enter Try.func18, Try.ntmps18
  go_wp2_with (fail)
  refine HQ.out.mono ?_
  rintro e w1 ⟨rfl, rfl⟩
  go_wp2
  go_ret2
  exact ⟨_, _, _, _, rfl, Bys.nil _, Av.none _ _, ⟨gq, gl, gt, Xq, Xt, HR.out, rfl⟩, Turns.of_below (Below.refl _ _)⟩
set_option maxHeartbeats 8000000 in
theorem rhrecv_yes (g gq gl gt : Nat) (s : Hs) (Xq Xt : Nat → Prop) (w : World) (h : RHv g gq gl gt s Xq Xt w) (h0 : s.ls ≠ []) (hok : HeOk s) (hent : s.ent < 1000000) (hret : s.ret < 1000000) :
    Calls Try.prog 18 #[.pointer (some ⟨g, 0, none⟩)] w (GivesRv (RHe g (heRecv s)) (Bl g gl Xq Xt) (s.ls.headD []) true w) := by
  obtain ⟨c0, c1, c2, c3, c4, -⟩ := h.cells
  have he : (!s.ls.isEmpty) = true := by cases hl : s.ls with | nil => exact absurd hl h0 | cons a r => rfl
  have hq := rqpop_any2 gq s.room s.ls w Xq h.2.1
  rw [he] at hq
  have HQ := Lib.hid hq
  have HR := Lib.hid h
  have HS : Hid (heRecv s = heEnter { s with ls := s.ls.tail, ret := s.ret + 1 }) := by show _ = _; unfold heRecv; rw [if_neg h0]
  have hok2 : HeOk { s with ls := s.ls.tail, ret := s.ret + 1 } := ⟨⟨hok.1.1, hok.1.2.1, by have := hok.1.2.2.1; simp; omega, fun m hm => hok.1.2.2.2 m (List.mem_of_mem_tail hm)⟩, hok.2.1, hok.2.2.1, hok.2.2.2.1, hok.2.2.2.2.1, by show s.ret + 1 ≤ 1000000; omega⟩
  have HE := Lib.hid (fun W Xq' (R : RHv g gq gl gt { s with ls := s.ls.tail, ret := s.ret + 1 } Xq' Xt W) => rhenter_any g gq gl gt _ Xq' Xt W R hok2 hent)
  obtain ⟨rr, hrr⟩ : ∃ rr, s.ret + 1 = rr := ⟨_, rfl⟩
  have er : (s.ret : Int) + 1 = (rr : Int) := by omega
  have hr6 : rr ≤ 1000000 := by omega
  rw [hrr] at HS HE
  clear h h0 hok hok2 hq he
  go_enter Try.func18, Try.ntmps18
  go_wp2_with (fail)
  refine HQ.out.mono ?_
  rintro e w1 ⟨A, n, c, Xq', rfl, B1, q1, t1, v1⟩
  obtain ⟨R1, k1⟩ := HR.out.q q1 t1
  have bf4 := R1.cells.2.2.2.2.2 4
  have b4 : w1.cell? ⟨g, 4, none⟩ = some (.int .i64 (s.ret : Int)) := R1.cells.2.2.2.2.1
  have R2 := R1.c (s' := { s with ls := s.ls.tail, ret := rr }) 4 (.int .i64 (rr : Int)) (by simp [hecells]) rfl rfl rfl rfl rfl
  have HE2 := Lib.hid (HE.out _ _ R2.1)
  have hdis := HR.out.2.2.2.2
  have hAv : Av (Bl g gl Xq' Xt) n A := v1.imp (fun k hk => by
    rcases hk with rfl | rfl | hk | hk
    · exact .inr hdis.2.1
    · exact .inr hdis.2.2.1
    · exact .inl hk
    · exact .inr (fun hx => hdis.2.2.2.2.2 k hx hk))
  have hB2 := B1.off hAv R2.2.off
  have HB := Lib.hid (And.intro hB2 hAv)
  have HK2 := Lib.hid (k1.trans R2.2)
  clear hB2 hAv hdis
  clear R1 R2 k1 q1 t1 B1 v1
  go_wp2_with (fail)
  refine HE2.out.mono ?_
  rintro e w2 ⟨rfl, gt', Xq2, Xt2, R3, k3⟩
  have HR3 := Lib.hid (And.intro R3 k3)
  clear R3 k3
  go_wp2
  go_ret2
  rw [HS.out]
  refine ⟨A, n, c, Bl g gl Xq2 Xt2, rfl, HB.out.1.off HB.out.2 HR3.out.2.off, ?_, ⟨gq, gl, gt', Xq2, Xt2, HR3.out.1, rfl⟩, HK2.out.trans HR3.out.2⟩
  intro hn p e hx
  rcases HR3.out.2.grow _ hx with h1 | h1
  · exact HB.out.2 hn p e h1
  · obtain ⟨b', o', e', hb', _⟩ := HB.out.1.at_ hn
    rw [e] at e'
    have e2 := Option.some.inj e'
    subst e2
    exact absurd hb' (Nat.not_lt.2 h1)
set_option maxHeartbeats 4000000 in
theorem rhtake_try (g gq gl gt : Nat) (s : Hs) (Xq Xt : Nat → Prop) (lb : Int) (A : Option Addr) (n c : Nat) (w : World) (h : RHv g gq gl gt s Xq Xt w) (hok : HeOk s) :
    Calls Try.prog 16 #[.pointer (some ⟨g, 0, none⟩), .agg #[.int .i64 1, .int .i64 lb, .slice A n c]] w (GivesPks (RHe g s) (Bl g gl Xq Xt) [(4, (((s.ent + 1) % 2 : Nat) : Int), [])] w) := by
  have T0 := (Below.refl _ w).alloc (Nat.le_refl _) (.cells #[.int .i64 1, .int .i64 lb, .slice A n c] 36)
  have h1 := h.below T0
  have HR := Lib.hid h
  have hd6 : s.ent ≤ 1000000 := hok.2.2.2.2.1
  obtain ⟨c0, c1, c2, c3, c4, -⟩ := h1.cells
  have HT0 := Lib.hid T0
  have em : ((s.ent : Int) + 1) % 2 = (((s.ent + 1) % 2 : Nat) : Int) := by omega
  have emt : ((s.ent : Int) + 1).tmod 2 = (((s.ent + 1) % 2 : Nat) : Int) := by rw [Int.tmod_eq_emod_of_nonneg (by omega)]; omega
  obtain ⟨dm, hdm⟩ : ∃ dm, (s.ent + 1) % 2 = dm := ⟨_, rfl⟩
  rw [hdm] at em emt ⊢
  clear h hok h1 T0 hdm
  go_enter Try.func16, Try.ntmps16
  go_wp2
  go_ret
  have T2 := (Below.refl _ (w.alloc (.cells #[.int .i64 1, .int .i64 lb, .slice A n c] 36))).alloc (Nat.le_refl _) (.cells #[.int .i64 4, .int .i64 (dm : Int), .slice none 0 0] 36)
  have U2 := nxt HT0.out T2
  have hs0 : (w.alloc (.cells #[.int .i64 1, .int .i64 lb, .slice A n c] 36)).heap.size = w.heap.size + 1 := by simp
  have q := Pks.one (w := w.alloc (.cells #[.int .i64 1, .int .i64 lb, .slice A n c] 36)) (Y := fun k => Bl g gl Xq Xt k ∨ k < w.heap.size) (k := 4) (lb := (dm : Int)) (t := []) (P := none) (m := 0) (d := 0) (Bys.nil _) (Av.none _ _) (fun hk => by
    rcases hk with hk | hk
    · have := HR.out.lt _ hk; omega
    · omega)
  rw [hs0] at q
  exact ⟨_, _, _, Bl g gl Xq Xt, rfl, q, ⟨gq, gl, gt, Xq, Xt, HR.out.below U2, rfl⟩, Turns.of_below U2⟩
set_option maxHeartbeats 4000000 in
theorem rhtake_oth (g gq gl gt : Nat) (s : Hs) (Xq Xt : Nat → Prop) (kd lb : Int) (A : Option Addr) (n c : Nat) (w : World) (h : RHv g gq gl gt s Xq Xt w) (h1 : kd ≠ 1) (h2 : kd ≠ 2) (h3 : kd ≠ 3) :
    Calls Try.prog 16 #[.pointer (some ⟨g, 0, none⟩), .agg #[.int .i64 kd, .int .i64 lb, .slice A n c]] w (GivesPks (RHe g s) (Bl g gl Xq Xt) [] w) := by
  have T0 := (Below.refl _ w).alloc (Nat.le_refl _) (.cells #[.int .i64 kd, .int .i64 lb, .slice A n c] 36)
  have HR := Lib.hid (h.below T0)
  have HT0 := Lib.hid T0
  obtain ⟨p0, p1, p2, -, -, -⟩ := row3 (heap_alloc_new w (.cells #[.int .i64 kd, .int .i64 lb, .slice A n c] 36))
  have d1 : (kd == 1) = false := by simpa using h1
  have d2 : (kd == 2) = false := by simpa using h2
  have d3 : (kd == 3) = false := by simpa using h3
  clear h h1 h2 h3
  go_enter Try.func16, Try.ntmps16
  go_wp2
  go_ret
  exact ⟨_, _, _, Bl g gl Xq Xt, rfl, Pks.nil _ _, ⟨gq, gl, gt, Xq, Xt, HR.out, rfl⟩, Turns.of_below HT0.out⟩
set_option maxHeartbeats 4000000 in
theorem rhtake_idle (g gq gl gt : Nat) (s : Hs) (Xq Xt : Nat → Prop) (lb : Int) (A : Option Addr) (n c : Nat) (w : World) (h : RHv g gq gl gt s Xq Xt w) (hok : HeOk s) :
    Calls Try.prog 16 #[.pointer (some ⟨g, 0, none⟩), .agg #[.int .i64 2, .int .i64 lb, .slice A n c]] w (GivesPks (RHe g { s with o := ldHear s.o }) (Bl g gl Xq Xt) [] w) := by
  have T0 := (Below.refl _ w).alloc (Nat.le_refl _) (.cells #[.int .i64 2, .int .i64 lb, .slice A n c] 36)
  have h1 := h.below T0
  have HH := Lib.hid (rlhear_any gl s.o s.k _ hok.2.1 h1.2.2.1)
  have HR := Lib.hid h1
  have HU := Lib.hid (Turns.of_below (X := Bl g gl Xq Xt) T0)
  obtain ⟨c0, c1, c2, c3, c4, -⟩ := h1.cells
  have HS := Lib.hid (h.lt)
  clear h hok h1 T0
  go_enter Try.func16, Try.ntmps16
  go_wp2_with (fail)
  refine HH.out.mono ?_
  rintro e w2 ⟨rfl, l2, O2⟩
  have HL2 := Lib.hid (HR.out.l l2 O2)
  clear l2 O2
  go_wp2
  go_ret
  exact ⟨_, _, _, Bl g gl Xq Xt, rfl, Pks.nil _ _, ⟨gq, gl, gt, Xq, Xt, HL2.out.1, rfl⟩, HU.out.trans HL2.out.2⟩
end Go.Proofs.Ytpdnpfohcnpenaa
