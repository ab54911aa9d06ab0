/- Package hearer, as landed: Take. -/
import Derived.Test.YtpdnpfohcnpenaaHeK4
namespace Go.Proofs.Ytpdnpfohcnpenaa
open Go.RowKit
set_option maxRecDepth 20000

set_option maxHeartbeats 4000000 in
theorem heetake_try (ge gq gl gt : Nat) (s : Hs) (Xq Xt : Nat → Prop) (lb : Int) (A : Option Addr) (n c : Nat) (w : World) (h : HeV ge gq gl gt s Xq Xt w) :
    Calls Try.prog 32 #[.pointer (some ⟨ge, 0, none⟩), .agg #[.int .i64 1, .int .i64 lb, .slice A n c]] w (GivesPks (HeA ge gq gl gt s) (Bl ge gl Xq Xt) [(4, (((s.ent + 1) % 2 : Nat) : Int), [])] w) := by
  have T0 := (Below.refl _ w).alloc (Nat.le_refl _) (.cells #[.int .i64 1, .int .i64 lb, .slice A n c] 36)
  have h1 := h.below T0
  have HR := Lib.hid h
  have HLB := Lib.hid (helabel_any ge s.ent _ h1.cells.2.2.2.1)
  obtain ⟨p0, p1, p2, -, -, -⟩ := row3 (heap_alloc_new w (.cells #[.int .i64 1, .int .i64 lb, .slice A n c] 36))
  have HT0 := Lib.hid T0
  have hdm : ((1 : Int) - ((s.ent % 2 : Nat) : Int)) = (((s.ent + 1) % 2 : Nat) : Int) := by omega
  have hd2 : s.ent % 2 < 2 := by omega
  generalize (s.ent + 1) % 2 = dn at *
  generalize s.ent % 2 = dm at *
  have hdl : dm ≤ 1 := by omega
  clear h h1 T0 hd2
  go_enter Try.func32, Try.ntmps32
  go_wp2_with (fail)
  refine HLB.out.mono ?_
  rintro e w1 ⟨rfl, rfl⟩
  go_wp2
  go_ret
  have T2 := (Below.refl _ (w.alloc (.cells #[.int .i64 1, .int .i64 lb, .slice A n c] 36))).alloc (Nat.le_refl _) (.cells #[.int .i64 4, .int .i64 (dn : Int), .slice none 0 0] 36)
  have U2 := nxt HT0.out T2
  have hs0 : (w.alloc (.cells #[.int .i64 1, .int .i64 lb, .slice A n c] 36)).heap.size = w.heap.size + 1 := by simp
  have q := Pks.one (w := w.alloc (.cells #[.int .i64 1, .int .i64 lb, .slice A n c] 36)) (Y := fun k => Bl ge gl Xq Xt k ∨ k < w.heap.size) (k := 4) (lb := (dn : Int)) (t := []) (P := none) (m := 0) (d := 0) (Bys.nil _) (Av.none _ _) (fun hk => by
    rcases hk with hk | hk
    · have := HR.out.lt _ hk; omega
    · omega)
  rw [hs0] at q
  exact ⟨_, _, _, Bl ge gl Xq Xt, rfl, q, ⟨Xq, Xt, HR.out.below U2, rfl⟩, Turns.of_below U2⟩
set_option maxHeartbeats 4000000 in
theorem heetake_oth (ge gq gl gt : Nat) (s : Hs) (Xq Xt : Nat → Prop) (kd lb : Int) (A : Option Addr) (n c : Nat) (w : World) (h : HeV ge gq gl gt s Xq Xt w) (h1 : kd ≠ 1) (h2 : kd ≠ 2) (h3 : kd ≠ 3) :
    Calls Try.prog 32 #[.pointer (some ⟨ge, 0, none⟩), .agg #[.int .i64 kd, .int .i64 lb, .slice A n c]] w (GivesPks (HeA ge gq gl gt s) (Bl ge gl Xq Xt) [] w) := by
  have T0 := (Below.refl _ w).alloc (Nat.le_refl _) (.cells #[.int .i64 kd, .int .i64 lb, .slice A n c] 36)
  have HR := Lib.hid (h.below T0)
  have HT0 := Lib.hid T0
  obtain ⟨p0, p1, p2, -, -, -⟩ := row3 (heap_alloc_new w (.cells #[.int .i64 kd, .int .i64 lb, .slice A n c] 36))
  have d1 : (kd == 1) = false := by simpa using h1
  have d2 : (kd == 2) = false := by simpa using h2
  have d3 : (kd == 3) = false := by simpa using h3
  clear h h1 h2 h3
  go_enter Try.func32, Try.ntmps32
  go_wp2
  go_ret
  exact ⟨_, _, _, Bl ge gl Xq Xt, rfl, Pks.nil _ _, ⟨Xq, Xt, HR.out, rfl⟩, Turns.of_below HT0.out⟩
set_option maxHeartbeats 4000000 in
theorem heetake_idle (ge gq gl gt : Nat) (s : Hs) (Xq Xt : Nat → Prop) (lb : Int) (A : Option Addr) (n c : Nat) (w : World) (h : HeV ge gq gl gt s Xq Xt w) (hok : HeOk s) :
    Calls Try.prog 32 #[.pointer (some ⟨ge, 0, none⟩), .agg #[.int .i64 2, .int .i64 lb, .slice A n c]] w (GivesPks (HeA ge gq gl gt { s with o := ldHear s.o }) (Bl ge gl Xq Xt) [] w) := by
  have T0 := (Below.refl _ w).alloc (Nat.le_refl _) (.cells #[.int .i64 2, .int .i64 lb, .slice A n c] 36)
  have h1 := h.below T0
  have HH := Lib.hid (ldhear_any gl s.o s.k _ hok.2.1 h1.2.2.1)
  have HR := Lib.hid h1
  have HU := Lib.hid (Turns.of_below (X := Bl ge gl Xq Xt) T0)
  obtain ⟨c0, c1, c2, c3, c4, -⟩ := h1.cells
  obtain ⟨p0, p1, p2, -, -, -⟩ := row3 (heap_alloc_new w (.cells #[.int .i64 2, .int .i64 lb, .slice A n c] 36))
  clear h hok h1 T0
  generalize ldCan s.o = b at *
  go_enter Try.func32, Try.ntmps32
  go_wp2_with (fail)
  refine HH.out.mono ?_
  rintro e w2 ⟨rfl, l2, O2⟩
  have HL2 := Lib.hid (HR.out.l l2 O2)
  clear l2 O2
  cases b with
  | true =>
    go_wp2
    go_ret
    exact ⟨_, _, _, Bl ge gl Xq Xt, rfl, Pks.nil _ _, ⟨Xq, Xt, HL2.out.1, rfl⟩, HU.out.trans HL2.out.2⟩
  | false =>
    go_wp2
    go_ret
    exact ⟨_, _, _, Bl ge gl Xq Xt, rfl, Pks.nil _ _, ⟨Xq, Xt, HL2.out.1, rfl⟩, HU.out.trans HL2.out.2⟩
set_option maxHeartbeats 8000000 in
theorem heetake_data (ge gq gl gt : Nat) (s : Hs) (Xq Xt : Nat → Prop) (lb : Int) (A : Option Addr) (n c : Nat) (d : List UInt8) (w : World) (h : HeV ge gq gl gt s Xq Xt w) (hok : HeOk s) (hB : Bys w A n c d) (hA : Av (Bl ge gl Xq Xt) n A) (hi : I64 lb) (hl : s.al.length < 1000) (hcnt : alCount s.al lb d < 1000000) (hnb : ldCan s.o = true → n ≤ 140737488355328) (hent : s.ent < 1000000) :
    Calls Try.prog 32 #[.pointer (some ⟨ge, 0, none⟩), .agg #[.int .i64 3, .int .i64 lb, .slice A n c]] w (GivesPks (HeA ge gq gl gt (heData s lb d)) (Bl ge gl Xq Xt) [] w) := by
  have T0 := (Below.refl _ w).alloc (Nat.le_refl _) (.cells #[.int .i64 3, .int .i64 lb, .slice A n c] 36)
  have h1 := h.below T0
  have hn := heap_alloc_new w (.cells #[.int .i64 3, .int .i64 lb, .slice A n c] 36)
  have hlt := h.lt
  have HT0 := Lib.hid T0
  have hB1 := hB.below T0
  have hPk : ¬ Bl ge gl Xq Xt w.heap.size := fun e => by have := hlt _ e; omega
  clear T0 h hB
  obtain ⟨pb, hpb⟩ : ∃ pb, w.heap.size = pb := ⟨_, rfl⟩
  rw [hpb] at hn hPk
  have hw0 : (w.alloc (.cells #[.int .i64 3, .int .i64 lb, .slice A n c] 36)).heap.size = pb + 1 := by rw [← hpb]; simp
  have HPB := Lib.hid hpb
  obtain ⟨c0, c1, c2, c3, c4, -⟩ := h1.cells
  obtain ⟨p0, p1, p2, -, -, -⟩ := row3 hn
  have hlen := hB1.len
  generalize hW : w.alloc (.cells #[.int .i64 3, .int .i64 lb, .slice A n c] 36) = W0 at *
  have HLB := Lib.hid (fun k => (helabel_any ge s.ent (W0.drewN k) (show (W0.drewN k).cell? _ = _ from c3)).mono (fun _ _ ⟨h1, h2⟩ => And.intro h1 h2.symm))
  have HU0 := Lib.hid (fun k => below_drewN' (Below.refl W0.heap.size W0) k)
  have HH := Lib.hid (fun W (U : Below W0.heap.size W0 W) => ldhear_any gl s.o s.k W hok.2.1 (h1.below U).2.2.1)
  have HC := Lib.hid (fun W (U : Below W0.heap.size W0 W) => (h1.below U).cells.2.1)
  have HRL := Lib.hid (fun W (U : Below W0.heap.size W0 W) w2 (l2 : LedP w2 gl (ldHear s.o) s.k) (O2 : Off (· = gl) W w2) =>
    have q := (h1.below U).l l2 O2
    have t : Turns (Bl ge gl Xq Xt) (Bl ge gl Xq Xt) W0 w2 := (Turns.of_below U).trans q.2
    And.intro q.1 (And.intro t (And.intro ((t.off.block pb (by omega) hPk).trans hn) (hB1.off hA t.off))))
  have hd6 : s.ent ≤ 1000000 := hok.2.2.2.2.1
  obtain ⟨dm, hdm⟩ : ∃ dm, s.ent % 2 = dm := ⟨_, rfl⟩
  rw [hdm] at HLB
  have hGiv : ∀ (w4 : World) (s' : Hs) (Xq' Xt' : Nat → Prop), HeV ge gq gl gt s' Xq' Xt' w4 → Turns (Bl ge gl Xq Xt) (Bl ge gl Xq' Xt') W0 w4 → GivesPks (HeA ge gq gl gt s') (Bl ge gl Xq Xt) [] w (.returned (.slice none 0 0)) w4 := fun _ _ _ _ R t =>
    ⟨_, _, _, _, rfl, Pks.nil _ _, ⟨_, _, R, rfl⟩, ⟨(Off.of_below HT0.out).trans t.off, fun k hk => (t.grow k hk).imp id (fun h => by omega)⟩⟩
  have HG := Lib.hid hGiv
  clear hGiv hn hw0 hlt
  cases hcc : ldCan s.o with
  | false =>
    have HS : Hid (heData s lb d = { s with o := ldHear s.o }) := by show _ = _; unfold heData; rw [if_neg (fun e => by rw [hcc] at e; cases e.1)]
    rw [hcc] at HH
    clear hcc hok hdm h1 hB1 hlen hnb
    go_enter Try.func32, Try.ntmps32
    go_wp2_with (fail)
    clear hW hpb
    go_quiet ((go_at_call 44; refine Calls.quiet_of_same (HLB.out _)))
    have U1 := HU0.out nq
    have a1 := HC.out _ U1
    have HH1 := Lib.hid (HH.out _ U1)
    have HR1 := Lib.hid (HRL.out _ U1)
    clear c0 c1 c2 c3 c4 HH HRL HC U1 HU0 HLB
    generalize W0.drewN nq = W1 at *
    go_wp2_with (fail)
    refine HH1.out.mono ?_
    rintro e w2 ⟨rfl, l2, O2⟩
    have HL2 := Lib.hid (HR1.out _ l2 O2)
    clear l2 O2
    go_wp2
    go_ret
    rw [HS.out]
    exact HG.out _ _ _ _ HL2.out.1 HL2.out.2.1
  | true =>
    rw [hcc] at HH
    by_cases hlb : lb = (dm : Int)
    · have dlb : (lb == (dm : Int)) = true := by simpa using hlb
      have HS : Hid (heData s lb d = heEnter { s with o := ldHear s.o, k := s.k, al := alAdd s.al lb d }) := by show _ = _; unfold heData; rw [if_pos ⟨hcc, by rw [hdm]; exact hlb⟩]
      have hnb := hnb hcc
      have hok2 : HeOk { s with o := ldHear s.o, k := s.k, al := alAdd s.al lb d } := ⟨hok.1, ldHear_lt hok.2.1, hok.2.2.1, alAdd_ok hok.2.2.2.1 hl hcnt (by omega), hok.2.2.2.2⟩
      have HEN := Lib.hid (fun W Xt' (R : HeV ge gq gl gt { s with o := ldHear s.o, k := s.k, al := alAdd s.al lb d } Xq Xt' W) => heeenter_any ge gq gl gt _ Xq Xt' W R hok2 hent)
      have hal := hok.2.2.2.1
      have HADD := Lib.hid (fun W (R : HeV ge gq gl gt { s with o := ldHear s.o, k := s.k } Xq Xt W) (B : Bys W A n c d) => tlC.add gt s.al lb A n c d W Xt R.2.2.2.1 hal hl hcnt hi B hnb)
      clear hcc hok hdm h1 hB1 hlen hnb hok2 hal hlb
      go_enter Try.func32, Try.ntmps32
      go_wp2_with (fail)
      clear hW hpb
      go_quiet ((go_at_call 44; refine Calls.quiet_of_same (HLB.out _)))
      have U1 := HU0.out nq
      have a1 := HC.out _ U1
      have HH1 := Lib.hid (HH.out _ U1)
      have HR1 := Lib.hid (HRL.out _ U1)
      clear c0 c1 c2 c3 c4 HH HRL HC U1 HU0 HLB p0 p1 p2
      generalize W0.drewN nq = W1 at *
      go_wp2_with (fail)
      refine HH1.out.mono ?_
      rintro e w2 ⟨rfl, l2, O2⟩
      have HL2 := Lib.hid (HR1.out _ l2 O2)
      have R2 := HL2.out.1
      have T2 := Lib.hid HL2.out.2.1
      have B2 := HL2.out.2.2.2
      obtain ⟨q0, q1, q2, -, -, -⟩ := row3 HL2.out.2.2.1
      obtain ⟨b0, b1, b2, b3, b4, bfz⟩ := R2.cells
      have P2 := Below.refl w2.heap.size w2
      have HAD := Lib.hid (fun W (U : Below w2.heap.size w2 W) => HADD.out W (R2.below U) (B2.below U))
      have hp2 : pb < w2.heap.size := lt_row HL2.out.2.2.1
      have HP := Lib.hid HL2.out.2.2.1
      have HR3 := Lib.hid (fun W (U : Below w2.heap.size w2 W) w3 Xt' (r3 : TlP gt (alAdd s.al lb d) w3 Xt') (t3 : Turns Xt Xt' W w3) =>
        have q := (R2.below U).t r3 t3
        have t : Turns (Bl ge gl Xq Xt) (Bl ge gl Xq Xt') w2 w3 := (Turns.of_below U).trans q.2
        And.intro q.1 (And.intro t ((t.off.block pb hp2 hPk).trans HP.out)))
      have K3O : Hid (∀ w3 Xt', HeV ge gq gl gt { s with o := ldHear s.o, k := s.k, al := alAdd s.al lb d } Xq Xt' w3 → w3.heap[pb]? = some (.cells #[.int .i64 3, .int .i64 lb, .slice A n c] 36 (0, 0)) → w3.cell? ⟨ge, 2, none⟩ = some (.pointer (some ⟨gt, 0, none⟩)) ∧ w3.cell? ⟨pb, 1, none⟩ = some (.int .i64 lb) ∧ w3.cell? ⟨pb, 2, none⟩ = some (.slice A n c)) := fun w3 Xt' R hp => by
        obtain ⟨z0, z1, z2, -, -, -⟩ := row3 hp
        exact ⟨R.cells.2.2.1, z1, z2⟩
      have K4 : Hid (w2.cell? ⟨ge, 2, none⟩ = some (.pointer (some ⟨gt, 0, none⟩)) ∧ w2.cell? ⟨pb, 1, none⟩ = some (.int .i64 lb) ∧ w2.cell? ⟨pb, 2, none⟩ = some (.slice A n c)) := ⟨b2, q1, q2⟩
      clear R2 B2 l2 O2 bfz b0 b1 b2 b3 b4 q0 q1 q2 HH1 HR1
      go_wp2_with (fail)
      go_region_held3 (fun w' => w'.cell? ⟨ge, 2, none⟩ = some (.pointer (some ⟨gt, 0, none⟩)) ∧ w'.cell? ⟨pb, 1, none⟩ = some (.int .i64 lb) ∧ w'.cell? ⟨pb, 2, none⟩ = some (.slice A n c)) (first | exact K4.out | exact K5.out)
        (first
          | (go_at_call 46; (with_reducible refine (HAD.out _ (by first | exact P2 | exact P2.drew)).mono ?_); rintro e w3 ⟨rfl, Xt', r3, t3⟩; have HL3 := Lib.hid (HR3.out _ (by first | exact P2 | exact P2.drew) _ _ r3 t3); have K5 := Lib.hid (K3O.out _ _ HL3.out.1 HL3.out.2.2)))
      all_goals
        have HE3 := Lib.hid (HEN.out _ _ HL3.out.1)
        clear r3 t3 HADD HAD HR3 K3O K4 K5
        go_wp2_with (fail)
        refine HE3.out.mono ?_
        rintro e w5 ⟨rfl, Xq5, Xt5, R5, k5⟩
        have HF := Lib.hid (And.intro R5 k5)
        clear R5 k5
        go_wp2
        go_ret
        rw [HS.out]
        exact HG.out _ _ _ _ HF.out.1 ((T2.out.trans HL3.out.2.1).trans HF.out.2)
    · have dlb : (lb == (dm : Int)) = false := by simpa using hlb
      have HS : Hid (heData s lb d = { s with o := ldHear s.o }) := by show _ = _; unfold heData; rw [if_neg (fun e => hlb (by rw [e.2, hdm]))]
      clear hcc hok hdm h1 hB1 hlen hnb hlb
      go_enter Try.func32, Try.ntmps32
      go_wp2_with (fail)
      clear hW hpb
      go_quiet ((go_at_call 44; refine Calls.quiet_of_same (HLB.out _)))
      have U1 := HU0.out nq
      have a1 := HC.out _ U1
      have HH1 := Lib.hid (HH.out _ U1)
      have HR1 := Lib.hid (HRL.out _ U1)
      clear c0 c1 c2 c3 c4 HH HRL HC U1 HU0 HLB
      generalize W0.drewN nq = W1 at *
      go_wp2_with (fail)
      refine HH1.out.mono ?_
      rintro e w2 ⟨rfl, l2, O2⟩
      have HL2 := Lib.hid (HR1.out _ l2 O2)
      clear l2 O2
      go_wp2
      go_ret
      rw [HS.out]
      exact HG.out _ _ _ _ HL2.out.1 HL2.out.2.1
theorem heetake_any (ge gq gl gt : Nat) (s : Hs) (Xq Xt : Nat → Prop) (kd lb : Int) (A : Option Addr) (n c : Nat) (d : List UInt8) (w : World) (h : HeV ge gq gl gt s Xq Xt w) (hok : HeOk s) (hB : Bys w A n c d) (hA : Av (Bl ge gl Xq Xt) n A) (hi : I64 lb) (hl : s.al.length < 1000) (hcnt : alCount s.al lb d < 1000000) (hnb : ldCan s.o = true → n ≤ 140737488355328) (hent : s.ent < 1000000) :
    Calls Try.prog 32 #[.pointer (some ⟨ge, 0, none⟩), .agg #[.int .i64 kd, .int .i64 lb, .slice A n c]] w (GivesPks (HeA ge gq gl gt (heTake s kd lb d)) (Bl ge gl Xq Xt) (heTakeL s kd) w) := by
  by_cases h1 : kd = 1
  · subst h1
    have e : heTake s 1 lb d = s := by unfold heTake; rw [if_neg (by omega), if_neg (by omega)]
    have eL : heTakeL s 1 = [(4, (((s.ent + 1) % 2 : Nat) : Int), [])] := by unfold heTakeL; rw [if_pos rfl]
    rw [e, eL]
    exact heetake_try ge gq gl gt s Xq Xt lb A n c w h
  · have eL : heTakeL s kd = [] := by unfold heTakeL; rw [if_neg h1]
    rw [eL]
    by_cases h2 : kd = 2
    · subst h2
      have e : heTake s 2 lb d = { s with o := ldHear s.o } := by unfold heTake; rw [if_pos rfl]
      rw [e]
      exact heetake_idle ge gq gl gt s Xq Xt lb A n c w h hok
    · by_cases h3 : kd = 3
      · subst h3
        have e : heTake s 3 lb d = heData s lb d := by unfold heTake; rw [if_neg (by omega), if_pos rfl]
        rw [e]
        exact heetake_data ge gq gl gt s Xq Xt lb A n c d w h hok hB hA hi hl hcnt hnb hent
      · have e : heTake s kd lb d = s := by unfold heTake; rw [if_neg h2, if_neg h3]
        rw [e]
        exact heetake_oth ge gq gl gt s Xq Xt kd lb A n c w h h1 h2 h3
set_option maxHeartbeats 4000000 in
theorem hetake_any (g : Nat) (s : Hs) (kd lb : Int) (A : Option Addr) (n c : Nat) (d : List UInt8) (w : World) (X : Nat → Prop) (hF : HeP g s w X) (hok : HeOk s) (hl : s.al.length < 1000) (hcnt : alCount s.al lb d < 1000000) (hent : s.ent < 1000000) (hi : I64 lb) (hB : Bys w A n c d) (hA : Av X n A) (hnb : ldCan s.o = true → n ≤ 140737488355328) :
    Calls Try.prog 15 #[.pointer (some ⟨g, 0, none⟩), .agg #[.int .i64 kd, .int .i64 lb, .slice A n c]] w (GivesPks (HeP g (heTake s kd lb d)) X (heTakeL s kd) w) := by
  obtain ⟨ge, gq, gl, gt, Xq, Xt, h1, h2, h3, rfl⟩ := hF
  have T0 := ((Below.refl _ w).alloc (Nat.le_refl _) (.cells #[.int .i64 kd, .int .i64 lb, .slice A n c] 36))
  have hg1 := (T0.block g (lt_row h1)).trans h1
  have c0 : (w.alloc (.cells #[.int .i64 kd, .int .i64 lb, .slice A n c] 36)).cell? ⟨g, 0, none⟩ = some (.pointer (some ⟨ge, 0, none⟩)) := cell_of_row _ _ _ _ _ _ hg1
  have HM := Lib.hid (hemade_any g ⟨ge, 0, none⟩ _ c0)
  have hE : ∀ W, Below w.heap.size w W → Calls Try.prog 32 #[.pointer (some ⟨ge, 0, none⟩), .agg #[.int .i64 kd, .int .i64 lb, .slice A n c]] W (GivesPks (HeP g (heTake s kd lb d)) (fun k => k = g ∨ Bl ge gl Xq Xt k) (heTakeL s kd) w) := fun W U => by
    refine (heetake_any ge gq gl gt s Xq Xt kd lb A n c d W (h2.below U) hok (hB.below U) (hA.imp (fun k hk => .inr hk)) hi hl hcnt hnb hent).mono ?_
    rintro e w' ⟨A1, n1, c1, X', rfl, hp, ⟨Xq', Xt', h2', rfl⟩, t⟩
    have hW := (U.block g (lt_row h1)).trans h1
    obtain ⟨k1, k2⟩ := HeP.turn hW h3 h2' t
    have hl := lt_row h1
    have hs := U.size
    exact ⟨A1, n1, c1, _, rfl, hp.imp (fun k _ hk => by
      rcases hk with (rfl | hk) | hk
      · exact .inr (by omega)
      · exact .inl hk
      · exact .inr (by omega)), k1, (Turns.of_below U).trans k2⟩
  have HE := Lib.hid hE
  have p1 := heap_alloc_new w (.cells #[.int .i64 kd, .int .i64 lb, .slice A n c] 36)
  obtain ⟨p0, p1, p2, -, -, -⟩ := row3 p1
  have HT0 := Lib.hid T0
  clear h1 h2 h3 T0 hE hok hg1 hB hA hnb
  go_enter Try.func15, Try.ntmps15
  go_wp2_with (fail)
  refine HM.out.mono ?_
  rintro e w1 ⟨rfl, rfl⟩
  go_wp2_with (fail)
  go_region_with ((go_at_call 32; (with_reducible refine (HE.out _ (by first | exact HT0.out | exact HT0.out.drew)).mono ?_); rintro e w2 ⟨A2, n2, c2, X2, rfl, hp, hF, ht⟩; have HG := Lib.hid (And.intro hp (And.intro hF ht))))
  all_goals
    go_wp2
    go_ret
    exact ⟨_, _, _, _, rfl, HG.out.1, HG.out.2.1, HG.out.2.2⟩
end Go.Proofs.Ytpdnpfohcnpenaa
