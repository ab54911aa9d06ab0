/- What kedgeref21's Take answers to a packet with a message. -/
import Derived.Test.YtpdnpfohcnpenaaRhe3
namespace Go.Proofs.Ytpdnpfohcnpenaa
open Go.RowKit
set_option maxRecDepth 20000

set_option maxHeartbeats 8000000 in
theorem rhtake_data (g gq gl gt : Nat) (s : Hs) (Xq Xt : Nat → Prop) (lb : Int) (A : Option Addr) (n c : Nat) (d : List UInt8) (w : World) (h : RHv g gq gl gt s Xq Xt w) (hok : HeOk s) (hB : Bys w A n c d) (hA : Av (Bl g gl Xq Xt) n A) (hl : s.al.length < 1000) (hcnt : alCount s.al lb d < 1000000) (hnb : n ≤ 140737488355328) (hent : s.ent < 1000000) :
    Calls Try.prog 16 #[.pointer (some ⟨g, 0, none⟩), .agg #[.int .i64 3, .int .i64 lb, .slice A n c]] w (GivesPks (RHe g (heData s lb d)) (Bl g gl Xq Xt) [] w) := by
  have T0 := (Below.refl _ w).alloc (Nat.le_refl _) (.cells #[.int .i64 3, .int .i64 lb, .slice A n c] 36)
  have h1 := h.below T0
  have hn := heap_alloc_new w (.cells #[.int .i64 3, .int .i64 lb, .slice A n c] 36)
  have hlt := h.lt
  have HT0 := Lib.hid T0
  have hB1 := hB.below T0
  have hPk : ¬ Bl g gl Xq Xt w.heap.size := fun e => by have := hlt _ e; omega
  clear T0 h hB
  obtain ⟨pb, hpb⟩ : ∃ pb, w.heap.size = pb := ⟨_, rfl⟩
  rw [hpb] at hn hPk
  have hw0 : (w.alloc (.cells #[.int .i64 3, .int .i64 lb, .slice A n c] 36)).heap.size = pb + 1 := by rw [← hpb]; simp
  have HPB := Lib.hid hpb
  obtain ⟨c0, c1, c2, c3, c4, -⟩ := h1.cells
  obtain ⟨p0, p1, p2, -, -, -⟩ := row3 hn
  generalize hW : w.alloc (.cells #[.int .i64 3, .int .i64 lb, .slice A n c] 36) = W0 at *
  have P0 := Below.refl W0.heap.size W0
  have HH := Lib.hid (fun W (U : Below W0.heap.size W0 W) => rlhear_any gl s.o s.k W hok.2.1 (h1.below U).2.2.1)
  have HRL := Lib.hid (fun W (U : Below W0.heap.size W0 W) w2 (l2 : LRow w2 gl (ldHear s.o) s.k) (O2 : Off (· = gl) W w2) =>
    have q := (h1.below U).l l2 O2
    have t : Turns (Bl g gl Xq Xt) (Bl g gl Xq Xt) W0 w2 := (Turns.of_below U).trans q.2
    And.intro q.1 (And.intro t (And.intro ((t.off.block pb (by omega) hPk).trans hn) (hB1.off hA t.off))))
  have HW := Lib.hid hW
  have hd6 : s.ent ≤ 1000000 := hok.2.2.2.2.1
  have em : (s.ent : Int) % 2 = ((s.ent % 2 : Nat) : Int) := by omega
  have emt : (s.ent : Int).tmod 2 = ((s.ent % 2 : Nat) : Int) := by rw [Int.tmod_eq_emod_of_nonneg (by omega)]; omega
  obtain ⟨dm, hdm⟩ : ∃ dm, s.ent % 2 = dm := ⟨_, rfl⟩
  rw [hdm] at em emt
  have hGiv : ∀ (w4 : World) (s' : Hs) (gt' : Nat) (Xq' Xt' : Nat → Prop), RHv g gq gl gt' s' Xq' Xt' w4 → Turns (Bl g gl Xq Xt) (Bl g gl Xq' Xt') W0 w4 → GivesPks (RHe g s') (Bl g gl Xq Xt) [] w (.returned (.slice none 0 0)) w4 := fun _ _ _ _ _ R t =>
    ⟨_, _, _, _, rfl, Pks.nil _ _, ⟨gq, gl, _, _, _, R, rfl⟩, ⟨(Off.of_below HT0.out).trans t.off, fun k hk => (t.grow k hk).imp id (fun h => by omega)⟩⟩
  have HG := Lib.hid hGiv
  have KO : Hid (∀ w2, RHv g gq gl gt { s with o := ldHear s.o, k := s.k } Xq Xt w2 → w2.heap[pb]? = some (.cells #[.int .i64 3, .int .i64 lb, .slice A n c] 36 (0, 0)) → w2.cell? ⟨pb, 1, none⟩ = some (.int .i64 lb) ∧ w2.cell? ⟨g, 1, none⟩ = some (.pointer (some ⟨gl, 0, none⟩)) ∧ w2.cell? ⟨g, 3, none⟩ = some (.int .i64 (s.ent : Int))) := fun w2 R hp => by
    obtain ⟨q0, q1, -, -, -, -⟩ := row3 hp
    exact ⟨q1, R.cells.2.1, R.cells.2.2.2.1⟩
  have K : Hid (W0.cell? ⟨pb, 1, none⟩ = some (.int .i64 lb) ∧ W0.cell? ⟨g, 1, none⟩ = some (.pointer (some ⟨gl, 0, none⟩)) ∧ W0.cell? ⟨g, 3, none⟩ = some (.int .i64 (s.ent : Int))) := ⟨p1, c1, c3⟩
  have hok2 : HeOk { s with o := ldHear s.o, k := s.k, al := alAdd s.al lb d } := ⟨hok.1, ldHear_lt hok.2.1, hok.2.2.1, alAdd_ok hok.2.2.2.1 hl hcnt (by have := hB1.len; omega), hok.2.2.2.2⟩
  have HEN := Lib.hid (fun W Xt' (R : RHv g gq gl gt { s with o := ldHear s.o, k := s.k, al := alAdd s.al lb d } Xq Xt' W) => rhenter_any g gq gl gt _ Xq Xt' W R hok2 hent)
  have HADD := Lib.hid (fun W (R : RHv g gq gl gt { s with o := ldHear s.o, k := s.k } Xq Xt W) (B : Bys W A n c d) => raadd_any gt s.al lb A n c d W Xt R.2.2.2.1 B hl hcnt hnb)
  clear hlt hn hw0 hGiv h1 hok2 hB1
  cases hcc : ldCan s.o with
  | false =>
    have hS : heData s lb d = { s with o := ldHear s.o } := by unfold heData; rw [if_neg (fun e => by rw [hcc] at e; cases e.1)]
    have HS := Lib.hid hS
    rw [hcc] at HH
    clear hcc hok hdm em emt hS
    go_enter Try.func16, Try.ntmps16
    go_wp2_with (fail)
    clear hW hpb
    (first | go_region_with ((go_at_call 33; (with_reducible refine (HH.out _ (by first | exact P0 | exact P0.drew)).mono ?_); rintro e w2 ⟨rfl, l2, O2⟩; have HL2 := Lib.hid (HRL.out _ (by first | exact P0 | exact P0.drew) _ l2 O2); obtain ⟨r1, t1, t3⟩ := KO.out _ HL2.out.1 HL2.out.2.2.1)) | fail)
    all_goals
      clear c0 c1 c2 c3 c4 p0 p1 p2
      go_wp2
      go_ret
      rw [HS.out]
      exact HG.out _ _ _ _ _ HL2.out.1 HL2.out.2.1
  | true =>
    rw [hcc] at HH
    by_cases hlb : lb = (dm : Int)
    · subst hlb
      have dlb : ((dm : Int) == (dm : Int)) = true := by simp
      have hS : heData s (dm : Int) d = heEnter { s with o := ldHear s.o, k := s.k, al := alAdd s.al (dm : Int) d } := by unfold heData; rw [if_pos ⟨hcc, by rw [hdm]⟩]
      have HS := Lib.hid hS
      clear hcc hok hdm hS
      go_enter Try.func16, Try.ntmps16
      go_wp2_with (fail)
      clear hW hpb
      go_region_held3 (fun w' => w'.cell? ⟨pb, 1, none⟩ = some (.int .i64 (dm : Int)) ∧ w'.cell? ⟨g, 1, none⟩ = some (.pointer (some ⟨gl, 0, none⟩)) ∧ w'.cell? ⟨g, 3, none⟩ = some (.int .i64 (s.ent : Int))) (first | exact K.out | exact K2.out)
        (first
          | (go_at_call 33; (with_reducible refine (HH.out _ (by first | exact P0 | exact P0.drew)).mono ?_); rintro e w2 ⟨rfl, l2, O2⟩; have HL2 := Lib.hid (HRL.out _ (by first | exact P0 | exact P0.drew) _ l2 O2); have K2 := Lib.hid (KO.out _ HL2.out.1 HL2.out.2.2.1)))
      all_goals
        have R2 := HL2.out.1
        have T2 := Lib.hid HL2.out.2.1
        have B2 := HL2.out.2.2.2
        obtain ⟨q0, q1, q2, -, -, -⟩ := row3 HL2.out.2.2.1
        obtain ⟨b0, b1, b2, b3, b4, bfz⟩ := R2.cells
        have P2 := Below.refl w2.heap.size w2
        have HAD := Lib.hid (fun W (U : Below w2.heap.size w2 W) => HADD.out W (R2.below U) (B2.below U))
        have hp2 : pb < w2.heap.size := lt_row HL2.out.2.2.1
        have HP := Lib.hid HL2.out.2.2.1
        have HR3 := Lib.hid (fun W (U : Below w2.heap.size w2 W) w3 Xt' (r3 : RA gt (alAdd s.al (dm : Int) d) w3 Xt') (t3 : Turns Xt Xt' W w3) =>
          have q := (R2.below U).t r3 t3
          have t : Turns (Bl g gl Xq Xt) (Bl g gl Xq Xt') w2 w3 := (Turns.of_below U).trans q.2
          And.intro q.1 (And.intro t ((t.off.block pb hp2 hPk).trans HP.out)))
        have K3O : Hid (∀ w3 Xt', RHv g gq gl gt { s with o := ldHear s.o, k := s.k, al := alAdd s.al (dm : Int) d } Xq Xt' w3 → w3.heap[pb]? = some (.cells #[.int .i64 3, .int .i64 (dm : Int), .slice A n c] 36 (0, 0)) → w3.cell? ⟨g, 2, none⟩ = some (.pointer (some ⟨gt, 0, none⟩)) ∧ w3.cell? ⟨pb, 1, none⟩ = some (.int .i64 (dm : Int)) ∧ w3.cell? ⟨pb, 2, none⟩ = some (.slice A n c)) := fun w3 Xt' R hp => by
          obtain ⟨z0, z1, z2, -, -, -⟩ := row3 hp
          exact ⟨R.cells.2.2.1, z1, z2⟩
        have K4 : Hid (w2.cell? ⟨g, 2, none⟩ = some (.pointer (some ⟨gt, 0, none⟩)) ∧ w2.cell? ⟨pb, 1, none⟩ = some (.int .i64 (dm : Int)) ∧ w2.cell? ⟨pb, 2, none⟩ = some (.slice A n c)) := ⟨b2, q1, q2⟩
        clear R2 B2 c0 c1 c2 c3 c4 p0 p1 p2 l2 O2 K2 bfz b0 b1 b2 b3 b4 q0 q1 q2 HH HRL K
        go_wp2_with (fail)
        go_region_held3 (fun w' => w'.cell? ⟨g, 2, none⟩ = some (.pointer (some ⟨gt, 0, none⟩)) ∧ w'.cell? ⟨pb, 1, none⟩ = some (.int .i64 (dm : Int)) ∧ w'.cell? ⟨pb, 2, none⟩ = some (.slice A n c)) (first | exact K4.out | exact K5.out)
          (first
            | (go_at_call 34; (with_reducible refine (HAD.out _ (by first | exact P2 | exact P2.drew)).mono ?_); rintro e w3 ⟨rfl, Xt', r3, t3⟩; have HL3 := Lib.hid (HR3.out _ (by first | exact P2 | exact P2.drew) _ _ r3 t3); have K5 := Lib.hid (K3O.out _ _ HL3.out.1 HL3.out.2.2)))
        all_goals
          have HE3 := Lib.hid (HEN.out _ _ HL3.out.1)
          clear r3 t3 HADD HAD HR3 K3O K4 K5
          go_wp2_with (fail)
          refine HE3.out.mono ?_
          rintro e w5 ⟨rfl, gt5, Xq5, Xt5, R5, k5⟩
          have HF := Lib.hid (And.intro R5 k5)
          clear R5 k5
          go_wp2
          go_ret
          rw [HS.out]
          exact HG.out _ _ _ _ _ HF.out.1 ((T2.out.trans HL3.out.2.1).trans HF.out.2)
    · have hS : heData s lb d = { s with o := ldHear s.o } := by unfold heData; rw [if_neg (fun e => hlb (by rw [e.2, hdm]))]
      have HS := Lib.hid hS
      have dlb : (lb == (dm : Int)) = false := by simpa using hlb
      clear hcc hok hdm hlb hS
      go_enter Try.func16, Try.ntmps16
      go_wp2_with (fail)
      clear hW hpb
      go_region_held3 (fun w' => w'.cell? ⟨pb, 1, none⟩ = some (.int .i64 lb) ∧ w'.cell? ⟨g, 1, none⟩ = some (.pointer (some ⟨gl, 0, none⟩)) ∧ w'.cell? ⟨g, 3, none⟩ = some (.int .i64 (s.ent : Int))) (first | exact K.out | exact K2.out)
        (first
          | (go_at_call 33; (with_reducible refine (HH.out _ (by first | exact P0 | exact P0.drew)).mono ?_); rintro e w2 ⟨rfl, l2, O2⟩; have HL2 := Lib.hid (HRL.out _ (by first | exact P0 | exact P0.drew) _ l2 O2); have K2 := Lib.hid (KO.out _ HL2.out.1 HL2.out.2.2.1)))
      all_goals
        clear c0 c1 c2 c3 c4 p0 p1 p2
        go_wp2
        go_ret
        rw [HS.out]
        exact HG.out _ _ _ _ _ HL2.out.1 HL2.out.2.1
theorem rhtake_any (g gq gl gt : Nat) (s : Hs) (Xq Xt : Nat → Prop) (kd lb : Int) (A : Option Addr) (n c : Nat) (d : List UInt8) (w : World) (h : RHv g gq gl gt s Xq Xt w) (hok : HeOk s) (hB : Bys w A n c d) (hA : Av (Bl g gl Xq Xt) n A) (hl : s.al.length < 1000) (hcnt : alCount s.al lb d < 1000000) (hnb : n ≤ 140737488355328) (hent : s.ent < 1000000) :
    Calls Try.prog 16 #[.pointer (some ⟨g, 0, none⟩), .agg #[.int .i64 kd, .int .i64 lb, .slice A n c]] w (GivesPks (RHe g (heTake s kd lb d)) (Bl g gl Xq Xt) (heTakeL s kd) w) := by
  by_cases h1 : kd = 1
  · subst h1
    have e : heTake s 1 lb d = s := by unfold heTake; rw [if_neg (by omega), if_neg (by omega)]
    have eL : heTakeL s 1 = [(4, (((s.ent + 1) % 2 : Nat) : Int), [])] := by unfold heTakeL; rw [if_pos rfl]
    rw [e, eL]
    exact rhtake_try g gq gl gt s Xq Xt lb A n c w h hok
  · have eL : heTakeL s kd = [] := by unfold heTakeL; rw [if_neg h1]
    rw [eL]
    by_cases h2 : kd = 2
    · subst h2
      have e : heTake s 2 lb d = { s with o := ldHear s.o } := by unfold heTake; rw [if_pos rfl]
      rw [e]
      exact rhtake_idle g gq gl gt s Xq Xt lb A n c w h hok
    · by_cases h3 : kd = 3
      · subst h3
        have e : heTake s 3 lb d = heData s lb d := by unfold heTake; rw [if_neg (by omega), if_pos rfl]
        rw [e]
        exact rhtake_data g gq gl gt s Xq Xt lb A n c d w h hok hB hA hl hcnt hnb hent
      · have e : heTake s kd lb d = s := by unfold heTake; rw [if_neg h2, if_neg h3]
        rw [e]
        exact rhtake_oth g gq gl gt s Xq Xt kd lb A n c w h h1 h2 h3
end Go.Proofs.Ytpdnpfohcnpenaa
