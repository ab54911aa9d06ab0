/- Package hearer, as landed: the engine's enter. -/
import Derived.Test.YtpdnpfohcnpenaaHeK2
namespace Go.Proofs.Ytpdnpfohcnpenaa
open Go.RowKit
set_option maxRecDepth 20000

set_option maxHeartbeats 8000000 in
theorem heeenter_any (ge gq gl gt : Nat) (s : Hs) (Xq Xt : Nat → Prop) (w : World) (h : HeV ge gq gl gt s Xq Xt w) (hok : HeOk s) (hent : s.ent < 1000000) :
    Calls Try.prog 47 #[.pointer (some ⟨ge, 0, none⟩)] w fun e w' => e = .returned (.tuple #[]) ∧ ∃ Xq' Xt', HeV ge gq gl gt (heEnter s) Xq' Xt' w' ∧ Turns (Bl ge gl Xq Xt) (Bl ge gl Xq' Xt') w w' := by
  have hal := hok.2.2.2.1
  have HB := Lib.hid (fun W (U : Below w.heap.size w W) => tlbest_any gt s.al ((s.ent % 2 : Nat) : Int) W Xt (h.below U).2.2.2.1 hal)
  have HLB := Lib.hid (fun W (U : Below w.heap.size w W) => helabel_any ge s.ent W (h.below U).cells.2.2.2.1)
  have hNo : ¬ heMay s → heEnter s = s := fun e => by unfold heEnter; rw [if_neg e]
  have hYes : heMay s → heEnter s = { s with ls := s.ls ++ [(heBest s).1], k := ldMark s.o s.k, al := [], ent := s.ent + 1 } := fun e => by unfold heEnter; rw [if_pos e]
  have hm : heMay s ↔ s.ls.length < s.room ∧ (heBest s).2 ≠ 0 ∧ ldEnough s.o s.k (heBest s).2 = true ∧ (heBest s).1.length ≤ 64 := Iff.rfl
  have hb : heBest s = alBest s.al ((s.ent % 2 : Nat) : Int) := rfl
  rw [hb] at hm hYes
  unfold GivesBest at HB
  generalize s.ent % 2 = dm at *
  generalize alBest s.al (dm : Int) = bb at *
  obtain ⟨t, cn⟩ := bb
  simp only at hm hYes HB
  obtain ⟨c0, c1, c2, c3, -, -⟩ := h.cells
  have HR := Lib.hid h
  have HE := Lib.hid (fun hx => hNo (mt hm.1 hx))
  have HY := Lib.hid (fun hx => hYes (hm.2 hx))
  have ho := hok.2.1
  have K : Hid (∀ W, Below w.heap.size w W → W.cell? ⟨ge, 2, none⟩ = some (.pointer (some ⟨gt, 0, none⟩))) := fun W U => (h.below U).cells.2.2.1
  have P0 := Below.refl w.heap.size w
  clear h hok hb hNo hYes hm hal c3
  go_enter Try.func47, Try.ntmps47
  go_wp2_with (fail)
  go_region_held3 (fun w' => w'.cell? ⟨ge, 2, none⟩ = some (.pointer (some ⟨gt, 0, none⟩))) (first | exact K.out _ P0 | exact K.out _ P0.drew | exact K.out _ Z1)
    (first
      | (go_at_call 44; (with_reducible refine (HLB.out _ (by first | exact P0 | exact P0.drew)).mono ?_); rintro e w1 ⟨rfl, rfl⟩)
      | (go_at_call 62; (with_reducible refine (HB.out _ (by first | exact P0 | exact P0.drew)).mono ?_); rintro e w1 ⟨A, n, c, rfl, f1, V1⟩; have Z1 := nxt (by first | exact P0 | exact P0.drew) V1))
  have T1 := Z1
  have R1 := HR.out.below T1
  have HR1 := Lib.hid R1
  have HU1 := Lib.hid (Turns.of_below (X := Bl ge gl Xq Xt) T1)
  obtain ⟨a0, a1, a2, a3, a4, afz⟩ := R1.cells
  have hn := Lib.hid (show n = t.length from f1.1.len.symm)
  have HEN := Lib.hid (ldenough_any gl s.o s.k cn w1 R1.2.2.1)
  have HPU := Lib.hid (qupush_any gq s.room s.ls A n c t w1 Xq R1.2.1 f1.1)
  clear R1 f1 c0 c1 c2 T1
  cases hen : ldEnough s.o s.k cn with
  | false =>
    have HS := Lib.hid (HE.out (fun x => by rw [hen] at x; cases x.2.2.1))
    rw [hen] at HEN
    clear HE HY hen
    go_wp2_with (fail)
    refine HEN.out.mono ?_
    rintro e w2 ⟨rfl, rfl⟩
    go_wp2
    refine bodyPost_ret (results_none rfl _ _ _) rfl ?_
    rw [HS.out]
    exact ⟨rfl, Xq, Xt, HR1.out, HU1.out⟩
  | true =>
    rw [hen] at HEN
    have hcn : cn ≠ 0 := fun e => by subst e; simp [ldEnough] at hen
    by_cases hp : quPushE s.room s.ls n = 0
    · have hle : t.length ≤ 64 ∧ s.ls.length < s.room := by
        have hn := hn.out
        unfold quPushE at hp
        split at hp
        · cases hp
        · split at hp
          · cases hp
          · omega
      have HS := Lib.hid (HY.out ⟨hle.2, hcn, hen, hle.1⟩)
      have hpl : quPush s.room s.ls t = s.ls ++ [t] := by unfold quPush; rw [← hn.out]; exact if_pos hp
      rw [hp, hpl] at HPU
      obtain ⟨a, ha⟩ : ∃ a, s.ent + 1 = a := ⟨_, rfl⟩
      have ea : (s.ent : Int) + 1 = (a : Int) := by omega
      have ha6 : a ≤ 1000000 := by omega
      rw [ha] at HS
      clear hen hcn hp hle hpl HE HY ha
      go_wp2_with (fail)
      refine HEN.out.mono ?_
      rintro e w2 ⟨rfl, rfl⟩
      go_wp2_with (fail)
      refine HPU.out.mono ?_
      rintro e w2 ⟨rfl, Xq', q2, t2⟩
      obtain ⟨R2, k2⟩ := HR1.out.q q2 t2
      obtain ⟨b0, b1, b2, b3, b4, bfz⟩ := R2.cells
      have b3' : w2.cell? ⟨ge, 3, none⟩ = some (.int .i64 (s.ent : Int)) := b3
      have bf3 := bfz 3
      obtain ⟨R3, k3⟩ := R2.c (s' := { s with ls := s.ls ++ [t], ent := a }) 3 (.int .i64 (a : Int)) (by simp [hecells]) rfl rfl rfl rfl rfl
      have HR3 := Lib.hid R3
      have HK3 := Lib.hid (HU1.out.trans (k2.trans k3))
      have HCL := Lib.hid (tlclear_any gt s.al _ Xt R3.2.2.2.1)
      clear a0 a1 a2 a3 a4 afz b0 b4 bfz q2 t2 k2 k3 R2 R3
      go_wp2_with (fail)
      refine HCL.out.mono ?_
      rintro e w3 ⟨rfl, Xt', t3, k3⟩
      obtain ⟨R4, k4⟩ := HR3.out.t t3 k3
      have HR4 := Lib.hid R4
      have HK4 := Lib.hid (HK3.out.trans k4)
      obtain ⟨-, d1, -, -, -, -⟩ := R4.cells
      have HMK := Lib.hid (ldmark_any gl s.o s.k w3 ho R4.2.2.1)
      clear b1 b2 b3 b3' bf3 t3 k3 k4 R4
      go_wp2_with (fail)
      refine HMK.out.mono ?_
      rintro e w4 ⟨rfl, l4, O4⟩
      obtain ⟨R5, k5⟩ := HR4.out.l l4 O4
      have HF := Lib.hid (And.intro R5 (HK4.out.trans k5))
      clear R5 k5 l4 O4
      go_wp2
      go_end0
      rw [HS.out]
      exact ⟨rfl, Xq', Xt', HF.out.1, HF.out.2⟩
    · have HS := Lib.hid (HE.out (fun x => hp (by unfold quPushE; rw [if_neg (by have := hn.out; omega), if_neg (by omega)])))
      have hpl : quPush s.room s.ls t = s.ls := by unfold quPush; rw [← hn.out]; exact if_neg hp
      rw [hpl] at HPU
      have hne : ((quPushE s.room s.ls n : Int) != 0) = true := by simp; omega
      generalize quPushE s.room s.ls n = E at *
      clear hen hcn hp hpl HE HY
      go_wp2_with (fail)
      refine HEN.out.mono ?_
      rintro e w2 ⟨rfl, rfl⟩
      go_wp2_with (fail)
      refine HPU.out.mono ?_
      rintro e w2 ⟨rfl, Xq', q2, t2⟩
      obtain ⟨R2, k2⟩ := HR1.out.q q2 t2
      have HF := Lib.hid (And.intro R2 (HU1.out.trans k2))
      clear q2 t2 k2 R2
      go_wp2
      refine bodyPost_ret (results_none rfl _ _ _) rfl ?_
      rw [HS.out]
      exact ⟨rfl, Xq', Xt, HF.out.1, HF.out.2⟩
end Go.Proofs.Ytpdnpfohcnpenaa
