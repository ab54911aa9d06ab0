/- Package puller, as landed: messages enter. -/
import Derived.Test.YtpidbgnlehikeaaPlK3
namespace Go.Proofs.Ytpidbgnlehikeaa
open Go.RowKit
set_option maxRecDepth 20000

/-- where the number of those that entered stands -/
def entOfE (x : Nat) (w : World) : Nat := match w.cell? ⟨x, 4, none⟩ with | some (.int _ n) => n.toNat | _ => 0
section
variable {Q : Nat → Nat → List (List UInt8) → World → (Nat → Prop) → Prop} {x gq m : Nat} {s : Pls} {Xq Xl : Nat → Prop} {w : World}
theorem PeV.ent (h : PeV Q x gq m s Xq Xl w) : entOfE x w = s.ent := by unfold entOfE; rw [h.cells.1.2.2.2.2]; rfl
theorem plCan_cons {s : Pls} {d : List UInt8} {r : List Lt} (h : s.late = (s.ent, d) :: r) : plCan s = (quPushE s.c.room.toNat s.ls d.length == 0) := by
  unfold plCan
  rw [h]
  simp
theorem plStep_cons {s : Pls} {d : List UInt8} {r : List Lt} (h : s.late = (s.ent, d) :: r) : plStep s = { s with ls := s.ls ++ [d], late := r, ent := s.ent + 1 } := by
  unfold plStep
  rw [h]
/-- the first one is taken out, and counted -/
theorem PeV.step (C : QuC Q) {s' : Pls} {d : List UInt8} {r : List Lt} {w1 : World} (h : PeV Q x gq m { s' with ls := s'.ls ++ [d] } Xq Xl w) (hl : LtP m r w1 Xl) (t : Turns Xl Xl w w1) : PeV Q x gq m { s' with ls := s'.ls ++ [d], late := r, ent := s'.ent + 1 } Xq Xl (w1.setCell ⟨x, 4, none⟩ (.int .i64 ((s'.ent + 1 : Nat) : Int))) ∧ Turns (Ob3 x Xq Xl) (Ob3 x Xq Xl) w (w1.setCell ⟨x, 4, none⟩ (.int .i64 ((s'.ent + 1 : Nat) : Int))) ∧ w1.cell? ⟨x, 4, none⟩ = some (.int .i64 (s'.ent : Int)) ∧ w1.frozen? ⟨x, 4, none⟩ = false := by
  obtain ⟨h1, t1⟩ := Ob.q (Q' := LtP m r) (C.holds _ _ _) h hl t
  obtain ⟨h2, t2⟩ := Ob.c (C.holds _ _ _) (LtP.holds _ _) h1 4 (.int .i64 ((s'.ent + 1 : Nat) : Int))
  exact ⟨h2, t1.trans t2, h1.cell 4, h1.froz 4⟩
set_option maxHeartbeats 16000000 in
theorem plenter_any (C : QuC Q) (h : PeV Q x gq m s Xq Xl w) (hok : PlOk s) (hb : s.ent ≤ 300000) :
    Calls Try.prog 28 #[.pointer (some ⟨x, 0, none⟩)] w fun e w' => e = .returned (.bool (decide (s.ent < (plEnter s).ent))) ∧ ∃ Xq' Xl', PeV Q x gq m (plEnter s) Xq' Xl' w' ∧ Turns (Ob3 x Xq Xl) (Ob3 x Xq' Xl') w w' := by
  obtain ⟨⟨-, -, -, -, c4⟩, -⟩ := h.cells
  have HR := Lib.hid h
  have HOK := Lib.hid hok
  have hl64 := hok.llen
  obtain ⟨N, hN⟩ : ∃ N, s.late.length = N := ⟨_, rfl⟩
  have HN := Lib.hid hN
  rw [hN] at hl64
  clear h hok hN
  go_enter Try.func28, Try.ntmps28
  go_wp2_with (fail)
  go_loopw [4] (fun _ wr => ∃ (s' : Pls) (Xq' Xl' : Nat → Prop), Hid (PeV Q x gq m s' Xq' Xl' wr) ∧ Hid (PlOk s') ∧ Hid (plEnter s' = plEnter s ∧ s'.ent + s'.late.length = s.ent + N ∧ s.ent ≤ s'.ent) ∧ Hid (Turns (Ob3 x Xq Xl) (Ob3 x Xq' Xl') w wr)) (fun _ wr => s.ent + N - entOfE x wr)
  case atStart => exact ⟨s, Xq, Xl, HR, HOK, ⟨rfl, by rw [HN.out], Nat.le_refl _⟩, Turns.of_below (Below.refl _ _)⟩
  case round =>
    obtain ⟨s', Xq', Xl', HP, HK, HE, HT⟩ := hrel
    obtain ⟨⟨-, -, c2, c3, c4⟩, -⟩ := HP.out.cells
    have hle := HE.out.2.2
    have hsum := HE.out.2.1
    have HEN : Hid (entOfE x wr = s'.ent) := HP.out.ent
    obtain ⟨T, hT, hmX, hXl, hLV⟩ := HP.out.2.2.1
    have hTe := hLV (s'.ent : Int)
    have hsome := hTe.some_eq
    have hlook1 := hT.look (s'.ent : Int) ⟨by omega, by omega⟩
    have hlook2 := (hT.off (X := fun _ => False) (w' := wr.drew) (Off.of_below (Below.refl wr.heap.size wr).drew) (fun h => h)).look (s'.ent : Int) ⟨by omega, by omega⟩
    rcases ltGet_head HK.out with ⟨d, r, hlate, hg, hd64⟩ | ⟨hg, hcan⟩
    · rw [hg] at hTe hsome
      cases hTv : T (s'.ent : Int) with
      | none => rw [hTv] at hsome; cases hsome
      | some v =>
        rw [hTv] at hTe hlook1 hlook2
        obtain ⟨A, k, rfl, hB, hA⟩ := hTe
        have HPU := Lib.hid (fun W (U : Below wr.heap.size wr W) => C.push gq s'.c.room.toNat s'.ls A d.length k d W Xq' ((C.holds _ _ _).below HP.out.2.1 U) (hB.below U))
        have hcn := plCan_cons hlate
        have HLT := Lib.hid hlate
        have hq : quPush s'.c.room.toNat s'.ls d = if quPushE s'.c.room.toNat s'.ls d.length = 0 then s'.ls ++ [d] else s'.ls := rfl
        have hent : s'.ent ≤ 300064 := by omega
        have hpos : 0 < s'.late.length := by rw [hlate]; simp
        have HLPOS := Lib.hid hpos
        obtain ⟨E, hE⟩ : ∃ E, quPushE s'.c.room.toNat s'.ls d.length = E := ⟨_, rfl⟩
        rw [hE] at hcn hq HPU
        have P0 := Lib.hid (Below.refl wr.heap.size wr)
        have hlen := hB.len
        obtain ⟨L, hL⟩ : ∃ L, d.length = L := ⟨_, rfl⟩
        rw [hL] at HPU hlook1 hlook2
        by_cases he : E = 0
        · subst he
          rw [if_pos rfl] at hq
          rw [hq] at HPU
          have hcan : plCan s' = true := by rw [hcn]; rfl
          have HCAN := Lib.hid hcan
          have HST := Lib.hid (plStep_cons hlate)
          have HSO := Lib.hid (HK.out.step hcan)
          have HSE := Lib.hid (plEnter_yes hcan)
          have HSL := Lib.hid (plStep_len hcan)
          obtain ⟨nn, hnn⟩ : ∃ nn, s'.ent + 1 = nn := ⟨_, rfl⟩
          have ean : (s'.ent : Int) + 1 = (nn : Int) := by omega
          have HNN := Lib.hid hnn
          clear hT hLV hsome hg hcan hcn hq hE hlate hB hA hL hpos hnn
          go_wp2_with (fail)
          go_region
          all_goals
            go_wp2_with (fail)
            refine (HPU.out _ P0.out.drew).mono ?_
            rintro e w2 ⟨rfl, X2, q2, t2⟩
            have HP2 := Lib.hid (Ob.p (LtP.holds _ _) HP.out q2 t2.undrew)
            have HP2' : Hid (PeV Q x gq m { s' with ls := s'.ls ++ [d] } X2 Xl' w2) := HP2.out.1
            obtain ⟨T2, hT2, hm2, hX2, hLV2⟩ := HP2'.out.2.2.1
            have hT3 := hT2.off (X := fun _ => False) (w' := w2.drew) (Off.of_below (Below.refl w2.heap.size w2).drew) (fun h => h)
            have hLV3 := fun k => (hLV2 k).off (X' := Xl') (Y := fun _ => False) (Off.of_below (Below.refl w2.heap.size w2).drew) (fun _ _ _ h => h) (fun _ h => h)
            obtain ⟨w3, hrun, hM3, hg3⟩ := hT3.drop_any (s'.ent : Int) ⟨by omega, by omega⟩
            have hlate2 : ({ s' with ls := s'.ls ++ [d] } : Pls).late = (s'.ent, d) :: r := HLT.out
            rw [hlate2] at hLV3
            have hsrt := HK.out.2.2.1
            rw [HLT.out] at hsrt
            obtain ⟨hL3, hU3⟩ := LtP.drop (w := w2.drew) hsrt hX2 hm2 hLV3 hM3 hg3
            have hstep := HP2'.out.step C hL3 hU3.undrew
            rw [HNN.out] at hstep
            have HS4 := Lib.hid hstep
            obtain ⟨-, -, d4, f4⟩ := hstep
            obtain ⟨⟨-, -, c2, c3, c4⟩, -⟩ := HP2'.out.cells
            clear hT2 hLV2 hT3 hLV3 hM3 hg3 hL3 hU3 hlate2 hsrt q2 t2
            go_wp2_with (fail)
            go_region
            all_goals
              clear c2 c3 c4
              go_wp2_with (fail)
              generalize w3.setCell ⟨x, 4, none⟩ (.int .i64 (nn : Int)) = w4 at *
              go_roundw
              case rel =>
                have h1 := HE.out.2.1
                have h2 := HSL.out
                have h3 : (plStep s').ent = s'.ent + 1 := by rw [HST.out]
                have h4 := HE.out.2.2
                exact ⟨plStep s', X2, Xl', by rw [HST.out, HNN.out]; exact HS4.out.1, HSO.out, ⟨by rw [← HSE.out]; exact HE.out.1, by omega, by omega⟩, (HT.out.trans HP2.out.2).trans HS4.out.2.1⟩
              case measure =>
                have e1 : entOfE x w4 = nn := HS4.out.1.ent
                have h1 := HNN.out
                have h2 := HLPOS.out
                have h3 := HE.out.2.1
                have h4 := HEN.out
                omega
        · rw [if_neg he] at hq
          rw [hq] at HPU
          have hcan : plCan s' = false := by rw [hcn]; simpa using he
          have HEQ : Hid (plEnter s = s') := by show _ = _; rw [← HE.out.1, plEnter_no hcan]
          have d5 : (((E : Nat) : Int) != 0) = true := by simp; omega
          have d6 : decide ((s.ent : Int) < (s'.ent : Int)) = decide (s.ent < s'.ent) := by rw [decide_eq_decide]; omega
          clear hT hLV hsome hg hcan hcn hq hE hlate hB hA hL hpos
          go_wp2_with (fail)
          go_region
          all_goals
            go_wp2_with (fail)
            refine (HPU.out _ P0.out.drew).mono ?_
            rintro e w2 ⟨rfl, X2, q2, t2⟩
            have HP2 := Lib.hid (Ob.p (LtP.holds _ _) HP.out q2 t2.undrew)
            have HP2' : Hid (PeV Q x gq m s' X2 Xl' w2) := HP2.out.1
            obtain ⟨⟨-, -, c2, c3, c4⟩, -⟩ := HP2'.out.cells
            clear q2 t2
            go_wp2
            go_ret
            rw [HEQ.out]
            exact ⟨by first | rfl | rw [← d6] | simp, X2, Xl', HP2'.out, HT.out.trans HP2.out.2⟩
    · rw [hg] at hsome
      cases hTv : T (s'.ent : Int) with
      | some v => rw [hTv] at hsome; cases hsome
      | none =>
        rw [hTv] at hlook1 hlook2
        have HEQ : Hid (plEnter s = s') := by show _ = _; rw [← HE.out.1, plEnter_no hcan]
        have d6 : decide ((s.ent : Int) < (s'.ent : Int)) = decide (s.ent < s'.ent) := by rw [decide_eq_decide]; omega
        clear hT hLV hTe hsome hg hcan
        go_wp2_with (fail)
        go_region
        all_goals
          go_wp2
          go_ret
          rw [HEQ.out]
          exact ⟨by first | rfl | rw [← d6] | simp, Xq', Xl', HP.out.below C (Below.refl _ _).drew, HT.out.next (Below.refl _ _).drew⟩
end
end Go.Proofs.Ytpidbgnlehikeaa
