/- Package pusher, as landed: it goes on. -/
import Derived.Test.YtncpabnmdofomaaPuK4
namespace Go.Proofs.Ytncpabnmdofomaa
open Go.RowKit
set_option maxRecDepth 20000

/-- where a number stands -/
def nxtOfE (x : Nat) (w : World) : Nat := match w.cell? ⟨x, 5, none⟩ with | some v => (intOf v).toNat | none => 0
set_option maxHeartbeats 16000000 in
theorem pugoon_any {T : Nat → Int → List Tmr → World → (Nat → Prop) → Prop} (C : TmC T) (x gt : Nat) (P : Option Addr) (n pc : Nat) (vs : List Value) (s : Pus) (Xt Xc : Nat → Prop) (w : World) (h : EnV T x gt P n pc vs s s.base Xt Xc w) (hok : PsOk s) (hb : s.ls.length ≤ 100000) :
    Calls Try.prog 29 #[.pointer (some ⟨x, 0, none⟩)] w fun e w' => ∃ vo Xt', e = .returned vo ∧ Out w (EnX x P pc Xt' Xc) vo (puOnL s) w' ∧ EnV T x gt P n pc vs (puOn s) (puOn s).base Xt' Xc w' ∧ Turns (EnX x P pc Xt Xc) (EnX x P pc Xt' Xc) w w' := by
  have HOK := Lib.hid hok
  have HH := Lib.hid h
  have hgw := lt_row h.row
  clear h hok
  go_enter Try.func29, Try.ntmps29
  go_wp2_with (fail)
  go_loopw [3] (fun vo wr => ∃ (s' : Pus) (l : List Sld) (Xt' : Nat → Prop), Hid (EnV T x gt P n pc vs s' s'.base Xt' Xc wr) ∧ Hid (PsOk s') ∧ Hid (s'.ls = s.ls ∧ puOn s' = puOn s ∧ l ++ puOnL s' = puOnL s ∧ l.length + s'.ls.length ≤ s'.next + s.ls.length) ∧ Hid (Out w (EnX x P pc Xt' Xc) vo l wr) ∧ Hid (Turns (EnX x P pc Xt Xc) (EnX x P pc Xt' Xc) w wr)) (fun _ wr => s.ls.length - nxtOfE x wr)
  case atStart => exact ⟨s, [], Xt, HH, HOK, ⟨rfl, rfl, rfl, by simp⟩, Out.nil _ _ _, Turns.of_below (Below.refl _ _)⟩
  case round =>
    obtain ⟨s', l, Xt', HR, HK, HE, HO, HT⟩ := hrel
    have hsl0 : s'.ls.length ≤ 100000 := by rw [HE.out.1]; exact hb
    have hcf := HK.out.1
    have hnl := HK.out.2.1
    have hwk := hcf.1
    have HN9 : Hid (nxtOfE x wr = s'.next) := by show _ = _; unfold nxtOfE; rw [HR.out.cells.1.2.2.2.2.2.1]; rfl
    have hwb : IntKind.i64.wrap ((s'.base : Int) + s'.c.w) = (s'.base : Int) + s'.c.w := IntWalk.i64_in _ (by omega)
    have HC : Hid (∀ W, Below wr.heap.size wr W → W.cell? ⟨x, 0, none⟩ = some (.int .i64 s'.c.w) ∧ W.cell? ⟨x, 4, none⟩ = some (.int .i64 (s'.base : Int)) ∧ W.cell? ⟨x, 5, none⟩ = some (.int .i64 (s'.next : Int))) := fun W U =>
      have h := (HR.out.below C U).cells.1
      ⟨h.1, h.2.2.2.2.1, h.2.2.2.2.2.1⟩
    have HAC := Lib.hid (fun W (U : Below wr.heap.size wr W) => puacc_any (HR.out.below C U) (by omega))
    have P0 := Below.refl wr.heap.size wr
    obtain ⟨M, hM⟩ : ∃ M, min s'.ls.length (s'.base + s'.c.w.toNat) = M := ⟨_, rfl⟩
    have hmn : (if (s'.base : Int) + s'.c.w < (s'.ls.length : Int) then (s'.base : Int) + s'.c.w else (s'.ls.length : Int)) = (M : Int) := by split <;> omega
    have hkM : 0 < puK s' ↔ s'.next < M := by unfold puK; omega
    obtain ⟨c0, c4, c5⟩ := HC.out _ P0
    obtain ⟨N, hN⟩ : ∃ N, s'.ls.length = N := ⟨_, rfl⟩
    rw [hN] at hmn HAC
    have HMN := Lib.hid hmn
    have HLE : Hid (M ≤ N) := (by omega : M ≤ N)
    have HN := Lib.hid hN
    clear hmn hM hN
    by_cases h1 : s'.next < M
    · have d1 : decide ((s'.next : Int) < (M : Int)) = true := by simp; omega
      have d1' : decide (s'.next < M) = true := by simp; omega
      have hpos : 0 < puK s' := hkM.2 h1
      have hp := (puK_pos HK.out).1 hpos
      have h1s := hp.1
      clear c0 c4 c5
      go_wp2_with (fail)
      go_region_held3 (fun w' => w'.cell? ⟨x, 0, none⟩ = some (.int .i64 s'.c.w) ∧ w'.cell? ⟨x, 4, none⟩ = some (.int .i64 (s'.base : Int)) ∧ w'.cell? ⟨x, 5, none⟩ = some (.int .i64 (s'.next : Int))) (first | (with_reducible exact HC.out _ P0) | (with_reducible exact HC.out _ P0.drew) | (with_reducible exact HC.out _ (below_drewN' P0 _)) | exact HC.out _ (below_drewN' P0 _) | exact HC.out _ P0.drew)
        (first
          | (go_at_call 42; (with_reducible refine (HAC.out _ (by first | exact P0 | exact P0.drew)).mono ?_); rintro e w2 ⟨rfl, ⟨m, rfl⟩⟩))
      simp only [HMN.out]
      have B := below_drewN' P0 (1 + m)
      have hs := (fun W (U : Below wr.heap.size wr W) => puslide_any C s'.next (HR.out.below C U) hnl.1 h1s (by omega) HK.out.2.2.2.1)
      have hsl : puSld s' s'.next = (false, rgMod s'.next s'.c.m, 0, s'.ls[s'.next]) := by unfold puSld; rw [List.getD_eq_getElem?_getD, List.getElem?_eq_getElem h1s]; rfl
      have HLT := Lib.hid (HR.out.lt C)
      have HST := Lib.hid (HK.out.step h1s hp.2 (by omega))
      have hen : puOn (puStep s') = puOn s := by rw [← puOn_step hpos]; exact HE.out.2.1
      have hel : (l ++ [puSld s' s'.next]) ++ puOnL (puStep s') = puOnL s := by rw [List.append_assoc, List.singleton_append, ← puOnL_step hpos]; exact HE.out.2.2.1
      have hll : (l ++ [puSld s' s'.next]).length + (puStep s').ls.length ≤ (puStep s').next + s.ls.length := by
        have := HE.out.2.2.2
        show (l ++ [puSld s' s'.next]).length + s'.ls.length ≤ s'.next + 1 + s.ls.length
        simp; omega
      have HEN : Hid ((puStep s').ls = s.ls ∧ puOn (puStep s') = puOn s ∧ (l ++ [puSld s' s'.next]) ++ puOnL (puStep s') = puOnL s ∧ (l ++ [puSld s' s'.next]).length + (puStep s').ls.length ≤ (puStep s').next + s.ls.length) := ⟨HE.out.1, hen, hel, hll⟩
      have hl6 : l.length ≤ 100000 := by have h3 := HE.out.2.2.2; rw [← HE.out.1] at h3; omega
      have hws := HT.out.off.size
      have hsg := lt_row HR.out.row
      have HTL := Lib.hid HK.out.tlen
      have hn6 : s'.next < 100000 := by omega
      obtain ⟨nn, hnn⟩ : ∃ nn, s'.next + 1 = nn := ⟨_, rfl⟩
      have ean : (s'.next : Int) + 1 = (nn : Int) := by omega
      have HNN := Lib.hid hnn
      have H1S := Lib.hid h1s
      obtain ⟨-, -, c5⟩ := HC.out _ P0
      clear hen hel hll hpos hnl hcf hnn hp hwk hkM
      generalize rgMod (s'.next : Int) s'.c.m = rm at *
      generalize s'.ls[s'.next] = xx at *
      generalize puSld s' s'.next = sl at *
      subst hsl
      obtain ⟨L, hL⟩ : ∃ L, xx.length = L := ⟨_, rfl⟩
      rw [hL] at hs
      have HS := Lib.hid hs
      clear hL hs
      go_wp2_with (fail)
      refine (HS.out _ B).mono ?_
      rintro e w1 ⟨A1, k1, rfl, hF, T1⟩
      have TB : Below wr.heap.size wr w1 := nxt B T1
      have hTB := TB.size
      have hBs := B.size
      have T1a := TB.alloc hTB (.cells #[.bool false, .int .i64 rm, .int .u64 0, .slice A1 L k1] 38)
      have HT1a := Lib.hid T1a
      have HF := Lib.hid hF
      have hs1 : (w1.alloc (.cells #[.bool false, .int .i64 rm, .int .u64 0, .slice A1 L k1] 38)).heap.size = w1.heap.size + 1 := by simp
      clear hF T1 T1a TB
      go_wp2_with ((with_reducible refine app_s _ rfl (.tmp 21) (.tmp 28) rfl w.heap.size (fun k => k < w.heap.size ∨ EnX x P pc Xt' Xc k) u3 l rfl ?c1 (fun k => k < wr.heap.size) (some ⟨w1.heap.size, 0, none⟩) 1 1 [(false, rm, 0, xx)] rfl ?c2 ?c3 ?c4 ?c5 ?c6 ?_); rotate_right; intro v2 w2 hown2 hgrow2 hwhere2)
      case c1 => exact HO.out.1.below HT1a.out
      case c2 => exact Sls.one (u := 0) HF.out.bys (HF.out.2.1.imp (fun k hk => Nat.lt_of_lt_of_le hk hBs)) (fun h => by omega)
      case c3 => omega
      case c4 => rw [hs1]; omega
      case c5 => exact fun k _ hz => hz.elim (fun h => Nat.lt_of_lt_of_le h hws) (HLT.out k)
      case c6 => exact fun k hk => (HO.out.1.lt k hk).2
      obtain ⟨hO2, hoff⟩ := HO.out.more HT1a.out HLT.out hown2 hgrow2 hwhere2
      have R2 := HR.out.off C hoff (fun k hk hv => HO.out.2 k hv hk)
      have HT2 : Hid (Turns (EnX x P pc Xt Xc) (EnX x P pc Xt' Xc) w w2) := ⟨HT.out.off.thru hoff (fun i hi hv => absurd (HO.out.1.lt i hv).1 (by omega)), HT.out.grow⟩
      have HSET := Lib.hid (fun W (U : Below w2.heap.size w2 W) => C.set gt s'.c.b s'.tm s'.next W Xt' (R2.below C U).tm HK.out.2.2.2.2.1 ⟨by omega, by omega⟩ (by have := HTL.out; omega))
      have HR2 := Lib.hid R2
      have HO2 := Lib.hid hO2
      have K2 : Hid (w2.cell? ⟨x, 3, none⟩ = some (.pointer (some ⟨gt, 0, none⟩)) ∧ w2.cell? ⟨x, 5, none⟩ = some (.int .i64 (s'.next : Int))) := ⟨R2.cells.1.2.2.2.1, R2.cells.1.2.2.2.2.2.1⟩
      have P0 := Below.refl w2.heap.size w2
      clear R2 hO2 hoff hown2 hgrow2 hwhere2 c5
      go_region_held3 (fun w' => w'.cell? ⟨x, 3, none⟩ = some (.pointer (some ⟨gt, 0, none⟩)) ∧ w'.cell? ⟨x, 5, none⟩ = some (.int .i64 (s'.next : Int))) (first | exact K2.out | exact K3.out)
        (first
          | (go_at_call 47; (with_reducible refine (HSET.out _ (by first | exact P0 | exact P0.drew)).mono ?_); rintro e w3 ⟨rfl, Xt2, q3, t3⟩; have t3' : Turns Xt' Xt2 w2 w3 := (by first | exact t3 | exact t3.undrew); have HR3 := Lib.hid (HR2.out.t q3 t3'); have K3 : Hid (w3.cell? ⟨x, 3, none⟩ = some (.pointer (some ⟨gt, 0, none⟩)) ∧ w3.cell? ⟨x, 5, none⟩ = some (.int .i64 (s'.next : Int))) := ⟨HR3.out.1.cells.1.2.2.2.1, HR3.out.1.cells.1.2.2.2.2.2.1⟩))
      all_goals
        have HO3 := Lib.hid (HO2.out.turn HR3.out.2)
        have HT3 := Lib.hid (HT2.out.trans HR3.out.2)
        have g5 : w3.cell? ⟨x, 5, none⟩ = some (.int .i64 (s'.next : Int)) := K3.out.2
        have gf := HR3.out.1.cells.2 5
        have HE4 := Lib.hid (HR3.out.1.st C (s' := puStep s') 5 (.int .i64 (nn : Int)) (by rw [← HNN.out]; rfl) rfl rfl rfl)
        clear q3 t3 t3'
        go_wp2_with (fail)
        generalize w3.setCell ⟨x, 5, none⟩ (.int .i64 (nn : Int)) = w4 at *
        go_roundw
        case rel => exact ⟨puStep s', l ++ [(false, rm, 0, xx)], Xt2, HE4.out.1, HST.out, HEN.out, HO3.out.turn HE4.out.2, HT3.out.trans HE4.out.2⟩
        case measure =>
          have e : nxtOfE x w4 = s'.next + 1 := by unfold nxtOfE; rw [HE4.out.1.cells.1.2.2.2.2.2.1]; rfl
          rw [e, HN9.out]
          have := HE.out.1
          have : s'.next < s.ls.length := by rw [← this]; exact H1S.out
          omega
    · have d1 : decide ((s'.next : Int) < (M : Int)) = false := by simp; omega
      have d1' : decide (s'.next < M) = false := by simp; omega
      have hz : puK s' = 0 := by
        rcases Nat.eq_zero_or_pos (puK s') with e | e
        · exact e
        · exact absurd (hkM.1 e) h1
      have HZ : Hid (s' = puOn s ∧ l = puOnL s) := ⟨by rw [← HE.out.2.1, puOn_none hz], by have := HE.out.2.2.1; rw [puOnL_none hz, List.append_nil] at this; exact this⟩
      clear c0 c4 c5 hz hkM
      go_wp2_with (fail)
      go_region_held3 (fun w' => w'.cell? ⟨x, 0, none⟩ = some (.int .i64 s'.c.w) ∧ w'.cell? ⟨x, 4, none⟩ = some (.int .i64 (s'.base : Int)) ∧ w'.cell? ⟨x, 5, none⟩ = some (.int .i64 (s'.next : Int))) (first | (with_reducible exact HC.out _ P0) | (with_reducible exact HC.out _ P0.drew) | (with_reducible exact HC.out _ (below_drewN' P0 _)) | exact HC.out _ (below_drewN' P0 _) | exact HC.out _ P0.drew)
        (first
          | (go_at_call 42; (with_reducible refine (HAC.out _ (by first | exact P0 | exact P0.drew)).mono ?_); rintro e w2 ⟨rfl, ⟨m, rfl⟩⟩))
      simp only [HMN.out]
      have B := below_drewN' P0 (1 + m)
      go_wp2
      go_ret
      rw [← HZ.out.1, ← HZ.out.2]
      exact ⟨_, Xt', rfl, HO.out.below B, HR.out.below C B, HT.out.next B⟩
end Go.Proofs.Ytncpabnmdofomaa
