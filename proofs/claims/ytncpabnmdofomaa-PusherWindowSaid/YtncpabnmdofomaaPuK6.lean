/- Package pusher, as landed: Tick. -/
import Derived.Test.YtncpabnmdofomaaPuK5
namespace Go.Proofs.Ytncpabnmdofomaa
open Go.RowKit
set_option maxRecDepth 20000

theorem Out.gx {w0 w : World} {X : Nat → Prop} {v : Value} {l : List Sld} {g : Nat} (h : Out w0 X v l w) (hg : g < w0.heap.size) : Out w0 (fun k => k = g ∨ X k) v l w := by
  have e : (fun k => k < w0.heap.size ∨ (k = g ∨ X k)) = (fun k => k < w0.heap.size ∨ X k) := funext fun k => propext ⟨fun h => by
    rcases h with h | h | h
    · exact .inl h
    · subst h; exact .inl hg
    · exact .inr h, fun h => h.imp id .inr⟩
  refine ⟨by rw [e]; exact h.1, fun k hk hx => ?_⟩
  rcases hx with rfl | hx
  · have := (h.1.lt k hk).1; omega
  · exact h.2 k hk hx
set_option maxHeartbeats 16000000 in
theorem putick_any {T : Nat → Int → List Tmr → World → (Nat → Prop) → Prop} (C : TmC T) (g : Nat) (s : Pus) (w : World) (X : Nat → Prop) (hF : PuP T g s w X) (hok : PsOk s) (hb : s.ls.length < 100000) :
    Calls Try.prog 14 #[.pointer (some ⟨g, 0, none⟩)] w (GivesSls (PuP T g (puTick s)) X (puTickL s) w) := by
  obtain ⟨x, Y, hg1, ⟨gt, P, n, pc, vs, Xt, Xc, h, rfl⟩, hg3, rfl⟩ := hF
  have c0 : w.cell? ⟨g, 0, none⟩ = some (.pointer (some ⟨x, 0, none⟩)) := cell_of_row _ _ _ _ _ _ hg1
  have HM := Lib.hid (pumade_any g ⟨x, 0, none⟩ w c0)
  have HTK := Lib.hid (C.tick gt s.c.b s.tm w Xt h.tm hok.2.2.2.2.1 (by have := hok.tlen; omega))
  have HV := Lib.hid h
  have c3 := h.cells.1.2.2.2.1
  have hlen : (tmDue s.tm).length ≤ 64 := Nat.le_trans (tmDue_len s.tm) hok.tlen
  have HKEY : Hid (∀ j (hj : j < (tmDue s.tm).length), ∃ p : Nat, (tmDue s.tm)[j] = (p : Int) ∧ (s.base ≤ p ∧ p < s.ls.length) ∧ (puTickL s).take (j + 1) = (puTickL s).take j ++ [puSld s p]) := fun j hj => by
    have hk := hok.2.2.2.2.2.1 _ (tmDue_keys s.tm _ (List.getElem_mem hj))
    have h2 := hok.2.1.2
    refine ⟨((tmDue s.tm)[j]).toNat, by omega, by omega, ?_⟩
    have hj' : j < (puTickL s).length := by unfold puTickL; simpa using hj
    rw [List.take_succ_eq_append_getElem hj']
    congr 2
    simp [puTickL]
  have HALL := Lib.hid hok.2.2.2.1
  have HLN : Hid ((puTickL s).length = (tmDue s.tm).length) := by show _ = _; unfold puTickL; simp
  have HG1 := Lib.hid hg1
  have HG3 := Lib.hid hg3
  have hgw := lt_row hg1
  clear h hok hg1 hg3
  go_enter Try.func14, Try.ntmps14
  go_wp2_with (fail)
  refine HM.out.mono ?_
  rintro e w0 ⟨rfl, rfl⟩
  go_wp2_with (fail)
  refine HTK.out.mono ?_
  rintro e w1 ⟨A, n', c, Xt', rfl, hZ, -, q1, t1⟩
  obtain ⟨R1, k1⟩ := HV.out.t q1 t1
  have HR1 : Hid (EnV T x gt P n pc vs (puTick s) (puTick s).base Xt' Xc w1) := R1
  have HK1 := Lib.hid k1
  have hn : (tmDue s.tm).length = n' := hZ.len
  have HZ := Lib.hid hZ
  have HNL := Lib.hid hn
  have c0 : w1.cell? ⟨g, 0, none⟩ = some (.pointer (some ⟨x, 0, none⟩)) := cell_of_row _ _ _ _ _ _ ((k1.off.block g hgw HG3.out).trans HG1.out)
  have hg1w : g < w1.heap.size := Nat.lt_of_lt_of_le hgw k1.off.size
  rw [hn] at hlen
  have hc63 : n' ≤ c ∧ c ≤ 9223372036854775807 := ⟨hZ.le, by have := hZ.cap; unfold maxLen at this; omega⟩
  clear q1 t1 R1 k1 hZ hn c3
  go_wp2_with (fail)
  go_loopw [3, 18] (fun vo i wr => ∃ j : Nat, j ≤ n' ∧ i = .int .i64 (j : Int) ∧ Hid (Out w1 (EnX x P pc Xt' Xc) vo ((puTickL s).take j) wr) ∧ Below w1.heap.size w1 wr) (fun _ i _ => n' - (intOf i).toNat)
  case atStart => exact ⟨0, Nat.zero_le _, rfl, Out.nil _ _ _, Below.refl _ _⟩
  case round =>
    obtain ⟨j, hj, rfl, HO, hbel⟩ := hrel
    by_cases hlt : j < n'
    · have d0 : decide ((j : Int) < (n' : Int)) = true := by simp; omega
      have hjn : (j : Int) < (n' : Int) := by omega
      have hj0 : (0 : Int) ≤ (j : Int) := by omega
      obtain ⟨p, hp, hpl, htk⟩ := HKEY.out j (by rw [HNL.out]; exact hlt)
      obtain ⟨b, o, rfl, hb1, hcl⟩ := HZ.out.cell (by omega)
      have cj := (hbel.cell (p := ⟨b, o + j, none⟩) hb1).trans (hcl j (by rw [HNL.out]; exact hlt))
      have cg := (hbel.cell (p := ⟨g, 0, none⟩) hg1w).trans c0
      rw [hp] at cj
      have HRR := Lib.hid (HR1.out.below C hbel)
      have hpl2 := hpl.2
      have hs := (fun W (U : Below wr.heap.size wr W) => puslide_any C p (HRR.out.below C U) hpl.1 hpl.2 (by have : (puTick s).ls = s.ls := rfl; omega) HALL.out)
      have hsl : puSld s p = (false, rgMod p s.c.m, 0, s.ls[p]) := by unfold puSld; rw [List.getD_eq_getElem?_getD, List.getElem?_eq_getElem hpl2]; rfl
      have hs2 : ∀ W, Below wr.heap.size wr W → Calls Try.prog 34 #[.pointer (some ⟨x, 0, none⟩), .int .i64 (p : Int)] W fun e w' => ∃ A c, e = .returned (.agg #[.bool false, .int .i64 (rgMod p s.c.m), .int .u64 0, .slice A (s.ls[p]).length c]) ∧ Fre w' (· < W.heap.size) A (s.ls[p]).length c s.ls[p] ∧ Below W.heap.size W w' := hs
      have HLT := Lib.hid (HRR.out.lt C)
      clear hs hcl hp
      rw [hsl] at htk
      clear hsl
      generalize rgMod (p : Int) s.c.m = rm at *
      generalize s.ls[p] = xx at *
      obtain ⟨L, hL⟩ : ∃ L, xx.length = L := ⟨_, rfl⟩
      rw [hL] at hs2
      have HS := Lib.hid hs2
      have HTKE := Lib.hid htk
      have hs10 := hbel.size
      have htl : ((puTickL s).take j).length = j := by rw [List.length_take, HLN.out, HNL.out]; omega
      generalize hll : (puTickL s).take j = l at *
      clear hL hs2 htk hll hpl hpl2
      go_wp2_with (fail)
      refine (HS.out _ (Below.refl _ _)).mono ?_
      rintro e w2 ⟨A1, k1, rfl, hF, T1⟩
      have hTB := T1.size
      have HT1a := Lib.hid (T1.alloc hTB (.cells #[.bool false, .int .i64 rm, .int .u64 0, .slice A1 L k1] 38))
      have HF := Lib.hid hF
      have hs1 : (w2.alloc (.cells #[.bool false, .int .i64 rm, .int .u64 0, .slice A1 L k1] 38)).heap.size = w2.heap.size + 1 := by simp
      clear hF T1
      go_wp2_with ((with_reducible refine app_s _ rfl (.tmp 22) (.tmp 29) rfl w1.heap.size (fun k => k < w1.heap.size ∨ EnX x P pc Xt' Xc k) u3 l rfl ?c1 (fun k => k < wr.heap.size) (some ⟨w2.heap.size, 0, none⟩) 1 1 [(false, rm, 0, xx)] rfl ?c2 ?c3 ?c4 ?c5 ?c6 ?_); rotate_right; intro v2 w3 hown2 hgrow2 hwhere2)
      case c1 => exact HO.out.1.below HT1a.out
      case c2 => exact Sls.one (u := 0) HF.out.bys HF.out.2.1 (fun h => by omega)
      case c3 => omega
      case c4 => rw [hs1]; omega
      case c5 => exact fun k _ hz => hz.elim (fun h => Nat.lt_of_lt_of_le h hs10) (HLT.out k)
      case c6 => exact fun k hk => (HO.out.1.lt k hk).2
      have HO2 := Lib.hid (HO.out.more HT1a.out HLT.out hown2 hgrow2 hwhere2)
      have hb2 : Below w1.heap.size w1 w3 := (hbel.trans (HT1a.out.mono hs10)).grown hgrow2 (by rw [hs1]; omega) (fun k hk => (HO.out.1.lt k hk).1)
      clear hown2 hgrow2 hwhere2
      go_roundw
      case rel => exact ⟨j + 1, by omega, by go_num, by rw [HTKE.out]; exact HO2.out.1, hb2⟩
      case measure => simp [intOf]; omega
    · have d0 : decide ((j : Int) < (n' : Int)) = false := by simp; omega
      obtain rfl : j = n' := by omega
      have hO := HO.out
      rw [List.take_of_length_le (by rw [HLN.out, HNL.out]; exact Nat.le_refl _)] at hO
      have HOE := Lib.hid (((hO.base HK1.out.off.size).gx hgw).sls)
      have HPE := Lib.hid (PuP.turn (s' := puTick s) HG1.out HG3.out ⟨gt, P, n, pc, vs, Xt', Xc, HR1.out.below C hbel, rfl⟩ (HK1.out.next hbel))
      clear hO HO
      go_wp2
      go_ret
      obtain ⟨A', c', rfl, hS⟩ := HOE.out
      exact ⟨A', _, c', _, rfl, hS, HPE.out.1, HPE.out.2⟩
end Go.Proofs.Ytncpabnmdofomaa
