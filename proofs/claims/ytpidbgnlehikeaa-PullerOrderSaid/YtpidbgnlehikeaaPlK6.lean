/- Package puller, as landed: Take. -/
import Derived.Test.YtpidbgnlehikeaaPlK5
namespace Go.Proofs.Ytpidbgnlehikeaa
open Go.RowKit
set_option maxRecDepth 20000

theorem Out.gxl {w0 w : World} {X : Nat → Prop} {v : Value} {l : List Sld} {g : Nat} (h : Out w0 X v l w) (hg : g < w0.heap.size) : Out w0 (fun k => k = g ∨ X k) v l w := by
  have e : (fun k => k < w0.heap.size ∨ (k = g ∨ X k)) = (fun k => k < w0.heap.size ∨ X k) := funext fun k => propext ⟨fun h => by
    rcases h with h | h | h
    · exact .inl h
    · subst h; exact .inl hg
    · exact .inr h, fun h => h.imp id .inr⟩
  refine ⟨by rw [e]; exact h.1, fun k hk hx => ?_⟩
  rcases hx with rfl | hx
  · have := (h.1.lt k hk).1; omega
  · exact h.2 k hk hx
section
variable {Q : Nat → Nat → List (List UInt8) → World → (Nat → Prop) → Prop}
set_option maxHeartbeats 8000000 in
theorem pltake_any (C : QuC Q) (g : Nat) (s : Pls) (a : Bool) (sq : Int) (u : Nat) (A : Option Addr) (n c : Nat) (d : List UInt8) (w : World) (X : Nat → Prop) (hF : PlP Q g s w X) (hok : PlOk s) (hb : s.ent ≤ 200000) (hB : Bys w A n c d) :
    Calls Try.prog 12 #[.pointer (some ⟨g, 0, none⟩), .agg #[.bool a, .int .i64 sq, .int .u64 (u : Int), .slice A n c]] w (GivesSls (PlP Q g (plTake s a sq d)) X (plTakeL s a sq d) w) := by
  have T0 := (Below.refl _ w).alloc (Nat.le_refl _) (.cells #[.bool a, .int .i64 sq, .int .u64 (u : Int), .slice A n c] 38)
  have n0 := heap_alloc_new w (.cells #[.bool a, .int .i64 sq, .int .u64 (u : Int), .slice A n c] 38)
  have HF := Lib.hid ((PlP.holds C g s).below hF T0)
  obtain ⟨x, Y, hg1, ⟨gq, m, Xq, Xl, h, rfl⟩, hg3, rfl, hrt, hbe⟩ := hF
  have hgw := lt_row hg1
  have c0 : (w.alloc (.cells #[.bool a, .int .i64 sq, .int .u64 (u : Int), .slice A n c] 38)).cell? ⟨g, 0, none⟩ = some (.pointer (some ⟨x, 0, none⟩)) := cell_of_row _ _ _ _ _ _ ((T0.block g hgw).trans hg1)
  have HM := Lib.hid (plmade_any g ⟨x, 0, none⟩ _ c0)
  obtain ⟨⟨p0, p1, p2, p3⟩, -⟩ := row4 n0
  have HT0 := Lib.hid T0
  cases a with
  | true =>
    have e1 : plTake s true sq d = s := by unfold plTake; rw [if_pos rfl]
    have e2 : plTakeL s true sq d = [] := by unfold plTakeL; rw [if_pos rfl]
    rw [e1, e2]
    clear h hok T0 n0 e1 e2 hg1 hg3 hB
    go_enter Try.func12, Try.ntmps12
    go_wp2_with (fail)
    refine HM.out.mono ?_
    rintro e w1 ⟨rfl, rfl⟩
    go_wp2
    go_ret
    exact ⟨none, 0, 0, _, rfl, Sls.nil _ _, HF.out, Turns.of_below HT0.out⟩
  | false =>
    have e1 : plTake s false sq d = plEnter (plKept s sq d) := by unfold plTake; rw [if_neg (by decide)]
    have e2 : plTakeL s false sq d = plTells (plEnter (plKept s sq d)) := by unfold plTakeL; rw [if_neg (by decide), e1]
    have hkk := hok.kept sq d
    have hke := hkk.1.enter
    have hkl := hkk.1.llen
    have HKO := Lib.hid hkk.1
    have HEO := Lib.hid hke.1
    have hkb : (plKept s sq d).ent ≤ 300000 := by rw [hkk.2.1]; omega
    have heb : (plEnter (plKept s sq d)).ent ≤ 300000 := by have := hke.2.2.2.2; rw [hkk.2.1] at this; omega
    have HFIN : Hid ((plEnter (plKept s sq d)).ret + (plEnter (plKept s sq d)).ls.length = (plEnter (plKept s sq d)).ent ∧ (plEnter (plKept s sq d)).ent ≤ 300000) := ⟨hke.1.2.2.2.2, heb⟩
    rw [e1, e2]
    have HTK := Lib.hid (fun W (U : Below w.heap.size w W) => plkeep_any C (h.below C U) hok sq A n c d (by omega) (hB.below U))
    have HG1 := Lib.hid hg1
    have HG3 := Lib.hid hg3
    have hlt := h.lt C
    have hpx : ¬ Ob3 x Xq Xl w.heap.size := fun e => by have := hlt _ e; omega
    have HPX := Lib.hid hpx
    have HNW : Hid (w.heap.size < (w.alloc (.cells #[.bool false, .int .i64 sq, .int .u64 (u : Int), .slice A n c] 38)).heap.size) := by show _ < _; simp
    have HGN : Hid (g < (w.alloc (.cells #[.bool false, .int .i64 sq, .int .u64 (u : Int), .slice A n c] 38)).heap.size) := by show _ < _; simp; omega
    generalize plKept s sq d = s1 at *
    clear h hok T0 n0 hg1 hg3 hlt hpx e1 e2 hkk hke hB
    go_enter Try.func12, Try.ntmps12
    go_wp2_with (fail)
    generalize w.alloc (.cells #[.bool false, .int .i64 sq, .int .u64 (u : Int), .slice A n c] 38) = W1 at *
    refine HM.out.mono ?_
    rintro e w1 ⟨rfl, rfl⟩
    go_wp2_with (fail)
    have K2 : Hid (W1.cell? ⟨g, 0, none⟩ = some (.pointer (some ⟨x, 0, none⟩)) ∧ W1.cell? ⟨w.heap.size, 1, none⟩ = some (.int .i64 sq) ∧ W1.cell? ⟨w.heap.size, 3, none⟩ = some (.slice A n c)) := ⟨c0, p1, p3⟩
    clear c0 p0 p1 p2 p3
    go_region_held3 (fun w' => w'.cell? ⟨g, 0, none⟩ = some (.pointer (some ⟨x, 0, none⟩)) ∧ w'.cell? ⟨w.heap.size, 1, none⟩ = some (.int .i64 sq) ∧ w'.cell? ⟨w.heap.size, 3, none⟩ = some (.slice A n c)) (first | exact K2.out | exact K3.out)
      (first
        | (go_at_call 27; (with_reducible refine (HTK.out _ (by first | exact HT0.out | exact HT0.out.drew)).mono ?_); rintro e w2 ⟨rfl, Xl2, R2, t2⟩; have HE : Hid (PeV Q x gq m s1 Xq Xl2 w2 ∧ Turns (Ob3 x Xq Xl) (Ob3 x Xq Xl2) W1 w2) := ⟨R2, by first | exact t2 | exact t2.undrew⟩; have K3 : Hid (w2.cell? ⟨g, 0, none⟩ = some (.pointer (some ⟨x, 0, none⟩)) ∧ w2.cell? ⟨w.heap.size, 1, none⟩ = some (.int .i64 sq) ∧ w2.cell? ⟨w.heap.size, 3, none⟩ = some (.slice A n c)) := ⟨(HE.out.2.off.cell (p := ⟨g, 0, none⟩) HGN.out HG3.out).trans K2.out.1, (HE.out.2.off.cell (p := ⟨w.heap.size, 1, none⟩) HNW.out HPX.out).trans K2.out.2.1, (HE.out.2.off.cell (p := ⟨w.heap.size, 3, none⟩) HNW.out HPX.out).trans K2.out.2.2⟩))
    all_goals
      clear R2 t2
      have TT : Turns (Ob3 x Xq Xl) (Ob3 x Xq Xl2) w w2 := ⟨(Off.of_below HT0.out).trans HE.out.2.off, fun i hi => (HE.out.2.grow i hi).imp id (fun h => Nat.le_trans HT0.out.size h)⟩
      have HTT := Lib.hid TT
      have HEN := Lib.hid (plenter_any C HE.out.1 HKO.out hkb)
      have k0 := K3.out.1
      clear TT
      go_wp2_with (fail)
      refine HEN.out.mono ?_
      rintro e w3 ⟨rfl, Xq3, Xl3, R3, t3⟩
      have HT3 := Lib.hid (HTT.out.trans t3)
      have HTE := Lib.hid (pltell_any C R3 HEO.out heb)
      have HR3 := Lib.hid R3
      have k0 : w3.cell? ⟨g, 0, none⟩ = some (.pointer (some ⟨x, 0, none⟩)) := (HT3.out.off.cell (p := ⟨g, 0, none⟩) hgw HG3.out).trans (cell_of_row _ _ _ _ _ _ HG1.out)
      clear R3 t3
      go_wp2_with (fail)
      refine HTE.out.mono ?_
      rintro e w4 ⟨vo, rfl, hO, U4⟩
      have HO4 := Lib.hid (And.intro hO U4)
      clear hO U4
      go_wp2
      go_ret
      obtain ⟨A', c', rfl, hS⟩ := ((HO4.out.1.base HT3.out.off.size).gxl hgw).sls
      obtain ⟨hP, hT⟩ := PlP.turn HG1.out HG3.out ⟨gq, m, Xq3, Xl3, HR3.out.below C HO4.out.2, rfl⟩ (HT3.out.next HO4.out.2) HFIN.out
      exact ⟨A', _, c', _, rfl, hS, hP, hT⟩
end
end Go.Proofs.Ytpidbgnlehikeaa
