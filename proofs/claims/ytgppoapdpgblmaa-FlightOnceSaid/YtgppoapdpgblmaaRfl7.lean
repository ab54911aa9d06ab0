/- What kedgeref16's Spoil and Same answer; Put whole. -/
import Derived.Test.YtgppoapdpgblmaaRfl6
import Derived.Test.YtgppoapdpgblmaaRfl4
import Derived.Test.YtgppoapdpgblmaaRfl5
import Derived.Test.YtgppoapdpgblmaaEdRf2
import Derived.Test.YtgppoapdpgblmaaSame
namespace Go.Proofs.Ytgppoapdpgblmaa
open Go.RowKit
set_option maxRecDepth 20000

theorem edOne_le (b : List UInt8) (e : Ed) (h : b.length ≤ 512) : (edOne b e).length ≤ 512 := by
  unfold edOne
  split
  · exact h
  · split
    · simpa using h
    · split
      · rename_i h1 h2 h3
        simp
        omega
      · split
        · simp; omega
        · split
          · simp; omega
          · exact h
theorem edDo_le (l : List Ed) : ∀ b : List UInt8, b.length ≤ 512 → (edDo b l).length ≤ 512 := by
  induction l with
  | nil => intro b h; exact h
  | cons e l ih => intro b h; exact ih (edOne b e) (edOne_le b e h)
def spoilL (l : List Frm) (i : Nat) (es : List Ed) : List Frm := l.set i ((l.getD i (0, [], [])).1, edDo (l.getD i (0, [], [])).2.1 es, (l.getD i (0, [], [])).2.2)
def fsSpoil (s : Fs) (d i : Int) (es : List Ed) : Fs := if (fsAt s d i).2 = 0 then (if d = 0 then { s with l0 := spoilL s.l0 i.toNat es } else { s with l1 := spoilL s.l1 i.toNat es }) else s
theorem rfput_any (g : Nat) (s : Fs) (d : Int) (A : Option Addr) (n c : Nat) (b : List UInt8) (w : World) (X : Nat → Prop) (h : RF g s w X) (hB : Bys w A n c b) (hA : Av X n A) (hs0 : s.s0 < 1000000) (hs1 : s.s1 < 1000000) (hgone : s.gone ≤ 90000000) :
    Calls Try.prog 12 #[.pointer (some ⟨g, 0, none⟩), .int .i64 d, .slice A n c] w fun e w' => e = .returned (.int .i64 ((fsPutE s d n : Nat) : Int)) ∧ ∃ X', RF g (fsPut s d b) w' X' ∧ Turns X X' w w' := by
  by_cases hbad : fsPutE s d n = 0
  · have hl := hB.len
    have hb := hbad
    unfold fsPutE at hb
    by_cases h1 : d < 0 ∨ 1 < d
    · rw [if_pos h1] at hb; cases hb
    · rw [if_neg h1] at hb
      by_cases h2 : 512 < n
      · rw [if_pos h2] at hb; cases hb
      · rw [if_neg h2] at hb
        by_cases h3 : 4096 ≤ fsLen s d
        · rw [if_pos h3] at hb; cases hb
        · rw [hbad]
          have hd : d = 0 ∨ d = 1 := by omega
          rcases hd with rfl | rfl
          · have e : fsPut s 0 b = fsPut0 s b := by unfold fsPut; rw [hl, if_pos hbad]; rfl
            rw [e]
            exact rfput_good0 g s A n c b w X h hB hA (by omega) (Nat.lt_of_not_le h3) hs0 hgone
          · have e : fsPut s 1 b = fsPut1 s b := by unfold fsPut; rw [hl, if_pos hbad]; rfl
            rw [e]
            exact rfput_good1 g s A n c b w X h hB hA (by omega) (Nat.lt_of_not_le h3) hs1 hgone
  · exact rfput_bad g s d A n c b w X h hB hbad
set_option maxHeartbeats 4000000 in
theorem rfspoil_no (g : Nat) (s : Fs) (d i : Int) (AE : Option Addr) (nE cE : Nat) (es : List Ed) (w : World) (X : Nat → Prop) (h : RF g s w X) (hno : (fsAt s d i).2 ≠ 0) :
    Calls Try.prog 17 #[.pointer (some ⟨g, 0, none⟩), .int .i64 d, .int .i64 i, .slice AE nE cE] w fun e w' => e = .returned (.int .i64 (((fsAt s d i).2 : Nat) : Int)) ∧ ∃ X', RF g (fsSpoil s d i es) w' X' ∧ Turns X X' w w' := by
  have HS : Hid (fsSpoil s d i es = s) := by show _ = _; unfold fsSpoil; rw [if_neg hno]
  have HW := Lib.hid (fun W (U : Below w.heap.size w W) => (RF.holds g s).below h U)
  obtain ⟨v0, v1, h⟩ := h
  have HA := Lib.hid (rfat_any g s v0 v1 d i w X h)
  have hde : (((fsAt s d i).2 : Int) == 0) = false := by simp; omega
  clear h hno
  generalize fsAt s d i = r at *
  obtain ⟨⟨rn, t1, t2⟩, re⟩ := r
  simp only at hde
  go_enter Try.func17, Try.ntmps17
  go_wp2_with (fail)
  refine HA.out.mono ?_
  rintro e w1 ⟨u1, u2, rfl, x1, x2, T1⟩
  obtain ⟨A1, k1, rfl, _, _⟩ := id x1
  obtain ⟨A2, k2, rfl, _, _⟩ := id x2
  clear x1 x2
  simp only
  go_wp2
  go_ret
  have TA := T1.alloc T1.size (.cells #[.int .i64 (rn : Int), .slice A1 t1.length k1, .slice A2 t2.length k2] 40)
  exact ⟨rfl, X, by rw [HS.out]; exact HW.out _ TA, Turns.of_below TA⟩
set_option maxHeartbeats 2000000 in
theorem rfsame_true (rn : Nat) (t1 t2 : List UInt8) (Y1 Y2 Y3 Y4 : Nat → Prop) (u1 u2 u3 u4 : Value) (w : World) (x1 : Tx w Y1 t1 u1) (x2 : Tx w Y2 t2 u2) (x3 : Tx w Y3 t1 u3) (x4 : Tx w Y4 t2 u4) :
    Calls Try.prog 15 #[.agg #[.int .i64 (rn : Int), u1, u2], .agg #[.int .i64 (rn : Int), u3, u4]] w fun e w' => e = .returned (.bool true) ∧ Below w.heap.size w w' := by
  obtain ⟨A1, k1, rfl, b1, -⟩ := x1
  obtain ⟨A2, k2, rfl, b2, -⟩ := x2
  obtain ⟨A3, k3, rfl, b3, -⟩ := x3
  obtain ⟨A4, k4, rfl, b4, -⟩ := x4
  obtain ⟨m1, hm1⟩ : ∃ m, t1.length = m := ⟨_, rfl⟩
  obtain ⟨m2, hm2⟩ : ∃ m, t2.length = m := ⟨_, rfl⟩
  rw [hm1] at b1 b3 ⊢
  rw [hm2] at b2 b4 ⊢
  clear hm1 hm2
  have H1 := Lib.hid (fun W (U : Below w.heap.size w W) => same_true A1 A3 m1 k1 m1 k3 t1 W (b1.below U) (b3.below U))
  have H2 := Lib.hid (fun W (U : Below w.heap.size w W) => same_true A2 A4 m2 k2 m2 k4 t2 W (b2.below U) (b4.below U))
  have dn : ((rn : Int) == (rn : Int)) = true := by simp
  have U0 := ((Below.refl _ w).alloc (Nat.le_refl _) (.cells #[.int .i64 (rn : Int), .slice A1 m1 k1, .slice A2 m2 k2] 40)).alloc (by simp) (.cells #[.int .i64 (rn : Int), .slice A3 m1 k3, .slice A4 m2 k4] 40)
  clear b1 b2 b3 b4
  go_enter Try.func15, Try.ntmps15
  go_wp2_with (fail)
  refine (H1.out _ U0).mono ?_
  rintro e w1 ⟨rfl, T1⟩
  obtain ⟨r0, r1⟩ := two_rows T1
  obtain ⟨a0, a1, a2, -, -, -⟩ := row3 r0
  obtain ⟨b0, b1, b2, -, -, -⟩ := row3 r1
  have U1 := nxt U0 T1
  clear r0 r1
  go_wp2_with (fail)
  refine (H2.out _ U1).mono ?_
  rintro e w2 ⟨rfl, T2⟩
  have U2 := nxt U1 T2
  go_wp2
  go_ret
  exact ⟨rfl, U2⟩
set_option maxHeartbeats 8000000 in
theorem rfspoil_ok0 (g : Nat) (s : Fs) (i : Nat) (AE : Option Addr) (nE cE : Nat) (es : List Ed) (w : World) (X : Nat → Prop) (h : RF g s w X) (hE : Eds w AE nE cE es) (hnE : nE ≤ 500000) (hi : i < s.l0.length) :
    Calls Try.prog 17 #[.pointer (some ⟨g, 0, none⟩), .int .i64 0, .int .i64 (i : Int), .slice AE nE cE] w fun e w' => e = .returned (.int .i64 0) ∧ ∃ X', RF g { s with l0 := spoilL s.l0 i es } w' X' ∧ Turns X X' w w' := by
  have hf : fsAt s 0 (i : Int) = (s.l0[i], 0) := by
    show flAt s.l0 (i : Int) = _
    unfold flAt
    rw [if_pos (by omega), Int.toNat_natCast, List.getD_eq_getElem?_getD, List.getElem?_eq_getElem hi]
    rfl
  have hsp : spoilL s.l0 i es = s.l0.set i (s.l0[i].1, edDo s.l0[i].2.1 es, s.l0[i].2.2) := by
    unfold spoilL
    rw [List.getD_eq_getElem?_getD, List.getElem?_eq_getElem hi]
    rfl
  rw [hsp]
  clear hsp
  have hfm := h.choose_spec.choose_spec.2.2.1.2.2.1.2.2 _ (List.getElem_mem hi)
  obtain ⟨v0, v1, h⟩ := h
  obtain ⟨m, hm⟩ : ∃ m, s.l0.length = m := ⟨_, rfl⟩
  obtain ⟨P', c3, hv', hk1, hk2, hrow⟩ := h.2.2.2.2.1.1.shape
  obtain ⟨bb, rfl, -, hbw, -, -⟩ := hrow (by omega)
  unfold maxLen at hk2
  rw [hm] at hv' hk1
  subst hv'
  clear hrow
  have HM := Lib.hid hm
  have HA0 := rfat_any g s (.slice (some ⟨bb, 0, none⟩) m c3) v1 0 (i : Int) w X h
  rw [hf] at HA0
  have HA := Lib.hid HA0
  have HR0 := Lib.hid h
  have hXlt := h.2.1
  have HX0 := Lib.hid hXlt
  have HE := Lib.hid (fun W (U : Below w.heap.size w W) => hE.below U)
  have him : i < m := by omega
  have HOK := Lib.hid h.2.2.1
  clear h hXlt hf HA0 hm hE
  obtain ⟨fr, hfr⟩ : ∃ fr, s.l0[i] = fr := ⟨_, rfl⟩
  rw [hfr] at HA hfm ⊢
  clear hfr
  obtain ⟨rn, t1, t2⟩ := fr
  simp only at hfm
  go_enter Try.func17, Try.ntmps17
  go_wp2_with (fail)
  refine HA.out.mono ?_
  rintro e w1 ⟨u1, u2, rfl, x1, x2, T1⟩
  obtain ⟨A1, k1, rfl, _, _⟩ := id x1
  obtain ⟨A2, k2, rfl, _, _⟩ := id x2
  simp only at x1 x2
  obtain ⟨m1, hm1⟩ : ∃ m, t1.length = m := ⟨_, rfl⟩
  obtain ⟨m2, hm2⟩ : ∃ m, t2.length = m := ⟨_, rfl⟩
  rw [hm1] at x1 ⊢
  rw [hm2] at x2 ⊢
  have TA := T1.alloc T1.size (.cells #[.int .i64 (rn : Int), .slice A1 m1 k1, .slice A2 m2 k2] 40)
  have ba := (Below.refl _ w1).alloc (Nat.le_refl _) (.cells #[.int .i64 (rn : Int), .slice A1 m1 k1, .slice A2 m2 k2] 40)
  have BX : Hid (Bys (w1.alloc (.cells #[.int .i64 (rn : Int), .slice A1 m1 k1, .slice A2 m2 k2] 40)) A1 m1 k1 t1) := by
    obtain ⟨A9, d9, h1, h2, h3⟩ := x1.below ba
    injection h1 with e1 e2 e3
    subst e1 e3
    rw [hm1] at h2
    exact h2
  have HX2 := Lib.hid (x2.below ba)
  have B2 := Lib.hid (heap_alloc_new w1 (.cells #[.int .i64 (rn : Int), .slice A1 m1 k1, .slice A2 m2 k2] 40))
  have HTA := Lib.hid TA
  have hw1 := T1.size
  have hxs : (w1.alloc (.cells #[.int .i64 (rn : Int), .slice A1 m1 k1, .slice A2 m2 k2] 40)).heap.size = w1.heap.size + 1 := by simp
  have hm1b : m1 ≤ 512 := by omega
  clear x1 x2 hm1 hm2 T1 TA ba
  go_wp2_with (fail)
  generalize hwc : w1.alloc (.cells #[.int .i64 (rn : Int), .slice A1 m1 k1, .slice A2 m2 k2] 40) = wc at *
  clear hwc
  refine (frdo_any A1 m1 k1 t1 AE nE cE es wc BX.out (HE.out _ HTA.out) (by omega) hnE).mono ?_
  rintro e w2 ⟨A3, n3, k3, rfl, b3, av3, T2⟩
  have hn3 := b3.len
  have BY : Hid (Tx w2 (· < wc.heap.size) (edDo t1 es) (.slice A3 n3 k3)) := by
    subst hn3
    exact ⟨A3, k3, rfl, b3, av3⟩
  have HB := Lib.hid T2
  have hz2 := T2.size
  have g1 := (T2.block _ (lt_row B2.out)).trans B2.out
  obtain ⟨c6, c7, c8, f6, f7, f8⟩ := row3 g1
  have g3 := heap_setCell_same w2 w1.heap.size 1 _ _ (.slice A3 n3 k3) g1
  have og := (Off.refl (· = w1.heap.size) w2).setCell (p := ⟨w1.heap.size, 1, none⟩) (.inl rfl) (.slice A3 n3 k3)
  have hR2 := (RFv.holds g s (.slice (some ⟨bb, 0, none⟩) m c3) v1).below HR0.out (HTA.out.trans (T2.mono (by omega)))
  have hR3 := (RFv.holds g s (.slice (some ⟨bb, 0, none⟩) m c3) v1).off hR2 og (fun k hk e => by have := HX0.out k hk; omega)
  have HR3 := Lib.hid hR3
  obtain ⟨ca, cb, cc, cd, ce, cf, cfz, cgw⟩ := hR3.cells
  obtain ⟨P5, c5, hv5, -, -, hrow⟩ := hR3.2.2.2.2.1.1.shape
  have hiL : i < s.l0.length := by rw [HM.out]; exact him
  injection hv5 with e1 e2 e3
  obtain ⟨b5, e4, -, hb5, hbf, hel⟩ := hrow (by omega)
  rw [e4] at e1
  injection e1 with e1
  injection e1 with e1
  subst e1
  obtain ⟨u5, u6, q0, q1, q2, -, -⟩ := hel i hiL
  have f9 := hbf (i * 3)
  have f10 := hbf (i * 3 + 1)
  have f11 := hbf (i * 3 + 2)
  obtain ⟨c9, c10, c11, -, -, -⟩ := row3 (by simpa using g3)
  have hTX : Tx (w2.setCell ⟨w1.heap.size, 1, none⟩ (.slice A3 n3 k3)) (· < w.heap.size) (edDo t1 es) (.slice A3 n3 k3) := (BY.out.imp (Y' := fun k => k < w.heap.size ∨ k = w1.heap.size) (fun k _ hk => by rcases hk with h | h <;> omega)).off og (fun k _ hk => .inr hk) |>.imp (fun k _ hk => .inl hk)
  have hTY : Tx (w2.setCell ⟨w1.heap.size, 1, none⟩ (.slice A3 n3 k3)) (Yn X g (.slice (some ⟨bb, 0, none⟩) m c3) v1) t2 (.slice A2 m2 k2) := (HX2.out.below T2).off og (fun k _ hk => .inl (fun h => by have := HX0.out k h; omega))
  have HTXY := Lib.hid (And.intro hTX hTY)
  have HOG := Lib.hid og
  have hjm : (i : Int) < (m : Int) := by omega
  clear hTX hTY og g1 g3 hR2 hR3 hrow hel ca cb ce cd cf cfz hbf b3 av3 BX T2 e2 e3 e4
  go_wp2_with (fail)
  generalize w2.setCell ⟨w1.heap.size, 1, none⟩ (.slice A3 n3 k3) = w3 at *
  have okf : FsOk { s with l0 := s.l0.set i (rn, edDo t1 es, t2) } := by
    obtain ⟨o1, o2, o3, o4⟩ := HOK.out
    have hmem : ∀ f ∈ s.l0.set i (rn, edDo t1 es, t2), f.1 ≤ s.s0 ∧ f.2.1.length ≤ 512 ∧ f.2.2.length ≤ 512 := fun f hf => by
      rcases List.mem_or_eq_of_mem_set hf with h1 | h1
      · exact o3.2.2 f h1
      · subst h1
        exact ⟨hfm.1, edDo_le es t1 hfm.2.1, hfm.2.2⟩
    exact ⟨o1, o2, ⟨by rw [List.length_set]; exact o3.1, o3.2.1, hmem⟩, o4⟩
  have HFIN : Hid (∀ W, W = (((w3.setCell ⟨bb, i * 3, none⟩ (.int .i64 (rn : Int))).setCell ⟨bb, i * 3 + 1, none⟩ (.slice A3 n3 k3)).setCell ⟨bb, i * 3 + 2, none⟩ (.slice A2 m2 k2)) → ∃ X', RFv g { s with l0 := s.l0.set i (rn, edDo t1 es, t2) } (.slice (some ⟨bb, 0, none⟩) m c3) v1 W X' ∧ Turns X X' w W) := fun W hW => by
    have r3 := HR3.out
    have hbo : (Value.slice (some ⟨bb, 0, none⟩) m c3).ownBlock = some bb := rfl
    have hbX := r3.2.2.2.2.1.2 bb hbo
    have hbE := r3.2.2.2.2.2.2
    have ob : Off (· = bb) w3 W := by
      subst hW
      exact (((Off.refl (· = bb) w3).setCell (p := ⟨bb, i * 3, none⟩) (.inl rfl) _).setCell (p := ⟨bb, i * 3 + 1, none⟩) (.inl rfl) _).setCell (p := ⟨bb, i * 3 + 2, none⟩) (.inl rfl) _
    have O3 : Off X w w3 := (Off.of_below (HTA.out.trans (HB.out.mono (by omega)))).thru HOG.out (fun k hk e => by omega)
    have OW : Off X w W := O3.thru ob (fun k _ e => by rw [e]; exact hbX.1)
    have own0 : OwnF w3 0 (Zn w X g v1) (.slice (some ⟨bb, 0, none⟩) m c3) s.l0 := r3.2.2.2.2.1.1.imp (fun k _ hz => hz.imp (fun hz hx => hz (.inl hx)) id)
    have hbw' : bb < w.heap.size := HX0.out bb hbX.1
    have hzx : ∀ k, (Zn w X g v1 k ∨ k = bb) → k < w.heap.size := fun k hk => by
      rcases hk with (hk | hk | hk) | hk
      · exact Nat.lt_of_not_le (fun h => hk (.inr h))
      · rw [hk]; exact HX0.out g r3.1
      · exact HX0.out k (hbE k hk).1
      · omega
    have hzy : ∀ k, (Zn w X g v1 k ∨ k = bb) → Yn X g (.slice (some ⟨bb, 0, none⟩) m c3) v1 k := fun k hk => by
      rcases hk with (hk | hk | hk) | hk
      · exact .inl (fun h => hk (.inl h))
      · exact .inr (.inl hk)
      · exact .inr (.inr (.inr hk))
      · exact .inr (.inr (.inl (by rw [hk]; rfl)))
    have st := own0.stored HM.out (by rw [HM.out]; exact him) (rn, edDo t1 es, t2) (.slice A3 n3 k3) (.slice A2 m2 k2) (HTXY.out.1.imp (fun k _ hk => hzx k hk)) (HTXY.out.2.imp (fun k _ hk => hzy k hk))
    rw [← hW] at st
    have oth : OwnF W 0 (Zn w X g (.slice (some ⟨bb, 0, none⟩) m c3)) v1 s.l1 := (r3.2.2.2.2.2.1.off ob (fun k _ e => .inr (.inr (by rw [e]; rfl))) (fun k hk e => (hbE k hk).2.2 (by rw [e]; rfl))).imp (fun k _ hz => hz.imp (fun hz hx => hz (.inl hx)) id)
    have hgW : W.heap[g]? = some (.cells (fcells { s with l0 := s.l0.set i (rn, edDo t1 es, t2) } (.slice (some ⟨bb, 0, none⟩) m c3) v1) 67 (0, 0)) := (ob.block g (r3.2.1 g r3.1) (fun e => hbX.2.1 e.symm)).trans r3.2.2.2.1
    exact RFv.upd r3.1 HX0.out OW okf hgW st oth (fun j hj => ⟨.inl (r3.2.2.2.2.1.2 j hj).1, (r3.2.2.2.2.1.2 j hj).2⟩) (fun j hj => ⟨.inl (r3.2.2.2.2.2.2 j hj).1, (r3.2.2.2.2.2.2 j hj).2⟩)
  clear okf HOK
  go_big_region
  go_wp2
  go_ret
  obtain ⟨X', r', t'⟩ := HFIN.out _ rfl
  exact ⟨rfl, X', ⟨_, _, (RFv.holds _ _ _ _).below r' (Below.refl _ _).drew⟩, t'.next (Below.refl _ _).drew⟩
set_option maxHeartbeats 8000000 in
theorem rfspoil_ok1 (g : Nat) (s : Fs) (i : Nat) (AE : Option Addr) (nE cE : Nat) (es : List Ed) (w : World) (X : Nat → Prop) (h : RF g s w X) (hE : Eds w AE nE cE es) (hnE : nE ≤ 500000) (hi : i < s.l1.length) :
    Calls Try.prog 17 #[.pointer (some ⟨g, 0, none⟩), .int .i64 1, .int .i64 (i : Int), .slice AE nE cE] w fun e w' => e = .returned (.int .i64 0) ∧ ∃ X', RF g { s with l1 := spoilL s.l1 i es } w' X' ∧ Turns X X' w w' := by
  have hf : fsAt s 1 (i : Int) = (s.l1[i], 0) := by
    show flAt s.l1 (i : Int) = _
    unfold flAt
    rw [if_pos (by omega), Int.toNat_natCast, List.getD_eq_getElem?_getD, List.getElem?_eq_getElem hi]
    rfl
  have hsp : spoilL s.l1 i es = s.l1.set i (s.l1[i].1, edDo s.l1[i].2.1 es, s.l1[i].2.2) := by
    unfold spoilL
    rw [List.getD_eq_getElem?_getD, List.getElem?_eq_getElem hi]
    rfl
  rw [hsp]
  clear hsp
  have hfm := h.choose_spec.choose_spec.2.2.1.2.2.2.2.2 _ (List.getElem_mem hi)
  obtain ⟨v0, v1, h⟩ := h
  obtain ⟨m, hm⟩ : ∃ m, s.l1.length = m := ⟨_, rfl⟩
  obtain ⟨P', c3, hv', hk1, hk2, hrow⟩ := h.2.2.2.2.2.1.shape
  obtain ⟨bb, rfl, -, hbw, -, -⟩ := hrow (by omega)
  unfold maxLen at hk2
  rw [hm] at hv' hk1
  subst hv'
  clear hrow
  have HM := Lib.hid hm
  have HA0 := rfat_any g s v0 (.slice (some ⟨bb, 0, none⟩) m c3) 1 (i : Int) w X h
  rw [hf] at HA0
  have HA := Lib.hid HA0
  have HR0 := Lib.hid h
  have hXlt := h.2.1
  have HX0 := Lib.hid hXlt
  have HE := Lib.hid (fun W (U : Below w.heap.size w W) => hE.below U)
  have him : i < m := by omega
  have HOK := Lib.hid h.2.2.1
  clear h hXlt hf HA0 hm hE
  obtain ⟨fr, hfr⟩ : ∃ fr, s.l1[i] = fr := ⟨_, rfl⟩
  rw [hfr] at HA hfm ⊢
  clear hfr
  obtain ⟨rn, t1, t2⟩ := fr
  simp only at hfm
  go_enter Try.func17, Try.ntmps17
  go_wp2_with (fail)
  refine HA.out.mono ?_
  rintro e w1 ⟨u1, u2, rfl, x1, x2, T1⟩
  obtain ⟨A1, k1, rfl, _, _⟩ := id x1
  obtain ⟨A2, k2, rfl, _, _⟩ := id x2
  simp only at x1 x2
  obtain ⟨m1, hm1⟩ : ∃ m, t1.length = m := ⟨_, rfl⟩
  obtain ⟨m2, hm2⟩ : ∃ m, t2.length = m := ⟨_, rfl⟩
  rw [hm1] at x1 ⊢
  rw [hm2] at x2 ⊢
  have TA := T1.alloc T1.size (.cells #[.int .i64 (rn : Int), .slice A1 m1 k1, .slice A2 m2 k2] 40)
  have ba := (Below.refl _ w1).alloc (Nat.le_refl _) (.cells #[.int .i64 (rn : Int), .slice A1 m1 k1, .slice A2 m2 k2] 40)
  have BX : Hid (Bys (w1.alloc (.cells #[.int .i64 (rn : Int), .slice A1 m1 k1, .slice A2 m2 k2] 40)) A1 m1 k1 t1) := by
    obtain ⟨A9, d9, h1, h2, h3⟩ := x1.below ba
    injection h1 with e1 e2 e3
    subst e1 e3
    rw [hm1] at h2
    exact h2
  have HX2 := Lib.hid (x2.below ba)
  have B2 := Lib.hid (heap_alloc_new w1 (.cells #[.int .i64 (rn : Int), .slice A1 m1 k1, .slice A2 m2 k2] 40))
  have HTA := Lib.hid TA
  have hw1 := T1.size
  have hxs : (w1.alloc (.cells #[.int .i64 (rn : Int), .slice A1 m1 k1, .slice A2 m2 k2] 40)).heap.size = w1.heap.size + 1 := by simp
  have hm1b : m1 ≤ 512 := by omega
  clear x1 x2 hm1 hm2 T1 TA ba
  go_wp2_with (fail)
  generalize hwc : w1.alloc (.cells #[.int .i64 (rn : Int), .slice A1 m1 k1, .slice A2 m2 k2] 40) = wc at *
  clear hwc
  refine (frdo_any A1 m1 k1 t1 AE nE cE es wc BX.out (HE.out _ HTA.out) (by omega) hnE).mono ?_
  rintro e w2 ⟨A3, n3, k3, rfl, b3, av3, T2⟩
  have hn3 := b3.len
  have BY : Hid (Tx w2 (· < wc.heap.size) (edDo t1 es) (.slice A3 n3 k3)) := by
    subst hn3
    exact ⟨A3, k3, rfl, b3, av3⟩
  have HB := Lib.hid T2
  have hz2 := T2.size
  have g1 := (T2.block _ (lt_row B2.out)).trans B2.out
  obtain ⟨c6, c7, c8, f6, f7, f8⟩ := row3 g1
  have g3 := heap_setCell_same w2 w1.heap.size 1 _ _ (.slice A3 n3 k3) g1
  have og := (Off.refl (· = w1.heap.size) w2).setCell (p := ⟨w1.heap.size, 1, none⟩) (.inl rfl) (.slice A3 n3 k3)
  have hR2 := (RFv.holds g s v0 (.slice (some ⟨bb, 0, none⟩) m c3)).below HR0.out (HTA.out.trans (T2.mono (by omega)))
  have hR3 := (RFv.holds g s v0 (.slice (some ⟨bb, 0, none⟩) m c3)).off hR2 og (fun k hk e => by have := HX0.out k hk; omega)
  have HR3 := Lib.hid hR3
  obtain ⟨ca, cb, cc, cd, ce, cf, cfz, cgw⟩ := hR3.cells
  obtain ⟨P5, c5, hv5, -, -, hrow⟩ := hR3.2.2.2.2.2.1.shape
  have hiL : i < s.l1.length := by rw [HM.out]; exact him
  injection hv5 with e1 e2 e3
  obtain ⟨b5, e4, -, hb5, hbf, hel⟩ := hrow (by omega)
  rw [e4] at e1
  injection e1 with e1
  injection e1 with e1
  subst e1
  obtain ⟨u5, u6, q0, q1, q2, -, -⟩ := hel i hiL
  have f9 := hbf (i * 3)
  have f10 := hbf (i * 3 + 1)
  have f11 := hbf (i * 3 + 2)
  obtain ⟨c9, c10, c11, -, -, -⟩ := row3 (by simpa using g3)
  have hTX : Tx (w2.setCell ⟨w1.heap.size, 1, none⟩ (.slice A3 n3 k3)) (· < w.heap.size) (edDo t1 es) (.slice A3 n3 k3) := (BY.out.imp (Y' := fun k => k < w.heap.size ∨ k = w1.heap.size) (fun k _ hk => by rcases hk with h | h <;> omega)).off og (fun k _ hk => .inr hk) |>.imp (fun k _ hk => .inl hk)
  have hTY : Tx (w2.setCell ⟨w1.heap.size, 1, none⟩ (.slice A3 n3 k3)) (Yn X g v0 (.slice (some ⟨bb, 0, none⟩) m c3)) t2 (.slice A2 m2 k2) := (HX2.out.below T2).off og (fun k _ hk => .inl (fun h => by have := HX0.out k h; omega))
  have HTXY := Lib.hid (And.intro hTX hTY)
  have HOG := Lib.hid og
  have hjm : (i : Int) < (m : Int) := by omega
  clear hTX hTY og g1 g3 hR2 hR3 hrow hel ca cb cc cd cf cfz hbf b3 av3 BX T2 e2 e3 e4
  go_wp2_with (fail)
  generalize w2.setCell ⟨w1.heap.size, 1, none⟩ (.slice A3 n3 k3) = w3 at *
  have okf : FsOk { s with l1 := s.l1.set i (rn, edDo t1 es, t2) } := by
    obtain ⟨o1, o2, o3, o4⟩ := HOK.out
    have hmem : ∀ f ∈ s.l1.set i (rn, edDo t1 es, t2), f.1 ≤ s.s1 ∧ f.2.1.length ≤ 512 ∧ f.2.2.length ≤ 512 := fun f hf => by
      rcases List.mem_or_eq_of_mem_set hf with h1 | h1
      · exact o4.2.2 f h1
      · subst h1
        exact ⟨hfm.1, edDo_le es t1 hfm.2.1, hfm.2.2⟩
    exact ⟨o1, o2, o3, ⟨by rw [List.length_set]; exact o4.1, o4.2.1, hmem⟩⟩
  have HFIN : Hid (∀ W, W = (((w3.setCell ⟨bb, i * 3, none⟩ (.int .i64 (rn : Int))).setCell ⟨bb, i * 3 + 1, none⟩ (.slice A3 n3 k3)).setCell ⟨bb, i * 3 + 2, none⟩ (.slice A2 m2 k2)) → ∃ X', RFv g { s with l1 := s.l1.set i (rn, edDo t1 es, t2) } v0 (.slice (some ⟨bb, 0, none⟩) m c3) W X' ∧ Turns X X' w W) := fun W hW => by
    have r3 := HR3.out
    have hbo : (Value.slice (some ⟨bb, 0, none⟩) m c3).ownBlock = some bb := rfl
    have hbX := r3.2.2.2.2.2.2 bb hbo
    have hbE := r3.2.2.2.2.1.2
    have ob : Off (· = bb) w3 W := by
      subst hW
      exact (((Off.refl (· = bb) w3).setCell (p := ⟨bb, i * 3, none⟩) (.inl rfl) _).setCell (p := ⟨bb, i * 3 + 1, none⟩) (.inl rfl) _).setCell (p := ⟨bb, i * 3 + 2, none⟩) (.inl rfl) _
    have O3 : Off X w w3 := (Off.of_below (HTA.out.trans (HB.out.mono (by omega)))).thru HOG.out (fun k hk e => by omega)
    have OW : Off X w W := O3.thru ob (fun k _ e => by rw [e]; exact hbX.1)
    have own0 : OwnF w3 0 (Zn w X g v0) (.slice (some ⟨bb, 0, none⟩) m c3) s.l1 := r3.2.2.2.2.2.1.imp (fun k _ hz => hz.imp (fun hz hx => hz (.inl hx)) id)
    have hbw' : bb < w.heap.size := HX0.out bb hbX.1
    have hzx : ∀ k, (Zn w X g v0 k ∨ k = bb) → k < w.heap.size := fun k hk => by
      rcases hk with (hk | hk | hk) | hk
      · exact Nat.lt_of_not_le (fun h => hk (.inr h))
      · rw [hk]; exact HX0.out g r3.1
      · exact HX0.out k (hbE k hk).1
      · omega
    have hzy : ∀ k, (Zn w X g v0 k ∨ k = bb) → Yn X g v0 (.slice (some ⟨bb, 0, none⟩) m c3) k := fun k hk => by
      rcases hk with (hk | hk | hk) | hk
      · exact .inl (fun h => hk (.inl h))
      · exact .inr (.inl hk)
      · exact .inr (.inr (.inl hk))
      · exact .inr (.inr (.inr (by rw [hk]; rfl)))
    have st := own0.stored HM.out (by rw [HM.out]; exact him) (rn, edDo t1 es, t2) (.slice A3 n3 k3) (.slice A2 m2 k2) (HTXY.out.1.imp (fun k _ hk => hzx k hk)) (HTXY.out.2.imp (fun k _ hk => hzy k hk))
    rw [← hW] at st
    have oth : OwnF W 0 (Zn w X g (.slice (some ⟨bb, 0, none⟩) m c3)) v0 s.l0 := (r3.2.2.2.2.1.1.off ob (fun k _ e => .inr (.inr (by rw [e]; rfl))) (fun k hk e => (hbE k hk).2.2 (by rw [e]; rfl))).imp (fun k _ hz => hz.imp (fun hz hx => hz (.inl hx)) id)
    have hgW : W.heap[g]? = some (.cells (fcells { s with l1 := s.l1.set i (rn, edDo t1 es, t2) } v0 (.slice (some ⟨bb, 0, none⟩) m c3)) 67 (0, 0)) := (ob.block g (r3.2.1 g r3.1) (fun e => hbX.2.1 e.symm)).trans r3.2.2.2.1
    exact RFv.upd r3.1 HX0.out OW okf hgW oth st (fun j hj => ⟨.inl (r3.2.2.2.2.1.2 j hj).1, (r3.2.2.2.2.1.2 j hj).2⟩) (fun j hj => ⟨.inl (r3.2.2.2.2.2.2 j hj).1, (r3.2.2.2.2.2.2 j hj).2⟩)
  clear okf HOK
  go_big_region
  go_wp2
  go_ret
  obtain ⟨X', r', t'⟩ := HFIN.out _ rfl
  exact ⟨rfl, X', ⟨_, _, (RFv.holds _ _ _ _).below r' (Below.refl _ _).drew⟩, t'.next (Below.refl _ _).drew⟩
theorem rfspoil_any (g : Nat) (s : Fs) (d i : Int) (AE : Option Addr) (nE cE : Nat) (es : List Ed) (w : World) (X : Nat → Prop) (h : RF g s w X) (hE : Eds w AE nE cE es) (hnE : nE ≤ 500000) :
    Calls Try.prog 17 #[.pointer (some ⟨g, 0, none⟩), .int .i64 d, .int .i64 i, .slice AE nE cE] w fun e w' => e = .returned (.int .i64 (((fsAt s d i).2 : Nat) : Int)) ∧ ∃ X', RF g (fsSpoil s d i es) w' X' ∧ Turns X X' w w' := by
  by_cases hno : (fsAt s d i).2 = 0
  · have hE2 : ∀ s' : Fs, (if d = 0 then { s with l0 := spoilL s.l0 i.toNat es } else { s with l1 := spoilL s.l1 i.toNat es }) = s' → fsSpoil s d i es = s' := fun s' he => by unfold fsSpoil; rw [if_pos hno]; exact he
    rcases fsAt_ok hno with ⟨rfl, j, rfl, hj, he⟩ | ⟨rfl, j, rfl, hj, he⟩
    · rw [he, hE2 { s with l0 := spoilL s.l0 j es } rfl]
      exact rfspoil_ok0 g s j AE nE cE es w X h hE hnE hj
    · rw [he, hE2 { s with l1 := spoilL s.l1 j es } rfl]
      exact rfspoil_ok1 g s j AE nE cE es w X h hE hnE hj
  · exact rfspoil_no g s d i AE nE cE es w X h hno
end Go.Proofs.Ytgppoapdpgblmaa
