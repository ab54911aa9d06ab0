/- What kedgeref16's Take answers. -/
import Derived.Test.YtgppoapdpgblmaaRfl2
namespace Go.Proofs.Ytgppoapdpgblmaa
open Go.RowKit
set_option maxRecDepth 20000

def fsTake (s : Fs) (d i : Int) : Fs := if (fsAt s d i).2 = 0 then (if d = 0 then { s with l0 := s.l0.eraseIdx i.toNat } else { s with l1 := s.l1.eraseIdx i.toNat }) else s
/-- A call's end that tells a frame of those of X, and turns a flight. -/
def GivesTk (g : Nat) (s' : Fs) (X : Nat → Prop) (w : World) (r : Frm × Nat) (e : Ending) (w' : World) : Prop := ∃ u1 u2, e = .returned (.tuple #[.agg #[.int .i64 (r.1.1 : Int), u1, u2], .int .i64 (r.2 : Int)]) ∧ Tx w' (fun k => ¬ X k) r.1.2.1 u1 ∧ Tx w' (fun k => ¬ X k) r.1.2.2 u2 ∧ ∃ X', RF g s' w' X' ∧ Turns X X' w w'
theorem erase_take (l : List Frm) (i j : Nat) (h : j < l.length) : (l.take (j + 1)).eraseIdx i = if j = i then (l.take j).eraseIdx i else (l.take j).eraseIdx i ++ [l[j]] := by
  have hlen : (l.take j).length = j := by simp; omega
  rw [List.take_succ_eq_append_getElem h]
  by_cases hij : j = i
  · subst hij
    rw [if_pos rfl, List.eraseIdx_append_of_length_le (by omega), hlen, Nat.sub_self, List.eraseIdx_of_length_le (l := l.take j) (by omega)]
    simp
  · rw [if_neg hij]
    by_cases hlt : i < j
    · rw [List.eraseIdx_append_of_lt_length (by omega)]
    · rw [List.eraseIdx_append_of_length_le (by omega), hlen, List.eraseIdx_of_length_le (l := [l[j]]) (by simp; omega), List.eraseIdx_of_length_le (l := l.take j) (by omega)]
theorem erase_mem {l : List Frm} {i : Nat} {f : Frm} (h : f ∈ l.eraseIdx i) : f ∈ l := List.mem_of_mem_eraseIdx h
theorem erase_le (l : List Frm) (i : Nat) : (l.eraseIdx i).length ≤ l.length := by rw [List.length_eraseIdx]; split <;> omega
theorem fsAt_ok {s : Fs} {d i : Int} (h : (fsAt s d i).2 = 0) : (d = 0 ∧ ∃ j : Nat, i = (j : Int) ∧ ∃ h : j < s.l0.length, fsAt s d i = (s.l0[j], 0)) ∨ (d = 1 ∧ ∃ j : Nat, i = (j : Int) ∧ ∃ h : j < s.l1.length, fsAt s d i = (s.l1[j], 0)) := by
  have hf : ∀ l : List Frm, (flAt l i).2 = 0 → ∃ j : Nat, i = (j : Int) ∧ ∃ h : j < l.length, flAt l i = (l[j], 0) := fun l hl => by
    unfold flAt at hl ⊢
    by_cases hc : 0 ≤ i ∧ i < l.length
    · obtain ⟨j, rfl⟩ := Int.eq_ofNat_of_zero_le hc.1
      have hj : j < l.length := by omega
      refine ⟨j, rfl, hj, ?_⟩
      rw [if_pos hc, Int.toNat_natCast, List.getD_eq_getElem?_getD, List.getElem?_eq_getElem hj]
      rfl
    · rw [if_neg hc] at hl; cases hl
  unfold fsAt at h ⊢
  by_cases h0 : d = 0
  · rw [if_pos h0] at h ⊢
    exact .inl ⟨h0, hf _ h⟩
  · rw [if_neg h0] at h ⊢
    by_cases h1 : d = 1
    · rw [if_pos h1] at h ⊢
      exact .inr ⟨h1, hf _ h⟩
    · rw [if_neg h1] at h; cases h
theorem Yn.x {X : Nat → Prop} {g : Nat} {v0 v1 : Value} (k : Nat) (hk : ¬ X k) : Yn X g v0 v1 k := .inl hk
set_option maxHeartbeats 4000000 in
theorem rftake_no (g : Nat) (s : Fs) (d i : Int) (w : World) (X : Nat → Prop) (h : RF g s w X) (hno : (fsAt s d i).2 ≠ 0) :
    Calls Try.prog 14 #[.pointer (some ⟨g, 0, none⟩), .int .i64 d, .int .i64 i] w (GivesTk g (fsTake s d i) X w (fsAt s d i)) := by
  have HS : Hid (fsTake s d i = s) := by show _ = _; unfold fsTake; rw [if_neg hno]
  have HW := Lib.hid (fun W (U : Below w.heap.size w W) => (RF.holds g s).below h U)
  obtain ⟨v0, v1, h⟩ := h
  have U0 := (Below.refl _ w).alloc (Nat.le_refl _) (.cells #[.int .i64 0, .slice none 0 0, .slice none 0 0] 40)
  have HA := Lib.hid (rfat_any g s v0 v1 d i _ X ((RFv.holds g s v0 v1).below h U0))
  have hde : (((fsAt s d i).2 : Int) == 0) = false := by simp; omega
  have hXR : Hid (∀ k, k = w.heap.size → ¬ X k) := fun k hk hx => by have := h.2.1 k hx; omega
  clear h hno
  generalize fsAt s d i = r at *
  obtain ⟨⟨rn, t1, t2⟩, re⟩ := r
  simp only at hde
  go_enter Try.func14, Try.ntmps14
  go_wp2_with (fail)
  refine HA.out.mono ?_
  rintro e w1 ⟨u1, u2, rfl, x1, x2, T1⟩
  obtain ⟨A1, k1, rfl, _, _⟩ := id x1
  obtain ⟨A2, k2, rfl, _, _⟩ := id x2
  have b0 := one_row T1
  have T1w := nxt U0 T1
  simp only at x1 x2
  obtain ⟨m1, hm1⟩ : ∃ m, t1.length = m := ⟨_, rfl⟩
  obtain ⟨m2, hm2⟩ : ∃ m, t2.length = m := ⟨_, rfl⟩
  rw [hm1] at x1 ⊢
  rw [hm2] at x2 ⊢
  have HX := Lib.hid (And.intro (x1.imp (fun k _ hk => Yn.x (g := g) (v0 := v0) (v1 := v1) k hk)) (x2.imp (fun k _ hk => Yn.x (g := g) (v0 := v0) (v1 := v1) k hk)))
  obtain ⟨c3, c4, c5, f3, f4, f5⟩ := row3 (hp_old b0 (.cells #[.int .i64 (rn : Int), .slice A1 m1 k1, .slice A2 m2 k2] 40))
  have B0 := Lib.hid (hp_old b0 (.cells #[.int .i64 (rn : Int), .slice A1 m1 k1, .slice A2 m2 k2] 40))
  have hw1 := T1w.size
  have TA := T1w.alloc hw1 (.cells #[.int .i64 (rn : Int), .slice A1 m1 k1, .slice A2 m2 k2] 40)
  clear x1 x2 b0
  go_wp2_with (fail)
  (try simp only [Exit.inBlock, Exit.then])
  refine bodyPost_ret (v := .tuple #[.agg #[.int .i64 (rn : Int), .slice A1 m1 k1, .slice A2 m2 k2], .int .i64 (re : Int)]) (res_cell_tmp rfl _ _ w.heap.size 40 #[.int .i64 (rn : Int), .slice A1 m1 k1, .slice A2 m2 k2] (0, 0) _ _ rfl rfl (stored3 B0.out _ _ _) Try.underlying40 rfl (by kernel_rfl)) rfl ?_
  have TB := ((TA.setCell (p := ⟨w.heap.size, 0, none⟩) (Nat.le_refl _) (.int .i64 (rn : Int))).setCell (p := ⟨w.heap.size, 1, none⟩) (Nat.le_refl _) (.slice A1 m1 k1)).setCell (p := ⟨w.heap.size, 2, none⟩) (Nat.le_refl _) (.slice A2 m2 k2)
  have o3 := off3 (w1.alloc (.cells #[.int .i64 (rn : Int), .slice A1 m1 k1, .slice A2 m2 k2] 40)) w.heap.size (.int .i64 (rn : Int)) (.slice A1 m1 k1) (.slice A2 m2 k2)
  have ba := (Below.refl _ w1).alloc (Nat.le_refl _) (.cells #[.int .i64 (rn : Int), .slice A1 m1 k1, .slice A2 m2 k2] 40)
  refine ⟨_, _, rfl, ?_, ?_, X, by rw [HS.out]; exact HW.out _ TB, Turns.of_below TB⟩
  · exact (HX.out.1.below ba).off o3 (fun k _ hk => hXR.out k hk)
  · exact (HX.out.2.below ba).off o3 (fun k _ hk => hXR.out k hk)
set_option maxHeartbeats 8000000 in
theorem rftake_ok0 (g : Nat) (s : Fs) (i : Nat) (w : World) (X : Nat → Prop) (h : RF g s w X) (hi : i < s.l0.length) :
    Calls Try.prog 14 #[.pointer (some ⟨g, 0, none⟩), .int .i64 0, .int .i64 (i : Int)] w (GivesTk g { s with l0 := s.l0.eraseIdx i } X w (s.l0[i], 0)) := by
  have hf : fsAt s 0 (i : Int) = (s.l0[i], 0) := by
    show flAt s.l0 (i : Int) = _
    unfold flAt
    rw [if_pos (by omega), Int.toNat_natCast, List.getD_eq_getElem?_getD, List.getElem?_eq_getElem hi]
    rfl
  obtain ⟨v0, v1, h⟩ := h
  obtain ⟨m, hm⟩ : ∃ m, s.l0.length = m := ⟨_, rfl⟩
  have hX := h.2.1
  obtain ⟨P', c3, hv', hk1, hk2, hrow⟩ := h.2.2.2.2.1.1.shape
  obtain ⟨bb, rfl, -, hbw, -, -⟩ := hrow (by omega)
  unfold maxLen at hk2
  rw [hm] at hv' hk1
  subst hv'
  clear hrow
  have HM := Lib.hid hm
  have hme : m ≤ 4097 := by rw [← hm]; exact h.2.2.1.2.2.1.1
  have U0 := (Below.refl _ w).alloc (Nat.le_refl _) (.cells #[.int .i64 0, .slice none 0 0, .slice none 0 0] 40)
  have HA0 := rfat_any g s (.slice (some ⟨bb, 0, none⟩) m c3) v1 0 (i : Int) _ X ((RFv.holds g s _ _).below h U0)
  rw [hf] at HA0
  have HA := Lib.hid HA0
  have HR0 := Lib.hid h
  have HX0 := Lib.hid hX
  have him : i < m := by omega
  have HOK := Lib.hid h.2.2.1
  clear h hX hf HA0 hm
  obtain ⟨fr, hfr⟩ : ∃ fr, s.l0[i] = fr := ⟨_, rfl⟩
  rw [hfr] at HA ⊢
  clear hfr
  obtain ⟨rn, t1, t2⟩ := fr
  go_enter Try.func14, Try.ntmps14
  go_wp2_with (fail)
  refine HA.out.mono ?_
  rintro e w1 ⟨u1, u2, rfl, x1, x2, T1⟩
  obtain ⟨A1, k1, rfl, _, _⟩ := id x1
  obtain ⟨A2, k2, rfl, _, _⟩ := id x2
  have b0 := one_row T1
  have T1w := nxt U0 T1
  simp only at x1 x2
  obtain ⟨m1, hm1⟩ : ∃ m, t1.length = m := ⟨_, rfl⟩
  obtain ⟨m2, hm2⟩ : ∃ m, t2.length = m := ⟨_, rfl⟩
  rw [hm1] at x1 ⊢
  rw [hm2] at x2 ⊢
  have hyn : ∀ k, (¬ X k ∨ k = g) → Yn X g (.slice (some ⟨bb, 0, none⟩) m c3) v1 k := fun k hk => hk.elim .inl (fun h => .inr (.inl h))
  have HXT : Hid (Tx (w1.alloc (.cells #[.int .i64 (rn : Int), .slice A1 m1 k1, .slice A2 m2 k2] 40)) (fun k => ¬ X k ∨ k = g) t1 (.slice A1 m1 k1) ∧ Tx (w1.alloc (.cells #[.int .i64 (rn : Int), .slice A1 m1 k1, .slice A2 m2 k2] 40)) (fun k => ¬ X k ∨ k = g) t2 (.slice A2 m2 k2)) := ⟨(x1.imp (fun k _ hk => hyn k hk)).below ((Below.refl _ w1).alloc (Nat.le_refl _) _), (x2.imp (fun k _ hk => hyn k hk)).below ((Below.refl _ w1).alloc (Nat.le_refl _) _)⟩
  have B1 := Lib.hid (hp_old b0 (.cells #[.int .i64 (rn : Int), .slice A1 m1 k1, .slice A2 m2 k2] 40))
  have B2 := Lib.hid (heap_alloc_new w1 (.cells #[.int .i64 (rn : Int), .slice A1 m1 k1, .slice A2 m2 k2] 40))
  have hw1 := T1w.size
  have hw1g : w.heap.size < w1.heap.size := lt_row b0
  have TA := T1w.alloc hw1 (.cells #[.int .i64 (rn : Int), .slice A1 m1 k1, .slice A2 m2 k2] 40)
  have HR1 := Lib.hid ((RFv.holds g s _ _).below HR0.out TA)
  have HTA := Lib.hid TA
  have hxs : (w1.alloc (.cells #[.int .i64 (rn : Int), .slice A1 m1 k1, .slice A2 m2 k2] 40)).heap.size = w1.heap.size + 1 := by simp
  clear x1 x2 b0 hm1 hm2 T1 U0 TA hyn
  go_wp2_with (fail)
  generalize hwc : w1.alloc (.cells #[.int .i64 (rn : Int), .slice A1 m1 k1, .slice A2 m2 k2] 40) = wc at *
  clear hwc
  go_loopw [10, 11] (fun v k wr => ∃ j : Nat, j ≤ m ∧ k = .int .i64 (j : Int) ∧ Hid (Below wc.heap.size wc wr) ∧ Hid (OwnF wr wc.heap.size (Zn wc X g v1) v ((s.l0.take j).eraseIdx i))) (fun _ k _ => m - (intOf k).toNat)
  case atStart => exact ⟨0, Nat.zero_le _, rfl, Below.refl _ _, OwnF.nil _ _ _⟩
  case round =>
    obtain ⟨j, hj, rfl, HB, HQ⟩ := hrel
    have HR := Lib.hid ((RFv.holds g s _ _).below HR1.out HB.out)
    obtain ⟨ca, cb, cc, cd, ce, cf, cfz, cgw⟩ := HR.out.cells
    clear ca cb ce cd cf
    by_cases hlt : j < m
    · have d0 : decide ((j : Int) < (m : Int)) = true := by simp; omega
      have hjm : (j : Int) < (m : Int) := by omega
      have hjL : j < s.l0.length := by rw [HM.out]; exact hlt
      obtain ⟨P5, c5, hv5, -, -, hrow⟩ := HR.out.2.2.2.2.1.1.shape
      injection hv5 with e1 e2 e3
      obtain ⟨b5, e4, -, hb5, -, hel⟩ := hrow (by omega)
      rw [e4] at e1
      injection e1 with e1
      injection e1 with e1
      subst e1
      obtain ⟨u1, u2, q0, q1, q2, x1, x2⟩ := hel j hjL
      obtain ⟨A5, k5, rfl, _, _⟩ := id x1
      obtain ⟨A6, k6, rfl, _, _⟩ := id x2
      have hpt := erase_take s.l0 i j hjL
      have hx12 : ∀ k, (Zn wc X g v1 k ∨ wc.heap.size ≤ k) → ((¬ X k ∨ k = g ∨ v1.ownBlock = some k) ∨ k = bb) := fun k hk => by
        rcases hk with (hk | hk | hk) | hk
        · exact .inl (.inl (fun h => hk (.inl h)))
        · exact .inl (.inr (.inl hk))
        · exact .inl (.inr (.inr hk))
        · exact .inl (.inl (fun h => by have := HX0.out k h; omega))
      have HX := Lib.hid (And.intro (x1.imp (fun k _ hk => hx12 k hk)) (x2.imp (fun k _ hk => hx12 k hk)))
      generalize s.l0[j] = f at *
      obtain ⟨m5, hm5⟩ : ∃ m, f.2.1.length = m := ⟨_, rfl⟩
      obtain ⟨m6, hm6⟩ : ∃ m, f.2.2.length = m := ⟨_, rfl⟩
      rw [hm5] at q1 HX
      rw [hm6] at q2 HX
      have hpl : ((s.l0.take j).eraseIdx i).length ≤ 5000 := by have := erase_le (s.l0.take j) i; have := List.length_take_le j s.l0; omega
      clear x1 x2 hel hrow hx12 hm5 hm6 e2 e3 e4
      by_cases hij : j = i
      · have dn : ((j : Int) != (i : Int)) = false := by simp; omega
        rw [if_pos hij] at hpt
        have HPT := Lib.hid hpt
        clear hpt hij
        go_wp2_with (fail)
        go_roundw
        case rel => exact ⟨j + 1, by omega, by go_num, HB.out, by rw [HPT.out]; exact HQ.out⟩
        case measure => simp [intOf]; omega
      · have dn : ((j : Int) != (i : Int)) = true := by simp; omega
        rw [if_neg hij] at hpt
        have HPT := Lib.hid hpt
        clear hpt hij
        generalize (s.l0.take j).eraseIdx i = kp at *
        have hz0 := HB.out.size
        have BW : Hid (∀ o, Below wr.heap.size wr (wr.alloc o)) := fun o => ((Below.refl _ wr).alloc (Nat.le_refl _) o)
        go_wp2_with (first | (at_builtin; (with_reducible refine app_f _ rfl (.tmp 36) (.tmp 47) rfl wc.heap.size (Zn wc X g v1) _ kp rfl ?_ (fun k => Zn wc X g v1 k ∨ wc.heap.size ≤ k) _ f (.slice A5 m5 k5) (.slice A6 m6 k6) rfl ?_ ?_ ?_ ?_ ?_ ?_ ?_ ?_); (exact HQ.out.below (BW.out _)); (exact heap_alloc_new wr _); (exact HX.out.1.below (BW.out _)); (exact HX.out.2.below (BW.out _)); (omega); (exact Nat.le_trans hz0 (BW.out _).size); (exact fun k _ hk => .inl hk); (exact fun k hk => .inr (HQ.out.lt k hk).1); intro v3 w3 own3 grow3 where3; have HO3 := Lib.hid (And.intro own3 grow3); clear own3 grow3 where3))
        have HB3 := Lib.hid ((HB.out.trans ((BW.out _).mono hz0)).grown HO3.out.2 (Nat.le_trans hz0 (BW.out _).size) (fun k hk => (HQ.out.lt k hk).1))
        go_roundw
        case rel => exact ⟨j + 1, by omega, by go_num, HB3.out, by rw [HPT.out]; exact HO3.out.1⟩
        case measure => simp [intOf]; omega
    · have d0 : decide ((j : Int) < (m : Int)) = false := by simp; omega
      have d0' : ¬ ((j : Int) < (m : Int)) := by omega
      have htk : s.l0.take j = s.l0 := List.take_of_length_le (by rw [HM.out]; omega)
      rw [htk] at HQ
      obtain ⟨P5, c5, hv5, -, -, -⟩ := HQ.out.shape
      subst hv5
      have okf : FsOk { s with l0 := s.l0.eraseIdx i } := by
        obtain ⟨o1, o2, o3, o4⟩ := HOK.out
        exact ⟨o1, o2, ⟨Nat.le_trans (erase_le _ _) o3.1, o3.2.1, fun f hf => o3.2.2 f (erase_mem hf)⟩, o4⟩
      have hfin := RFv.row0 (w := wc) (w3 := wr) (s' := { s with l0 := s.l0.eraseIdx i }) HR.out.1 (fun k hk => by have := HX0.out k hk; omega) (Off.of_below HB.out) HR.out.2.2.2.1 HR.out.2.2.2.2.2 HR.out.2.2.2.2.1.2 (HQ.out.down (Nat.zero_le _)) (.inr (fun k hk => (HQ.out.lt k hk).1)) okf rfl rfl rfl rfl rfl
      have HFN := Lib.hid hfin
      have f2 := cfz 2
      have hgw := HX0.out g HR.out.1
      have og := (Off.refl (· = g) wr).setCell (p := ⟨g, 2, none⟩) (.inl rfl) (.slice P5 ((s.l0.eraseIdx i).length) c5)
      have g1 := (og.block w1.heap.size (by have := HB.out.size; omega) (by omega)).trans ((HB.out.block _ (lt_row B2.out)).trans B2.out)
      have g0 := (og.block w.heap.size (by have := HB.out.size; omega) (by omega)).trans ((HB.out.block _ (lt_row B1.out)).trans B1.out)
      obtain ⟨c6, c7, c8, -, -, -⟩ := row3 g1
      obtain ⟨d6, d7, d8, e6, e7, e8⟩ := row3 g0
      have G0 := Lib.hid g0
      have HTX : Hid (Tx (wr.setCell ⟨g, 2, none⟩ (.slice P5 ((s.l0.eraseIdx i).length) c5)) (fun k => ¬ X k ∨ k = g) t1 (.slice A1 m1 k1) ∧ Tx (wr.setCell ⟨g, 2, none⟩ (.slice P5 ((s.l0.eraseIdx i).length) c5)) (fun k => ¬ X k ∨ k = g) t2 (.slice A2 m2 k2)) := ⟨(HXT.out.1.below HB.out).off og (fun k _ hk => .inr hk), (HXT.out.2.below HB.out).off og (fun k _ hk => .inr hk)⟩
      clear hfin okf g1 g0 og
      go_wp2_with (fail)
      (try simp only [Exit.inBlock, Exit.then])
      refine bodyPost_ret (v := .tuple #[.agg #[.int .i64 (rn : Int), .slice A1 m1 k1, .slice A2 m2 k2], .int .i64 0]) (res_cell_tmp rfl _ _ w.heap.size 40 #[.int .i64 (rn : Int), .slice A1 m1 k1, .slice A2 m2 k2] (0, 0) _ _ rfl rfl (stored3 G0.out _ _ _) Try.underlying40 rfl (by kernel_rfl)) rfl ?_
      obtain ⟨X5, r5, t5⟩ := HFN.out
      have o3 := off3 (wr.setCell ⟨g, 2, none⟩ (.slice P5 ((s.l0.eraseIdx i).length) c5)) w.heap.size (.int .i64 (rn : Int)) (.slice A1 m1 k1) (.slice A2 m2 k2)
      have hx5 : ∀ k, X5 k → k ≠ w.heap.size := fun k hk e => by
        rcases t5.grow k hk with h1 | h1
        · have := HX0.out k h1; omega
        · omega
      refine ⟨_, _, rfl, HTX.out.1.off o3 (fun k _ hk => ?_) |>.imp (fun k _ hk => .inl hk), HTX.out.2.off o3 (fun k _ hk => ?_) |>.imp (fun k _ hk => .inl hk), X5, ⟨_, _, (RFv.holds _ _ _ _).off r5 o3 (fun k hk e => hx5 k hk e)⟩, ⟨?_, fun k hk => (t5.grow k hk).imp id (fun h1 => by omega)⟩⟩
      · exact .inl (fun h => by have := HX0.out k h; omega)
      · exact .inl (fun h => by have := HX0.out k h; omega)
      · exact ((((Off.of_below HTA.out).trans t5.off).setCell (p := ⟨w.heap.size, 0, none⟩) (.inr (Nat.le_refl _)) _).setCell (p := ⟨w.heap.size, 1, none⟩) (.inr (Nat.le_refl _)) _).setCell (p := ⟨w.heap.size, 2, none⟩) (.inr (Nat.le_refl _)) _
set_option maxHeartbeats 8000000 in
theorem rftake_ok1 (g : Nat) (s : Fs) (i : Nat) (w : World) (X : Nat → Prop) (h : RF g s w X) (hi : i < s.l1.length) :
    Calls Try.prog 14 #[.pointer (some ⟨g, 0, none⟩), .int .i64 1, .int .i64 (i : Int)] w (GivesTk g { s with l1 := s.l1.eraseIdx i } X w (s.l1[i], 0)) := by
  have hf : fsAt s 1 (i : Int) = (s.l1[i], 0) := by
    show flAt s.l1 (i : Int) = _
    unfold flAt
    rw [if_pos (by omega), Int.toNat_natCast, List.getD_eq_getElem?_getD, List.getElem?_eq_getElem hi]
    rfl
  obtain ⟨v0, v1, h⟩ := h
  obtain ⟨m, hm⟩ : ∃ m, s.l1.length = m := ⟨_, rfl⟩
  have hX := h.2.1
  obtain ⟨P', c3, hv', hk1, hk2, hrow⟩ := h.2.2.2.2.2.1.shape
  obtain ⟨bb, rfl, -, hbw, -, -⟩ := hrow (by omega)
  unfold maxLen at hk2
  rw [hm] at hv' hk1
  subst hv'
  clear hrow
  have HM := Lib.hid hm
  have hme : m ≤ 4097 := by rw [← hm]; exact h.2.2.1.2.2.2.1
  have U0 := (Below.refl _ w).alloc (Nat.le_refl _) (.cells #[.int .i64 0, .slice none 0 0, .slice none 0 0] 40)
  have HA0 := rfat_any g s v0 (.slice (some ⟨bb, 0, none⟩) m c3) 1 (i : Int) _ X ((RFv.holds g s _ _).below h U0)
  rw [hf] at HA0
  have HA := Lib.hid HA0
  have HR0 := Lib.hid h
  have HX0 := Lib.hid hX
  have him : i < m := by omega
  have HOK := Lib.hid h.2.2.1
  clear h hX hf HA0 hm
  obtain ⟨fr, hfr⟩ : ∃ fr, s.l1[i] = fr := ⟨_, rfl⟩
  rw [hfr] at HA ⊢
  clear hfr
  obtain ⟨rn, t1, t2⟩ := fr
  go_enter Try.func14, Try.ntmps14
  go_wp2_with (fail)
  refine HA.out.mono ?_
  rintro e w1 ⟨u1, u2, rfl, x1, x2, T1⟩
  obtain ⟨A1, k1, rfl, _, _⟩ := id x1
  obtain ⟨A2, k2, rfl, _, _⟩ := id x2
  have b0 := one_row T1
  have T1w := nxt U0 T1
  simp only at x1 x2
  obtain ⟨m1, hm1⟩ : ∃ m, t1.length = m := ⟨_, rfl⟩
  obtain ⟨m2, hm2⟩ : ∃ m, t2.length = m := ⟨_, rfl⟩
  rw [hm1] at x1 ⊢
  rw [hm2] at x2 ⊢
  have hyn : ∀ k, (¬ X k ∨ k = g) → Yn X g v0 (.slice (some ⟨bb, 0, none⟩) m c3) k := fun k hk => hk.elim .inl (fun h => .inr (.inl h))
  have HXT : Hid (Tx (w1.alloc (.cells #[.int .i64 (rn : Int), .slice A1 m1 k1, .slice A2 m2 k2] 40)) (fun k => ¬ X k ∨ k = g) t1 (.slice A1 m1 k1) ∧ Tx (w1.alloc (.cells #[.int .i64 (rn : Int), .slice A1 m1 k1, .slice A2 m2 k2] 40)) (fun k => ¬ X k ∨ k = g) t2 (.slice A2 m2 k2)) := ⟨(x1.imp (fun k _ hk => hyn k hk)).below ((Below.refl _ w1).alloc (Nat.le_refl _) _), (x2.imp (fun k _ hk => hyn k hk)).below ((Below.refl _ w1).alloc (Nat.le_refl _) _)⟩
  have B1 := Lib.hid (hp_old b0 (.cells #[.int .i64 (rn : Int), .slice A1 m1 k1, .slice A2 m2 k2] 40))
  have B2 := Lib.hid (heap_alloc_new w1 (.cells #[.int .i64 (rn : Int), .slice A1 m1 k1, .slice A2 m2 k2] 40))
  have hw1 := T1w.size
  have hw1g : w.heap.size < w1.heap.size := lt_row b0
  have TA := T1w.alloc hw1 (.cells #[.int .i64 (rn : Int), .slice A1 m1 k1, .slice A2 m2 k2] 40)
  have HR1 := Lib.hid ((RFv.holds g s _ _).below HR0.out TA)
  have HTA := Lib.hid TA
  have hxs : (w1.alloc (.cells #[.int .i64 (rn : Int), .slice A1 m1 k1, .slice A2 m2 k2] 40)).heap.size = w1.heap.size + 1 := by simp
  clear x1 x2 b0 hm1 hm2 T1 U0 TA hyn
  go_wp2_with (fail)
  generalize hwc : w1.alloc (.cells #[.int .i64 (rn : Int), .slice A1 m1 k1, .slice A2 m2 k2] 40) = wc at *
  clear hwc
  go_loopw [10, 11] (fun v k wr => ∃ j : Nat, j ≤ m ∧ k = .int .i64 (j : Int) ∧ Hid (Below wc.heap.size wc wr) ∧ Hid (OwnF wr wc.heap.size (Zn wc X g v0) v ((s.l1.take j).eraseIdx i))) (fun _ k _ => m - (intOf k).toNat)
  case atStart => exact ⟨0, Nat.zero_le _, rfl, Below.refl _ _, OwnF.nil _ _ _⟩
  case round =>
    obtain ⟨j, hj, rfl, HB, HQ⟩ := hrel
    have HR := Lib.hid ((RFv.holds g s _ _).below HR1.out HB.out)
    obtain ⟨ca, cb, cc, cd, ce, cf, cfz, cgw⟩ := HR.out.cells
    clear ca cb cc cd cf
    by_cases hlt : j < m
    · have d0 : decide ((j : Int) < (m : Int)) = true := by simp; omega
      have hjm : (j : Int) < (m : Int) := by omega
      have hjL : j < s.l1.length := by rw [HM.out]; exact hlt
      obtain ⟨P5, c5, hv5, -, -, hrow⟩ := HR.out.2.2.2.2.2.1.shape
      injection hv5 with e1 e2 e3
      obtain ⟨b5, e4, -, hb5, -, hel⟩ := hrow (by omega)
      rw [e4] at e1
      injection e1 with e1
      injection e1 with e1
      subst e1
      obtain ⟨u1, u2, q0, q1, q2, x1, x2⟩ := hel j hjL
      obtain ⟨A5, k5, rfl, _, _⟩ := id x1
      obtain ⟨A6, k6, rfl, _, _⟩ := id x2
      have hpt := erase_take s.l1 i j hjL
      have hx12 : ∀ k, (Zn wc X g v0 k ∨ wc.heap.size ≤ k) → ((¬ X k ∨ k = g ∨ v0.ownBlock = some k) ∨ k = bb) := fun k hk => by
        rcases hk with (hk | hk | hk) | hk
        · exact .inl (.inl (fun h => hk (.inl h)))
        · exact .inl (.inr (.inl hk))
        · exact .inl (.inr (.inr hk))
        · exact .inl (.inl (fun h => by have := HX0.out k h; omega))
      have HX := Lib.hid (And.intro (x1.imp (fun k _ hk => hx12 k hk)) (x2.imp (fun k _ hk => hx12 k hk)))
      generalize s.l1[j] = f at *
      obtain ⟨m5, hm5⟩ : ∃ m, f.2.1.length = m := ⟨_, rfl⟩
      obtain ⟨m6, hm6⟩ : ∃ m, f.2.2.length = m := ⟨_, rfl⟩
      rw [hm5] at q1 HX
      rw [hm6] at q2 HX
      have hpl : ((s.l1.take j).eraseIdx i).length ≤ 5000 := by have := erase_le (s.l1.take j) i; have := List.length_take_le j s.l1; omega
      clear x1 x2 hel hrow hx12 hm5 hm6 e2 e3 e4
      by_cases hij : j = i
      · have dn : ((j : Int) != (i : Int)) = false := by simp; omega
        rw [if_pos hij] at hpt
        have HPT := Lib.hid hpt
        clear hpt hij
        go_wp2_with (fail)
        go_roundw
        case rel => exact ⟨j + 1, by omega, by go_num, HB.out, by rw [HPT.out]; exact HQ.out⟩
        case measure => simp [intOf]; omega
      · have dn : ((j : Int) != (i : Int)) = true := by simp; omega
        rw [if_neg hij] at hpt
        have HPT := Lib.hid hpt
        clear hpt hij
        generalize (s.l1.take j).eraseIdx i = kp at *
        have hz0 := HB.out.size
        have BW : Hid (∀ o, Below wr.heap.size wr (wr.alloc o)) := fun o => ((Below.refl _ wr).alloc (Nat.le_refl _) o)
        go_wp2_with (first | (at_builtin; (with_reducible refine app_f _ rfl (.tmp 36) (.tmp 47) rfl wc.heap.size (Zn wc X g v0) _ kp rfl ?_ (fun k => Zn wc X g v0 k ∨ wc.heap.size ≤ k) _ f (.slice A5 m5 k5) (.slice A6 m6 k6) rfl ?_ ?_ ?_ ?_ ?_ ?_ ?_ ?_); (exact HQ.out.below (BW.out _)); (exact heap_alloc_new wr _); (exact HX.out.1.below (BW.out _)); (exact HX.out.2.below (BW.out _)); (omega); (exact Nat.le_trans hz0 (BW.out _).size); (exact fun k _ hk => .inl hk); (exact fun k hk => .inr (HQ.out.lt k hk).1); intro v3 w3 own3 grow3 where3; have HO3 := Lib.hid (And.intro own3 grow3); clear own3 grow3 where3))
        have HB3 := Lib.hid ((HB.out.trans ((BW.out _).mono hz0)).grown HO3.out.2 (Nat.le_trans hz0 (BW.out _).size) (fun k hk => (HQ.out.lt k hk).1))
        go_roundw
        case rel => exact ⟨j + 1, by omega, by go_num, HB3.out, by rw [HPT.out]; exact HO3.out.1⟩
        case measure => simp [intOf]; omega
    · have d0 : decide ((j : Int) < (m : Int)) = false := by simp; omega
      have d0' : ¬ ((j : Int) < (m : Int)) := by omega
      have htk : s.l1.take j = s.l1 := List.take_of_length_le (by rw [HM.out]; omega)
      rw [htk] at HQ
      obtain ⟨P5, c5, hv5, -, -, -⟩ := HQ.out.shape
      subst hv5
      have okf : FsOk { s with l1 := s.l1.eraseIdx i } := by
        obtain ⟨o1, o2, o3, o4⟩ := HOK.out
        exact ⟨o1, o2, o3, ⟨Nat.le_trans (erase_le _ _) o4.1, o4.2.1, fun f hf => o4.2.2 f (erase_mem hf)⟩⟩
      have hfin := RFv.row1 (w := wc) (w3 := wr) (s' := { s with l1 := s.l1.eraseIdx i }) HR.out.1 (fun k hk => by have := HX0.out k hk; omega) (Off.of_below HB.out) HR.out.2.2.2.1 HR.out.2.2.2.2.1 HR.out.2.2.2.2.2.2 (HQ.out.down (Nat.zero_le _)) (.inr (fun k hk => (HQ.out.lt k hk).1)) okf rfl rfl rfl rfl rfl
      have HFN := Lib.hid hfin
      have f2 := cfz 4
      have hgw := HX0.out g HR.out.1
      have og := (Off.refl (· = g) wr).setCell (p := ⟨g, 4, none⟩) (.inl rfl) (.slice P5 ((s.l1.eraseIdx i).length) c5)
      have g1 := (og.block w1.heap.size (by have := HB.out.size; omega) (by omega)).trans ((HB.out.block _ (lt_row B2.out)).trans B2.out)
      have g0 := (og.block w.heap.size (by have := HB.out.size; omega) (by omega)).trans ((HB.out.block _ (lt_row B1.out)).trans B1.out)
      obtain ⟨c6, c7, c8, -, -, -⟩ := row3 g1
      obtain ⟨d6, d7, d8, e6, e7, e8⟩ := row3 g0
      have G0 := Lib.hid g0
      have HTX : Hid (Tx (wr.setCell ⟨g, 4, none⟩ (.slice P5 ((s.l1.eraseIdx i).length) c5)) (fun k => ¬ X k ∨ k = g) t1 (.slice A1 m1 k1) ∧ Tx (wr.setCell ⟨g, 4, none⟩ (.slice P5 ((s.l1.eraseIdx i).length) c5)) (fun k => ¬ X k ∨ k = g) t2 (.slice A2 m2 k2)) := ⟨(HXT.out.1.below HB.out).off og (fun k _ hk => .inr hk), (HXT.out.2.below HB.out).off og (fun k _ hk => .inr hk)⟩
      clear hfin okf g1 g0 og
      go_wp2_with (fail)
      (try simp only [Exit.inBlock, Exit.then])
      refine bodyPost_ret (v := .tuple #[.agg #[.int .i64 (rn : Int), .slice A1 m1 k1, .slice A2 m2 k2], .int .i64 0]) (res_cell_tmp rfl _ _ w.heap.size 40 #[.int .i64 (rn : Int), .slice A1 m1 k1, .slice A2 m2 k2] (0, 0) _ _ rfl rfl (stored3 G0.out _ _ _) Try.underlying40 rfl (by kernel_rfl)) rfl ?_
      obtain ⟨X5, r5, t5⟩ := HFN.out
      have o3 := off3 (wr.setCell ⟨g, 4, none⟩ (.slice P5 ((s.l1.eraseIdx i).length) c5)) w.heap.size (.int .i64 (rn : Int)) (.slice A1 m1 k1) (.slice A2 m2 k2)
      have hx5 : ∀ k, X5 k → k ≠ w.heap.size := fun k hk e => by
        rcases t5.grow k hk with h1 | h1
        · have := HX0.out k h1; omega
        · omega
      refine ⟨_, _, rfl, HTX.out.1.off o3 (fun k _ hk => ?_) |>.imp (fun k _ hk => .inl hk), HTX.out.2.off o3 (fun k _ hk => ?_) |>.imp (fun k _ hk => .inl hk), X5, ⟨_, _, (RFv.holds _ _ _ _).off r5 o3 (fun k hk e => hx5 k hk e)⟩, ⟨?_, fun k hk => (t5.grow k hk).imp id (fun h1 => by omega)⟩⟩
      · exact .inl (fun h => by have := HX0.out k h; omega)
      · exact .inl (fun h => by have := HX0.out k h; omega)
      · exact ((((Off.of_below HTA.out).trans t5.off).setCell (p := ⟨w.heap.size, 0, none⟩) (.inr (Nat.le_refl _)) _).setCell (p := ⟨w.heap.size, 1, none⟩) (.inr (Nat.le_refl _)) _).setCell (p := ⟨w.heap.size, 2, none⟩) (.inr (Nat.le_refl _)) _
theorem rftake_any (g : Nat) (s : Fs) (d i : Int) (w : World) (X : Nat → Prop) (h : RF g s w X) : Calls Try.prog 14 #[.pointer (some ⟨g, 0, none⟩), .int .i64 d, .int .i64 i] w (GivesTk g (fsTake s d i) X w (fsAt s d i)) := by
  by_cases hno : (fsAt s d i).2 = 0
  · have hE : ∀ s' : Fs, (if d = 0 then { s with l0 := s.l0.eraseIdx i.toNat } else { s with l1 := s.l1.eraseIdx i.toNat }) = s' → fsTake s d i = s' := fun s' he => by unfold fsTake; rw [if_pos hno]; exact he
    rcases fsAt_ok hno with ⟨rfl, j, rfl, hj, he⟩ | ⟨rfl, j, rfl, hj, he⟩
    · rw [he, hE { s with l0 := s.l0.eraseIdx j } rfl]
      exact rftake_ok0 g s j w X h hj
    · rw [he, hE { s with l1 := s.l1.eraseIdx j } rfl]
      exact rftake_ok1 g s j w X h hj
  · exact rftake_no g s d i w X h hno
end Go.Proofs.Ytgppoapdpgblmaa
