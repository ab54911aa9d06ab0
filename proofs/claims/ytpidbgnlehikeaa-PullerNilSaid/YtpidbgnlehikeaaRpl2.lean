/- What kedgeref25's keep does. -/
import Derived.Test.YtpidbgnlehikeaaRpl
namespace Go.Proofs.Ytpidbgnlehikeaa
open Go.RowKit
set_option maxRecDepth 20000

theorem slice_hi_l (A : Option Addr) (n c k : Nat) (hk : k ≤ c) (w : World) : (Instr.slice 53 (.slice A n c) none (some (.int .i64 k)) none).run Try.prog w = .ok (.slice A k c) w := by
  obtain ⟨i0, hi, hz0, hz1, hz2⟩ := info_parts Try.infoLt
  have ht : Try.prog.underlying 53 = some (.slice (Try.prog.elem 53)) := by kernel_rfl
  have he : Try.prog.elem 53 = 62 := by kernel_rfl
  rw [run_slice_h _ _ _ _ _ ht .i64 k (by omega) (by omega), he]
  simp [Go.sizeOf, typeInfo, hi, hz1, sliced, map_add0]
theorem slice_lo_l (A : Option Addr) (n c k : Nat) (hk : k ≤ n) (w : World) : (Instr.slice 53 (.slice A n c) (some (.int .i64 k)) none none).run Try.prog w = .ok (.slice (if c = k then A else A.map (·.add (k * 2))) (n - k) (c - k)) w := by
  obtain ⟨i0, hi, hz0, hz1, hz2⟩ := info_parts Try.infoLt
  have ht : Try.prog.underlying 53 = some (.slice (Try.prog.elem 53)) := by kernel_rfl
  have he : Try.prog.elem 53 = 62 := by kernel_rfl
  rw [run_slice_l _ _ _ _ _ ht .i64 k (by omega) (by omega), he]
  simp [Go.sizeOf, typeInfo, hi, hz1, sliced]
theorem at_slice_l (x : Value) (lo hi mx : Option Value) (w : World) : (Instr.sliceAt 53 x lo hi mx).run Try.prog w = (Instr.slice 53 x lo hi mx).run Try.prog w :=
  run_sliceAt_slice _ _ x lo hi mx (by kernel_rfl)
/-- l[k:] of what reads as such structs -/
theorem cut_lo_l {w : World} {Y : Nat → Prop} {A : Option Addr} {n c : Nat} {l : List Rcv} (h : RV w Y 2 A n c l) (k : Nat) (hk : k ≤ n) :
    ∃ A2, (∀ W, (Instr.slice 53 (.slice A n c) (some (.int .i64 k)) none none).run Try.prog W = .ok (.slice A2 (n - k) (c - k)) W) ∧ (∀ W, (Instr.sliceAt 53 (.slice A n c) (some (.int .i64 k)) none none).run Try.prog W = .ok (.slice A2 (n - k) (c - k)) W) ∧ RV w Y 2 A2 (n - k) (c - k) (l.drop k) := by
  refine ⟨_, fun W => slice_lo_l A n c k hk W, fun W => (at_slice_l _ _ _ _ W).trans (slice_lo_l A n c k hk W), ?_⟩
  have hl := h.1
  have hnc := h.2.1
  have hcm := h.2.2.1
  by_cases hc : c = k
  · rw [if_pos hc, show n - k = 0 by omega, List.drop_of_length_le (by omega)]
    exact RV.nil _ _ _ _ _ (by omega)
  · rw [if_neg hc]
    rcases Nat.eq_zero_or_pos n with h0 | h0
    · have hk0 : k = 0 := by omega
      subst hk0
      rw [h0, List.drop_of_length_le (by omega)]
      exact RV.nil _ _ _ _ _ (by omega)
    · obtain ⟨b, o, rfl, _⟩ := h.2.2.2.2 h0
      have e : (some (⟨b, o, none⟩ : Addr)).map (·.add (k * 2)) = some ⟨b, o + k * 2, none⟩ := by
        simp only [Option.map_some]
        congr 1
        unfold Addr.add
        split
        · have : k * 2 = 0 := by simp_all
          rw [this]; simp
        · rfl
      rw [e]
      exact h.drop k hk
theorem cut_hi_l {w : World} {Y : Nat → Prop} {A : Option Addr} {n c : Nat} {l : List Rcv} (h : RV w Y 2 A n c l) (k : Nat) (hk : k ≤ n) :
    (∀ W, (Instr.slice 53 (.slice A n c) none (some (.int .i64 k)) none).run Try.prog W = .ok (.slice A k c) W) ∧ (∀ W, (Instr.sliceAt 53 (.slice A n c) none (some (.int .i64 k)) none).run Try.prog W = .ok (.slice A k c) W) ∧ RV w Y 2 A k c (l.take k) :=
  ⟨fun W => slice_hi_l A n c k (by have := h.2.1; omega) W, fun W => (at_slice_l _ _ _ _ W).trans (slice_hi_l A n c k (by have := h.2.1; omega) W), h.take k hk⟩
theorem map_take_ltV (l : List Lt) (k : Nat) : (l.map ltV).take k = (l.take k).map ltV := by rw [List.map_take]
theorem map_drop_ltV (l : List Lt) (k : Nat) : (l.map ltV).drop k = (l.drop k).map ltV := by rw [List.map_drop]
/-- a place is kept: a list anew, out of the old one's parts -/
def LateZ (Xl : Nat → Prop) (w : World) : Nat → Prop := fun k => ¬ (Xl k ∨ w.heap.size ≤ k)
theorem lit_late {w : World} {B0 cA L : Nat} {A : Option Addr} {m : List UInt8} {Z' : Nat → Prop} (h : w.ownsRow B0 5 1 (.slice A L cA) L (bvs m)) (hL : m.length = L) (p : Nat) (hZ : ∀ k, B0 ≤ k → ¬ Z' k) (hB : B0 ≤ w.heap.size) :
    RV (w.alloc (.cells #[.int .i64 (p : Int), .slice A L cA] 62)) Z' 2 (some ⟨w.heap.size, 0, none⟩) 1 1 [ltV (p, m)] := by
  subst hL
  have := RV.one (w := w) (Y := Z') (K := 2) (e := 62) (ps := [.int .i64 (p : Int)]) rfl (fun u hu => by rw [List.mem_singleton.1 hu]; rfl) (Bys.of_own h) (fun hn q e hz => hZ _ (by simpa using own_fr h hn q e) hz) (hZ _ hB)
  exact this
set_option maxHeartbeats 16000000 in
theorem rlkeep_any (g gq : Nat) (v : Value) (s : Pls) (Xq Xl : Nat → Prop) (p : Nat) (A : Option Addr) (n c : Nat) (m : List UInt8) (w : World) (h : RLv g gq v s Xq Xl w) (hl : s.late.length ≤ 64) (hB : Bys w A n c m) (hn : n ≤ 64) :
    Calls Try.prog 31 #[.pointer (some ⟨g, 0, none⟩), .int .i64 (p : Int), .slice A n c] w fun e w' => e = .returned (.tuple #[]) ∧ ∃ v' Xl', RLv g gq v' { s with late := ltKeep s.late p m } Xq Xl' w' ∧ Turns (Tri3 g Xq Xl) (Tri3 g Xq Xl') w w' := by
  obtain ⟨-, -, c8, -, -, hfz⟩ := h.cells
  have hgw := lt_row h.1
  obtain ⟨P, pc, rfl, hp1, hp2, hpn, hR⟩ := h.lst
  have f8 := hfz 8
  have hat := ltAt_le s.late p
  have HAL := Lib.hid (fun i hi h1 h2 => ltAt_unique s.late p i hi h1 h2)
  have HEQ := Lib.hid (fun h => ltHas_eq s.late p h)
  have HEND := Lib.hid (fun h => ltHas_end s.late p h)
  have HKP : Hid (ltKeep s.late p m = if ltHas s.late p then s.late else s.late.take (ltAt s.late p) ++ [(p, m)] ++ s.late.drop (ltAt s.late p)) := rfl
  have HR := Lib.hid h
  have HXL := Lib.hid h.2.2.2.1
  have HE : Hid (∀ w1 v' l', Below w.heap.size w w1 → OwnV 62 2 w1 w.heap.size (LateZ Xl w) v' (l'.map ltV) → ∃ Xl', RLv g gq v' { s with late := l' } Xq Xl' (w1.setCell ⟨g, 8, none⟩ v') ∧ Turns (Tri3 g Xq Xl) (Tri3 g Xq Xl') w (w1.setCell ⟨g, 8, none⟩ v')) := fun w1 v' l' T ho => h.l T ho
  have HRV := Lib.hid hR
  have HCP := Lib.hid (fun W (U : Below w.heap.size w W) => rcopy_any A n c m W (hB.below U) (by omega))
  have hml := hB.len
  obtain ⟨N, hN⟩ : ∃ N, s.late.length = N := ⟨_, rfl⟩
  have HN := Lib.hid hN
  have HML := Lib.hid hml
  rw [hN] at c8 hp1 hl hat
  have hCell : ∀ j (hj : j < s.late.length), ∃ b o, P = some ⟨b, o, none⟩ ∧ w.cell? ⟨b, o + j * 2, none⟩ = some (.int .i64 (s.late[j].1 : Int)) := fun j hj => by
    obtain ⟨b, o, _, _, e, _, hc, _⟩ := lt_cells hR j hj
    exact ⟨b, o, e, hc⟩
  have HCE := Lib.hid hCell
  clear h hR hB hfz hN hCell hpn
  go_enter Try.func31, Try.ntmps31
  go_wp2_with (fail)
  go_loopw [6] (fun i wr => ∃ k : Nat, k ≤ N ∧ i = .int .i64 (k : Int) ∧ Hid (∀ j, j < k → ∀ h : j < s.late.length, s.late[j].1 < p) ∧ w = wr) (fun i _ => N - (intOf i).toNat)
  case atStart => exact ⟨0, Nat.zero_le _, rfl, fun j hj => absurd hj (by omega), rfl⟩
  case round =>
    obtain ⟨k, hk, rfl, HK, rfl⟩ := hrel
    by_cases hgo : ∃ h : k < s.late.length, s.late[k].1 < p
    · obtain ⟨hkl, hlt⟩ := hgo
      obtain ⟨b, o, rfl, hcell⟩ := HCE.out k hkl
      have hkN : k < N := by have := HN.out; omega
      have HX : Hid (∀ z, s.late[k].1 = z → z < p → ∀ j, j < k + 1 → ∀ h : j < s.late.length, s.late[j].1 < p) := fun z hz hzk j hj h => by
        rcases Nat.lt_or_ge j k with h' | h'
        · exact HK.out j h' h
        · obtain rfl : j = k := by omega
          omega
      have d1 : (k : Int) < (N : Int) := by omega
      have d1' : k < N := hkN
      generalize s.late[k].1 = x at *
      have d2 : (x : Int) < (p : Int) := by omega
      have HXX := Lib.hid (HX.out x rfl hlt)
      go_wp2_with (fail)
      go_roundw
      case rel => exact ⟨k + 1, by omega, by go_num, HXX.out, trivial⟩
      case measure => simp [intOf]; omega
    · have hge : ∀ h : k < s.late.length, p ≤ s.late[k].1 := fun h => by
        rcases Nat.lt_or_ge s.late[k].1 p with h' | h'
        · exact absurd ⟨h, h'⟩ hgo
        · exact h'
      have hatk := HAL.out k (by have := HN.out; omega) HK.out hge
      have HKP2 := HKP.out
      rw [hatk] at HKP2
      by_cases hkN : k < N
      · have hkl : k < s.late.length := by have := HN.out; omega
        obtain ⟨b, o, rfl, hcell⟩ := HCE.out k hkl
        have d1 : (k : Int) < (N : Int) := by omega
        have d1' : k < N := hkN
        have hx := hge hkl
        have hq := HEQ.out (by rw [hatk]; exact hkl)
        simp only [hatk] at hq
        generalize s.late[k].1 = x at *
        have d2 : ¬ ((x : Int) < (p : Int)) := by omega
        have d2' : ¬ (x < p) := by omega
        by_cases he : x = p
        · subst he
          have hq1 : ltHas s.late x = true := by rw [hq]; simp
          rw [if_pos hq1] at HKP2
          have HKQ : Hid (ltKeep s.late x m = s.late) := HKP2
          clear hq hq1 HKP2 hge hgo hatk hx
          go_wp2_with (fail)
          exact bodyPost_ret (results_none rfl _ _ _) rfl (by rw [HKQ.out]; exact ⟨rfl, _, Xl, HR.out, Turns.of_below (Below.refl _ _)⟩)
        · have hq1 : ltHas s.late p = false := by rw [hq]; simpa using he
          rw [if_neg (by rw [hq1]; simp)] at HKP2
          have HKQ : Hid (ltKeep s.late p m = s.late.take k ++ [(p, m)] ++ s.late.drop k) := HKP2
          have d3 : ¬ ((x : Int) = (p : Int)) := by omega
          have d3' : ¬ (x = p) := he
          clear hq hq1 HKP2 hge hgo hatk hx he
          have hkn : k ≤ N := hk
          obtain ⟨hh1, hh2, rv1⟩ := cut_hi_l HRV.out k (by have := HN.out; omega)
          obtain ⟨A2, hd1, hd2, rv2⟩ := cut_lo_l HRV.out k (by have := HN.out; omega)
          rw [HN.out] at hh1 hh2 hd1 hd2 rv2
          have hll : s.late.map ltV = (s.late.map ltV).take k ++ (s.late.map ltV).drop k := (List.take_append_drop _ _).symm
          have hLL : (s.late.take k ++ [(p, m)] ++ s.late.drop k).map ltV = (s.late.map ltV).take k ++ [ltV (p, m)] ++ (s.late.map ltV).drop k := by simp [List.map_take, List.map_drop]
          have hL1 : ((s.late.map ltV).take k).length = k := by have := HN.out; simp; omega
          have hL2 : ((s.late.map ltV).drop k).length = N - k := by have := HN.out; simp; omega
          generalize (s.late.map ltV).take k = L1 at *
          generalize (s.late.map ltV).drop k = L2 at *
          have HL1 := Lib.hid hL1
          have HL2 : Hid ((L1 ++ [ltV (p, m)]).length = k + 1) := by show _ = _; simp [hL1]
          have HL3 : Hid ((L1 ++ [ltV (p, m)] ++ L2).length = k + 1 + (N - k)) := by show _ = _; simp [hL1, hL2]; omega
          have HLL := Lib.hid hLL
          have HDR := Lib.hid (fun W (U : Below w.heap.size w W) => rv2.below U)
          clear hll hLL hL1 hL2 rv2
          have TE := (Below.refl w.heap.size w).alloc (Nat.le_refl _) (.cells #[] 62)
          have c8e := (TE.cell (p := ⟨g, 8, none⟩) hgw).trans c8
          have HE0 := Lib.hid (empty_rowl w (LateZ Xl w))
          have HTE := Lib.hid TE
          have HK1 := Lib.hid (rv1.below TE)
          clear TE rv1
          go_wp2_with (at_builtin; go_loud (first
            | (refine app_rv Try.underlying53 Try.infoLt rfl (by decide) (by decide) _ rfl (.tmp 48) (.tmp 54) rfl w.heap.size (LateZ Xl w) (.slice (some ⟨w.heap.size, 0, none⟩) 0 0) [] rfl ?_ (fun k => ¬ Xl k) _ _ _ L1 rfl ?_ ?_ ?_ ?_ ?_ ?_; exact HE0.out; exact HK1.out; simp; omega; exact HTE.out.size; exact fun k _ hz hx => hz (.inl hx); exact (fun k hk => (by cases hk; exact fun hx => absurd (HXL.out _ hx) (Nat.lt_irrefl _))); intro v3 w3 hown3 hgrow3 hwhere3; have T3 := HTE.out.grown hgrow3 HTE.out.size (fun k hk => by cases hk; exact Nat.le_refl _); simp only [List.nil_append] at hown3; obtain ⟨P3, c3, hv3, _⟩ := hown3.shape; rw [HL1.out] at hv3; subst hv3; have HO3 := Lib.hid hown3; have HT3 := Lib.hid T3; clear hown3 hgrow3 hwhere3 T3)))
          refine (HCP.out _ HT3.out).mono ?_
          rintro e w4 ⟨v4, rfl, hw4, U4⟩
          obtain ⟨A4, cA, rfl⟩ := own_shape hw4
          rw [HML.out] at hw4
          have T4 := nxt HT3.out U4
          have T5 := T4.alloc T4.size (.cells #[.int .i64 (p : Int), .slice A4 n cA] 62)
          have hs3 := HT3.out.size
          have HLIT : Hid (RV (w4.alloc (.cells #[.int .i64 (p : Int), .slice A4 n cA] 62)) (fun j => LateZ Xl w j ∨ (Value.slice P3 k c3).ownBlock = some j) 2 (some ⟨w4.heap.size, 0, none⟩) 1 1 [ltV (p, m)]) := lit_late hw4 HML.out p (fun j hj hz => by
            rcases hz with hz | hz
            · exact hz (.inr (by omega))
            · have := (HO3.out.lt j hz).2; omega) U4.size
          have HO5 := Lib.hid ((HO3.out.below U4).below ((Below.refl _ w4).alloc (Nat.le_refl _) (.cells #[.int .i64 (p : Int), .slice A4 n cA] 62)))
          have HT5 := Lib.hid T5
          clear hw4 U4 T4 T5 hs3
          go_wp2_with (at_builtin; first
            | (refine app_rv Try.underlying53 Try.infoLt rfl (by decide) (by decide) _ rfl (.tmp 56) (.tmp 61) rfl w.heap.size (LateZ Xl w) (.slice P3 k c3) L1 rfl ?_ (fun j => LateZ Xl w j ∨ (Value.slice P3 k c3).ownBlock = some j) _ _ _ [ltV (p, m)] rfl ?_ ?_ ?_ ?_ ?_ ?_; exact HO5.out; exact HLIT.out; rw [HL1.out]; omega; exact HT5.out.size; exact fun j _ hz => .inl hz; exact fun j hj => .inr hj; intro v6 w6 hown6 hgrow6 hwhere6; have T6 := HT5.out.grown hgrow6 HT5.out.size (fun j hj => (HO5.out.lt j hj).1); have c86 := (T6.cell (p := ⟨g, 8, none⟩) hgw).trans c8; obtain ⟨P6, c6, hv6, _⟩ := hown6.shape; rw [HL2.out] at hv6; subst hv6; have HO6 := Lib.hid hown6; have HT6 := Lib.hid T6; have HK6 := Lib.hid (HDR.out _ T6); clear hown6 hgrow6 hwhere6 T6)
            | (refine app_rv Try.underlying53 Try.infoLt rfl (by decide) (by decide) _ rfl (.tmp 64) (.tmp 70) rfl w.heap.size (LateZ Xl w) (.slice P6 (k + 1) c6) (L1 ++ [ltV (p, m)]) rfl ?_ (fun j => ¬ Xl j) _ _ _ L2 rfl ?_ ?_ ?_ ?_ ?_ ?_; exact HO6.out; exact HK6.out; rw [HL2.out]; omega; exact HT6.out.size; exact fun j _ hz hx => hz (.inl hx); exact fun j hj hx => (by have h1 := (HO6.out.lt j hj).1; have h2 := HXL.out j hx; omega); intro v7 w7 hown7 hgrow7 hwhere7; have T7 := HT6.out.grown hgrow7 HT6.out.size (fun j hj => (HO6.out.lt j hj).1); have c87 := (T7.cell (p := ⟨g, 8, none⟩) hgw).trans c8; have f87 := (frozen_of_block (T7.block g hgw) 8).trans f8; have HEE := Lib.hid (HE.out w7 v7 _ T7 (by rw [HLL.out]; exact hown7)); obtain ⟨P7, c7, hv7, _⟩ := hown7.shape; rw [HL3.out] at hv7; subst hv7; clear hown7 hgrow7 hwhere7))
          go_wp2_with (fail)
          go_end0
          rw [HKQ.out]
          exact ⟨rfl, _, HEE.out⟩
      · have hkl : ¬ k < s.late.length := by have := HN.out; omega
        have d1 : ¬ ((k : Int) < (N : Int)) := by omega
        have d1' : ¬ k < N := hkN
        have hq1 := HEND.out (by rw [hatk]; exact hkl)
        rw [if_neg (by rw [hq1]; simp)] at HKP2
        have HKQ : Hid (ltKeep s.late p m = s.late.take k ++ [(p, m)] ++ s.late.drop k) := HKP2
        clear hq1 HKP2 hge hgo hatk hkl
        have hkn : k ≤ N := hk
        obtain ⟨hh1, hh2, rv1⟩ := cut_hi_l HRV.out k (by have := HN.out; omega)
        obtain ⟨A2, hd1, hd2, rv2⟩ := cut_lo_l HRV.out k (by have := HN.out; omega)
        rw [HN.out] at hh1 hh2 hd1 hd2 rv2
        have hll : s.late.map ltV = (s.late.map ltV).take k ++ (s.late.map ltV).drop k := (List.take_append_drop _ _).symm
        have hLL : (s.late.take k ++ [(p, m)] ++ s.late.drop k).map ltV = (s.late.map ltV).take k ++ [ltV (p, m)] ++ (s.late.map ltV).drop k := by simp [List.map_take, List.map_drop]
        have hL1 : ((s.late.map ltV).take k).length = k := by have := HN.out; simp; omega
        have hL2 : ((s.late.map ltV).drop k).length = N - k := by have := HN.out; simp; omega
        generalize (s.late.map ltV).take k = L1 at *
        generalize (s.late.map ltV).drop k = L2 at *
        have HL1 := Lib.hid hL1
        have HL2 : Hid ((L1 ++ [ltV (p, m)]).length = k + 1) := by show _ = _; simp [hL1]
        have HL3 : Hid ((L1 ++ [ltV (p, m)] ++ L2).length = k + 1 + (N - k)) := by show _ = _; simp [hL1, hL2]; omega
        have HLL := Lib.hid hLL
        have HDR := Lib.hid (fun W (U : Below w.heap.size w W) => rv2.below U)
        clear hll hLL hL1 hL2 rv2
        have TE := (Below.refl w.heap.size w).alloc (Nat.le_refl _) (.cells #[] 62)
        have c8e := (TE.cell (p := ⟨g, 8, none⟩) hgw).trans c8
        have HE0 := Lib.hid (empty_rowl w (LateZ Xl w))
        have HTE := Lib.hid TE
        have HK1 := Lib.hid (rv1.below TE)
        clear TE rv1
        go_wp2_with (at_builtin; first
          | (refine app_rv Try.underlying53 Try.infoLt rfl (by decide) (by decide) _ rfl (.tmp 48) (.tmp 54) rfl w.heap.size (LateZ Xl w) (.slice (some ⟨w.heap.size, 0, none⟩) 0 0) [] rfl ?_ (fun k => ¬ Xl k) _ _ _ L1 rfl ?_ ?_ ?_ ?_ ?_ ?_; exact HE0.out; exact HK1.out; simp; omega; exact HTE.out.size; exact fun k _ hz hx => hz (.inl hx); exact (fun k hk => (by cases hk; exact fun hx => absurd (HXL.out _ hx) (Nat.lt_irrefl _))); intro v3 w3 hown3 hgrow3 hwhere3; have T3 := HTE.out.grown hgrow3 HTE.out.size (fun k hk => by cases hk; exact Nat.le_refl _); simp only [List.nil_append] at hown3; obtain ⟨P3, c3, hv3, _⟩ := hown3.shape; rw [HL1.out] at hv3; subst hv3; have HO3 := Lib.hid hown3; have HT3 := Lib.hid T3; clear hown3 hgrow3 hwhere3 T3))
        refine (HCP.out _ HT3.out).mono ?_
        rintro e w4 ⟨v4, rfl, hw4, U4⟩
        obtain ⟨A4, cA, rfl⟩ := own_shape hw4
        rw [HML.out] at hw4
        have T4 := nxt HT3.out U4
        have T5 := T4.alloc T4.size (.cells #[.int .i64 (p : Int), .slice A4 n cA] 62)
        have hs3 := HT3.out.size
        have HLIT : Hid (RV (w4.alloc (.cells #[.int .i64 (p : Int), .slice A4 n cA] 62)) (fun j => LateZ Xl w j ∨ (Value.slice P3 k c3).ownBlock = some j) 2 (some ⟨w4.heap.size, 0, none⟩) 1 1 [ltV (p, m)]) := lit_late hw4 HML.out p (fun j hj hz => by
          rcases hz with hz | hz
          · exact hz (.inr (by omega))
          · have := (HO3.out.lt j hz).2; omega) U4.size
        have HO5 := Lib.hid ((HO3.out.below U4).below ((Below.refl _ w4).alloc (Nat.le_refl _) (.cells #[.int .i64 (p : Int), .slice A4 n cA] 62)))
        have HT5 := Lib.hid T5
        clear hw4 U4 T4 T5 hs3
        go_wp2_with (at_builtin; first
          | (refine app_rv Try.underlying53 Try.infoLt rfl (by decide) (by decide) _ rfl (.tmp 56) (.tmp 61) rfl w.heap.size (LateZ Xl w) (.slice P3 k c3) L1 rfl ?_ (fun j => LateZ Xl w j ∨ (Value.slice P3 k c3).ownBlock = some j) _ _ _ [ltV (p, m)] rfl ?_ ?_ ?_ ?_ ?_ ?_; exact HO5.out; exact HLIT.out; rw [HL1.out]; omega; exact HT5.out.size; exact fun j _ hz => .inl hz; exact fun j hj => .inr hj; intro v6 w6 hown6 hgrow6 hwhere6; have T6 := HT5.out.grown hgrow6 HT5.out.size (fun j hj => (HO5.out.lt j hj).1); have c86 := (T6.cell (p := ⟨g, 8, none⟩) hgw).trans c8; obtain ⟨P6, c6, hv6, _⟩ := hown6.shape; rw [HL2.out] at hv6; subst hv6; have HO6 := Lib.hid hown6; have HT6 := Lib.hid T6; have HK6 := Lib.hid (HDR.out _ T6); clear hown6 hgrow6 hwhere6 T6)
          | (refine app_rv Try.underlying53 Try.infoLt rfl (by decide) (by decide) _ rfl (.tmp 64) (.tmp 70) rfl w.heap.size (LateZ Xl w) (.slice P6 (k + 1) c6) (L1 ++ [ltV (p, m)]) rfl ?_ (fun j => ¬ Xl j) _ _ _ L2 rfl ?_ ?_ ?_ ?_ ?_ ?_; exact HO6.out; exact HK6.out; rw [HL2.out]; omega; exact HT6.out.size; exact fun j _ hz hx => hz (.inl hx); exact fun j hj hx => (by have h1 := (HO6.out.lt j hj).1; have h2 := HXL.out j hx; omega); intro v7 w7 hown7 hgrow7 hwhere7; have T7 := HT6.out.grown hgrow7 HT6.out.size (fun j hj => (HO6.out.lt j hj).1); have c87 := (T7.cell (p := ⟨g, 8, none⟩) hgw).trans c8; have f87 := (frozen_of_block (T7.block g hgw) 8).trans f8; have HEE := Lib.hid (HE.out w7 v7 _ T7 (by rw [HLL.out]; exact hown7)); obtain ⟨P7, c7, hv7, _⟩ := hown7.shape; rw [HL3.out] at hv7; subst hv7; clear hown7 hgrow7 hwhere7))
        go_wp2_with (fail)
        go_end0
        rw [HKQ.out]
        exact ⟨rfl, _, HEE.out⟩
end Go.Proofs.Ytpidbgnlehikeaa
