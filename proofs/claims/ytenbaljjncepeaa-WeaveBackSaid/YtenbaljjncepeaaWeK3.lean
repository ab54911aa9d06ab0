/- What the landed package weave answers: order, Do, Undo; the whole package by its contracts. -/
import Derived.Test.YtenbaljjncepeaaWeK2
namespace Go.Proofs.Ytenbaljjncepeaa
open Go.RowKit
set_option maxRecDepth 20000

set_option maxHeartbeats 1000000 in
theorem order11_no (n rows : Int) (w : World) (h : ¬ (0 ≤ n ∧ n ≤ 65536 ∧ 1 ≤ rows ∧ rows ≤ 64)) :
    Calls Try.prog 19 #[.int .i64 n, .int .i64 rows] w fun e w' => e = .returned (.slice none 0 0) ∧ w = w' := by
  have HRI := may11_any n rows w
  rw [decide_eq_false h] at HRI
  have HRI := Lib.hid HRI
  clear h
  go_enter Try.func19, Try.ntmps19
  go_wp2_with (fail)
  refine HRI.out.mono ?_
  rintro e w1 ⟨rfl, rfl⟩
  go_wp2
  go_ret
  exact ⟨rfl, rfl⟩
set_option maxHeartbeats 4000000 in
theorem order11_any (n rows : Nat) (w : World) (hn : n ≤ 65536) (hr : 1 ≤ rows) (hr2 : rows ≤ 64) :
    Calls Try.prog 19 #[.int .i64 (n : Int), .int .i64 (rows : Int)] w (GivesI w (orderW n rows)) := by
  have HRI := may11_any (n : Int) (rows : Int) w
  rw [decide_eq_true (show 0 ≤ (n : Int) ∧ (n : Int) ≤ 65536 ∧ 1 ≤ (rows : Int) ∧ (rows : Int) ≤ 64 by omega)] at HRI
  have HRI := Lib.hid HRI
  have HAC := Lib.hid (across11_any n rows w hn hr hr2)
  have hC3 : colsN n rows ≤ 65536 := by have := colsN_le n rows hr; omega
  have HO : Hid (orderW n rows = orderK n rows (colsN n rows) (colsN n rows)) := by show _ = _; unfold orderW; rfl
  generalize colsN n rows = c at *
  obtain ⟨i0, hi, hz0, hz1, hz2⟩ := info_parts Try.infoI
  go_enter Try.func19, Try.ntmps19
  go_wp2_with (fail)
  refine HRI.out.mono ?_
  rintro e w1 ⟨rfl, rfl⟩
  go_wp2_with (fail)
  refine HAC.out.mono ?_
  rintro e w2 ⟨rfl, rfl⟩
  go_wp2_with (at_make; refine wpList_make_own _ rfl _ _ 35 rfl w.heap.size 3 i0 (.int .i64 0) 1 Try.underlying35 hi hz0 hz1 .i64 .i64 _ n rfl rfl (by omega) (by rw [hz2]; omega) (by unfold maxLen; omega) (Nat.le_refl _) ?_; intro w1 hown hgrow; have HON := Lib.hid (And.intro hown hgrow); clear hown hgrow)
  have HOI : Hid (OwnI w1 w.heap.size (.slice (some ⟨w.heap.size, 0, none⟩) 0 n) [] ∧ Below w.heap.size w w1) := ⟨HON.out.1, (Below.refl _ _).grown HON.out.2 (Nat.le_refl _) (by simp)⟩
  clear HON
  go_loopw [6, 20] (fun v i wr => ∃ k : Nat, k ≤ c ∧ i = .int .i64 (k : Int) ∧ OwnI wr w.heap.size v (orderK n rows c k) ∧ Below w.heap.size w wr) (fun _ i _ => c - (intOf i).toNat)
  case atStart => exact ⟨0, Nat.zero_le _, rfl, HOI.out.1, HOI.out.2⟩
  case round =>
    clear HOI
    obtain ⟨k, hk, rfl, hown, hbel⟩ := hrel
    by_cases hkc : k < c
    · have d2 : decide ((k : Int) < (c : Int)) = true := by simp; omega
      have hkl := orderK_le n rows c k
      have hkb : k * rows ≤ 4194304 := Nat.mul_le_mul (show k ≤ 65536 by omega) hr2
      have hol : (orderK n rows c k).length ≤ 4194304 := by omega
      have HS := Lib.hid (orderK_succ n rows c k)
      have HON := Lib.hid hown
      clear hown hkl hkb
      generalize hcur : orderK n rows c k = cur at *
      have HON0 : Hid (OwnI wr w.heap.size u6 (cur ++ colL n c k 0)) := by
        have e : cur ++ colL n c k 0 = cur := List.append_nil _
        show OwnI _ _ _ _
        rw [e]
        exact HON.out
      go_wp2_with (fail)
      go_loopw [6, 24] (fun v i w2 => ∃ r : Nat, r ≤ rows ∧ i = .int .i64 (r : Int) ∧ OwnI w2 w.heap.size v (cur ++ colL n c k r) ∧ Below w.heap.size w w2) (fun _ i _ => rows - (intOf i).toNat)
      case atStart => exact ⟨0, Nat.zero_le _, rfl, HON0.out, hbel⟩
      case round =>
        obtain ⟨r, hrr, rfl, hown, hbel2⟩ := hrel
        by_cases hlr : r < rows
        · have d3 : decide ((r : Int) < (rows : Int)) = true := by simp; omega
          obtain ⟨q, hq⟩ : ∃ q, r * c = q := ⟨_, rfl⟩
          have eqq : (r : Int) * (c : Int) = (q : Int) := by rw [← hq]; push_cast; rfl
          have hqb : q ≤ 4194304 := by rw [← hq]; exact Nat.mul_le_mul (show r ≤ 64 by omega) (show c ≤ 65536 by omega)
          have hcl := colL_le n c k r
          by_cases hin : q + k < n
          · have hcs := colL_in hq hin
            obtain ⟨z, hz⟩ : ∃ z, q + k = z := ⟨_, rfl⟩
            have ez : (q : Int) + (k : Int) = (z : Int) := by rw [← hz]; push_cast; rfl
            rw [hz] at hcs
            have HCS : Hid (cur ++ colL n c k (r + 1) = (cur ++ colL n c k r) ++ [z]) := by show _ = _; rw [hcs, List.append_assoc]
            have hzn : z < n := by rw [← hz]; exact hin
            have hzb : z ≤ 9000000 := Nat.le_trans (Nat.le_of_lt hzn) (Nat.le_trans hn (by decide))
            have d4 : decide ((z : Int) < (n : Int)) = true := by simp; omega
            clear hcs hz hq
            have hcurl : (cur ++ colL n c k r).length ≤ 9000000 := by rw [List.length_append]; exact Nat.le_trans (Nat.add_le_add hol (Nat.le_trans hcl (Nat.le_trans hrr hr2))) (by decide)
            generalize cur ++ colL n c k r = cc at *
            have HOO := Lib.hid hown
            have hsz := hbel2.size
            clear hown
            go_wp2_with ((with_reducible refine app_i _ rfl (.tmp 35) (.tmp 37) rfl w.heap.size u6 cc rfl ?_ wr.heap.size z rfl ?_ ?_ ?_ ?_); (exact HOO.out.below ((Below.refl _ _).alloc (Nat.le_refl _) _)); (exact heap_alloc_new wr _); (omega); (simp; omega); intro v3 w3 hown3 hgrow3 hwhere3; have HO3 := Lib.hid (And.intro hown3 hgrow3); clear hown3 hgrow3 hwhere3)
            go_roundw
            case rel =>
              refine ⟨r + 1, by omega, by go_num, ?_, ?_⟩
              · rw [HCS.out]
                exact HO3.out.1
              · exact (hbel2.alloc hsz _).grown HO3.out.2 (by simp; omega) (fun g hg => (HOO.out.lt g hg).1)
            case measure => simp [intOf]; omega
          · have hcs := colL_out hq hin
            obtain ⟨z, hz⟩ : ∃ z, q + k = z := ⟨_, rfl⟩
            have ez : (q : Int) + (k : Int) = (z : Int) := by rw [← hz]; push_cast; rfl
            have hzn : n ≤ z := by rw [← hz]; exact Nat.le_of_not_lt hin
            have hzb : z ≤ 9000000 := by rw [← hz]; exact Nat.le_trans (Nat.add_le_add hqb (Nat.le_trans hk hC3)) (by decide)
            have d4 : decide ((z : Int) < (n : Int)) = false := by simp; omega
            have HCS := Lib.hid hcs
            have HOO := Lib.hid hown
            clear hcs hz hq hown hin hcl
            go_wp2
            go_roundw
            case rel => exact ⟨r + 1, by omega, by go_num, by rw [HCS.out]; exact HOO.out, hbel2⟩
            case measure => simp [intOf]; omega
        · have d3 : decide ((r : Int) < (rows : Int)) = false := by simp; omega
          obtain rfl : r = rows := by omega
          rw [← HS.out] at hown
          have HOO := Lib.hid hown
          clear hown
          go_wp2
          go_roundw
          case rel => exact ⟨k + 1, by omega, by go_num, HOO.out, hbel2⟩
          case measure => simp [intOf]; omega
    · have d2 : decide ((k : Int) < (c : Int)) = false := by simp; omega
      obtain rfl : k = c := by omega
      rw [← HO.out] at hown
      have HOO := Lib.hid hown
      clear hown
      go_wp2
      go_ret
      exact ⟨_, rfl, HOO.out, hbel⟩
theorem zeros_row (n : Nat) : bvs (textW (List.replicate (8 * n) 0)) = List.replicate n (.int .u8 0) := by
  rw [text_zeros]
  unfold bvs bv
  rw [List.map_replicate]
  rfl
set_option maxHeartbeats 4000000 in
theorem do11_any (A : Option Addr) (n c : Nat) (b : List UInt8) (rows : Int) (w : World) (hB : Bys w A n c b) (hn : n ≤ 140737488355328) :
    Calls Try.prog 11 #[.slice A n c, .int .i64 rows] w (GivesB w (weaveB b rows)) := by
  have hl := hB.len
  have hnc := hB.le
  have hcm := hB.cap
  obtain ⟨i0, hi, hz0, hz1, hz2⟩ := info_parts Try.info5
  by_cases hok : okW n rows
  · have hok2 := hok
    unfold okW at hok2
    obtain ⟨R, rfl⟩ := Int.eq_ofNat_of_zero_le (show 0 ≤ rows by omega)
    have HW : Hid (weaveB b (R : Int) = textW (permL (orderW (8 * n) R) (bitsW b))) := by show _ = _; unfold weaveB; rw [hl, if_pos hok, Int.toNat_natCast]
    have hn8 : n ≤ 8192 := by omega
    have HOR := Lib.hid (order11_any (8 * n) R w (by omega) (by omega) (by omega))
    have HBT := Lib.hid (fun (q : Nat) (W : World) (hW : Below w.heap.size w W) (hq : q < 8 * n) => bit11_any A n c b q W (hB.below hW) hn8 hq)
    have hol := order_len (8 * n) R (by omega)
    have hmo : ∀ x, x ∈ orderW (8 * n) R → x < 8 * n := fun x hx => (mem_order (by omega)).1 hx
    have h1 := bitsW_bit b
    obtain ⟨M, hM⟩ : ∃ M, 8 * n = M := ⟨_, rfl⟩
    have eM : 8 * (n : Int) = (M : Int) := by omega
    have eMn : (M : Int) / 8 = (n : Int) := by omega
    have hM6 : M ≤ 65536 := by omega
    rw [hM] at HW HOR hol hmo HBT
    have HMM := Lib.hid hM
    have HMO := Lib.hid hmo
    have HLN := Lib.hid hol
    have HB1 := Lib.hid h1
    clear hok hok2 hol hmo hM hB h1
    generalize bitsW b = x at *
    generalize orderW M R = o at *
    go_enter Try.func11, Try.ntmps11
    go_wp2_with (fail)
    refine HOR.out.mono ?_
    rintro e w2 ⟨v2, rfl, hO2, T2⟩
    obtain ⟨A2, c2, hv2, hV2⟩ := hO2.shape
    rw [HLN.out] at hv2 hV2
    subst hv2
    have hz3 := T2.size
    have k2 := hV2.le
    have m2 := hV2.cap
    have HV2 := Lib.hid hV2.bit
    clear hO2 hV2
    go_wp2_with (at_make; refine wpList_make_full _ rfl _ _ 26 rfl w2.heap.size 5 i0 (.int .u8 0) 1 Try.underlying26 hi hz0 hz1 .i64 .i64 _ _ n rfl rfl rfl rfl (by rw [hz2]; omega) (by unfold maxLen; omega) (Nat.le_refl _) ?_; intro w3 hown hgrow; have HON := Lib.hid (And.intro hown hgrow); clear hown hgrow)
    go_loopw [20] (fun i wr => ∃ j : Nat, j ≤ M ∧ i = .int .i64 (j : Int) ∧ OwnT wr w2.heap.size w2.heap.size n (doK o x j) ∧ Below w2.heap.size w2 wr) (fun i _ => M - (intOf i).toNat)
    case atStart =>
      refine ⟨0, Nat.zero_le _, rfl, ?_, (Below.refl _ _).grown HON.out.2 (Nat.le_refl _) (by simp)⟩
      rw [doK_zero, HLN.out, ← HMM.out]
      show World.ownsRow _ _ _ _ _ _ _
      rw [zeros_row]
      simpa [toList_madeCells_one, Value.cells] using HON.out.1
    case round =>
      obtain ⟨j, hj, rfl, hown, hbel⟩ := hrel
      by_cases hlt : j < M
      · have d1 : decide ((j : Int) < (M : Int)) = true := by simp; omega
        obtain ⟨g3, o3, rfl, hg3, hc3⟩ := HV2.out (by omega)
        have hjo : j < o.length := by rw [HLN.out]; exact hlt
        have q3 := (hbel.cell (p := ⟨g3, o3 + j, none⟩) hg3).trans (hc3 j hjo)
        have hoj := HMO.out o[j] (List.getElem_mem hjo)
        have HST := Lib.hid (doK_succ o x j hjo)
        generalize o[j] = p at *
        have HB2 := Lib.hid (HBT.out p wr (nxt T2 hbel) hoj)
        have hx1 : x.getD p 0 < 2 := by
          rw [List.getD_eq_getElem?_getD]
          cases hk : x[p]? with
          | none => simp
          | some z => have := HB1.out z (List.mem_of_getElem? hk); simp; omega
        have HPT := Lib.hid (put11_any w2.heap.size w2.heap.size n (doK o x j) j (x.getD p 0) wr hown (Nat.le_refl _) (by rw [doK_len o x j (by omega), HLN.out, HMM.out]) (doK_bit o x HB1.out j) hn8 (by rw [HMM.out]; exact hlt) hx1 (doK_none o x j hjo))
        generalize x.getD p 0 = z at *
        clear hc3 hown hjo hoj
        go_wp2_with (fail)
        refine HB2.out.mono ?_
        rintro e w4 ⟨rfl, rfl⟩
        go_wp2_with (fail)
        refine HPT.out.mono ?_
        rintro e w5 ⟨rfl, hown5, T5⟩
        have HO5 := Lib.hid (And.intro hown5 T5)
        clear hown5 T5
        go_wp2
        go_roundw
        case rel =>
          refine ⟨j + 1, by omega, by go_num, ?_, hbel.trans HO5.out.2⟩
          rw [HST.out]
          exact HO5.out.1
        case measure => simp [intOf]; omega
      · have d1 : decide ((j : Int) < (M : Int)) = false := by simp; omega
        obtain rfl : j = M := by omega
        have e : doK o x j = permL o x := by rw [← HLN.out]; exact doK_end o x
        rw [e] at hown
        have hown2 : wr.ownsRow w2.heap.size 5 1 (.slice (some ⟨w2.heap.size, 0, none⟩) n n) n (bvs (textW (permL o x))) := hown
        rw [← HW.out] at hown2
        have HBB := Lib.hid (Bys.of_own hown2)
        have T6 := nxt T2 hbel
        clear hown hown2 e
        go_wp2
        go_ret
        exact ⟨_, _, _, rfl, HBB.out, T6⟩
  · have HW : Hid (weaveB b rows = []) := by show _ = _; unfold weaveB; rw [hl, if_neg hok]
    have HOR := Lib.hid (order11_no (8 * (n : Int)) rows w (by unfold okW at hok; omega))
    clear hB hok
    go_enter Try.func11, Try.ntmps11
    go_wp2_with (fail)
    refine HOR.out.mono ?_
    rintro e w1 ⟨rfl, rfl⟩
    go_wp2_with (at_make; refine wpList_make_full _ rfl _ _ 26 rfl w.heap.size 5 i0 (.int .u8 0) 1 Try.underlying26 hi hz0 hz1 .i64 .i64 _ _ 0 rfl rfl rfl rfl (by rw [hz2]; omega) (by unfold maxLen; omega) (Nat.le_refl _) ?_; intro w3 hown hgrow; have HON := Lib.hid (And.intro hown hgrow); clear hown hgrow)
    have HBE : Hid (Bys w3 (some ⟨w.heap.size, 0, none⟩) 0 0 (weaveB b rows) ∧ Below w.heap.size w w3) := ⟨by rw [HW.out]; exact Bys.empty _ _ _ (by unfold maxLen; omega), (Below.refl _ _).grown HON.out.2 (Nat.le_refl _) (by simp)⟩
    clear HON
    go_loopw [20] (fun i wr => i = .int .i64 0 ∧ w3 = wr) (fun _ _ => 0)
    case atStart => exact ⟨rfl, rfl⟩
    case round =>
      obtain ⟨rfl, rfl⟩ := hrel
      go_wp2
      go_ret
      exact ⟨_, _, _, rfl, HBE.out.1, HBE.out.2⟩
set_option maxHeartbeats 4000000 in
theorem undo11_any (A : Option Addr) (n c : Nat) (b : List UInt8) (rows : Int) (w : World) (hB : Bys w A n c b) (hn : n ≤ 140737488355328) :
    Calls Try.prog 13 #[.slice A n c, .int .i64 rows] w (GivesB w (unweaveB b rows)) := by
  have hl := hB.len
  have hnc := hB.le
  have hcm := hB.cap
  obtain ⟨i0, hi, hz0, hz1, hz2⟩ := info_parts Try.info5
  by_cases hok : okW n rows
  · have hok2 := hok
    unfold okW at hok2
    obtain ⟨R, rfl⟩ := Int.eq_ofNat_of_zero_le (show 0 ≤ rows by omega)
    have HW : Hid (unweaveB b (R : Int) = textW (unpermK (orderW (8 * n) R) (bitsW b) (8 * n))) := by show _ = _; unfold unweaveB; rw [hl, if_pos hok, Int.toNat_natCast]
    have hn8 : n ≤ 8192 := by omega
    have HOR := Lib.hid (order11_any (8 * n) R w (by omega) (by omega) (by omega))
    have HBT := Lib.hid (fun (q : Nat) (W : World) (hW : Below w.heap.size w W) (hq : q < 8 * n) => bit11_any A n c b q W (hB.below hW) hn8 hq)
    have hol := order_len (8 * n) R (by omega)
    have hmo : ∀ x, x ∈ orderW (8 * n) R → x < 8 * n := fun x hx => (mem_order (by omega)).1 hx
    have h1 := bitsW_bit b
    have hxl : (bitsW b).length = 8 * n := by rw [bitsW_len, hl]
    have hnd := order_nodup (8 * n) R
    obtain ⟨M, hM⟩ : ∃ M, 8 * n = M := ⟨_, rfl⟩
    have eM : 8 * (n : Int) = (M : Int) := by omega
    have eMn : (M : Int) / 8 = (n : Int) := by omega
    have hM6 : M ≤ 65536 := by omega
    rw [hM] at HW HOR hol hmo HBT hxl hnd
    have HXL := Lib.hid hxl
    have HND := Lib.hid hnd
    clear hxl hnd
    have HMM := Lib.hid hM
    have HMO := Lib.hid hmo
    have HLN := Lib.hid hol
    have HB1 := Lib.hid h1
    clear hok hok2 hol hmo hM hB h1
    generalize bitsW b = x at *
    generalize orderW M R = o at *
    go_enter Try.func13, Try.ntmps13
    go_wp2_with (fail)
    refine HOR.out.mono ?_
    rintro e w2 ⟨v2, rfl, hO2, T2⟩
    obtain ⟨A2, c2, hv2, hV2⟩ := hO2.shape
    rw [HLN.out] at hv2 hV2
    subst hv2
    have hz3 := T2.size
    have k2 := hV2.le
    have m2 := hV2.cap
    have HV2 := Lib.hid hV2.bit
    clear hO2 hV2
    go_wp2_with (at_make; refine wpList_make_full _ rfl _ _ 26 rfl w2.heap.size 5 i0 (.int .u8 0) 1 Try.underlying26 hi hz0 hz1 .i64 .i64 _ _ n rfl rfl rfl rfl (by rw [hz2]; omega) (by unfold maxLen; omega) (Nat.le_refl _) ?_; intro w3 hown hgrow; have HON := Lib.hid (And.intro hown hgrow); clear hown hgrow)
    go_loopw [20] (fun i wr => ∃ j : Nat, j ≤ M ∧ i = .int .i64 (j : Int) ∧ OwnT wr w2.heap.size w2.heap.size n (unpermK o x j) ∧ Below w2.heap.size w2 wr) (fun i _ => M - (intOf i).toNat)
    case atStart =>
      refine ⟨0, Nat.zero_le _, rfl, ?_, (Below.refl _ _).grown HON.out.2 (Nat.le_refl _) (by simp)⟩
      simp only [unpermK]
      rw [HXL.out, ← HMM.out]
      show World.ownsRow _ _ _ _ _ _ _
      rw [zeros_row]
      simpa [toList_madeCells_one, Value.cells] using HON.out.1
    case round =>
      obtain ⟨j, hj, rfl, hown, hbel⟩ := hrel
      by_cases hlt : j < M
      · have d1 : decide ((j : Int) < (M : Int)) = true := by simp; omega
        obtain ⟨g3, o3, rfl, hg3, hc3⟩ := HV2.out (by omega)
        have hjo : j < o.length := by rw [HLN.out]; exact hlt
        have q3 := (hbel.cell (p := ⟨g3, o3 + j, none⟩) hg3).trans (hc3 j hjo)
        have hoj := HMO.out o[j] (List.getElem_mem hjo)
        have hst : unpermK o x (j + 1) = (unpermK o x j).set o[j] (x.getD j 0) := by
          show (unpermK o x j).set (o.getD j 0) (x.getD j 0) = _
          rw [List.getD_eq_getElem?_getD (l := o), List.getElem?_eq_getElem hjo]
          rfl
        have HST := Lib.hid hst
        have hnone := unpermK_none o x HND.out j j hjo (Nat.le_refl _)
        generalize o[j] = p at *
        have HB2 := Lib.hid (HBT.out j wr (nxt T2 hbel) hlt)
        have hx1 : x.getD j 0 < 2 := by
          rw [List.getD_eq_getElem?_getD]
          cases hk : x[j]? with
          | none => simp
          | some z => have := HB1.out z (List.mem_of_getElem? hk); simp; omega
        have HPT := Lib.hid (put11_any w2.heap.size w2.heap.size n (unpermK o x j) p (x.getD j 0) wr hown (Nat.le_refl _) (by rw [unpermK_len, HXL.out, HMM.out]) (unpermK_bit o x HB1.out j) hn8 (by rw [HMM.out]; exact hoj) hx1 hnone)
        generalize x.getD j 0 = z at *
        clear hst hnone
        clear hc3 hown hjo hoj
        go_wp2_with (fail)
        refine HB2.out.mono ?_
        rintro e w4 ⟨rfl, rfl⟩
        go_wp2_with (fail)
        refine HPT.out.mono ?_
        rintro e w5 ⟨rfl, hown5, T5⟩
        have HO5 := Lib.hid (And.intro hown5 T5)
        clear hown5 T5
        go_wp2
        go_roundw
        case rel =>
          refine ⟨j + 1, by omega, by go_num, ?_, hbel.trans HO5.out.2⟩
          rw [HST.out]
          exact HO5.out.1
        case measure => simp [intOf]; omega
      · have d1 : decide ((j : Int) < (M : Int)) = false := by simp; omega
        obtain rfl : j = M := by omega
        have hown2 : wr.ownsRow w2.heap.size 5 1 (.slice (some ⟨w2.heap.size, 0, none⟩) n n) n (bvs (textW (unpermK o x j))) := hown
        rw [← HW.out] at hown2
        have HBB := Lib.hid (Bys.of_own hown2)
        have T6 := nxt T2 hbel
        clear hown hown2
        go_wp2
        go_ret
        exact ⟨_, _, _, rfl, HBB.out, T6⟩
  · have HW : Hid (unweaveB b rows = []) := by show _ = _; unfold unweaveB; rw [hl, if_neg hok]
    have HOR := Lib.hid (order11_no (8 * (n : Int)) rows w (by unfold okW at hok; omega))
    clear hB hok
    go_enter Try.func13, Try.ntmps13
    go_wp2_with (fail)
    refine HOR.out.mono ?_
    rintro e w1 ⟨rfl, rfl⟩
    go_wp2_with (at_make; refine wpList_make_full _ rfl _ _ 26 rfl w.heap.size 5 i0 (.int .u8 0) 1 Try.underlying26 hi hz0 hz1 .i64 .i64 _ _ 0 rfl rfl rfl rfl (by rw [hz2]; omega) (by unfold maxLen; omega) (Nat.le_refl _) ?_; intro w3 hown hgrow; have HON := Lib.hid (And.intro hown hgrow); clear hown hgrow)
    have HBE : Hid (Bys w3 (some ⟨w.heap.size, 0, none⟩) 0 0 (unweaveB b rows) ∧ Below w.heap.size w w3) := ⟨by rw [HW.out]; exact Bys.empty _ _ _ (by unfold maxLen; omega), (Below.refl _ _).grown HON.out.2 (Nat.le_refl _) (by simp)⟩
    clear HON
    go_loopw [20] (fun i wr => i = .int .i64 0 ∧ w3 = wr) (fun _ _ => 0)
    case atStart => exact ⟨rfl, rfl⟩
    case round =>
      obtain ⟨rfl, rfl⟩ := hrel
      go_wp2
      go_ret
      exact ⟨_, _, _, rfl, HBE.out.1, HBE.out.2⟩
theorem weC : WeC where
  place := fun n rows at_ w _ _ _ => place11_any n rows at_ w
  do_ := fun A n c b rows w hB hn _ => do11_any A n c b rows w hB hn
  undo := fun A n c b rows w hB hn _ => undo11_any A n c b rows w hB hn
end Go.Proofs.Ytenbaljjncepeaa
