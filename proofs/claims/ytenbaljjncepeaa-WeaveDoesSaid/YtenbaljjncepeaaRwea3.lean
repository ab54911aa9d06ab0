/- What kedgeref11's Place, Do and Undo answer. -/
import Derived.Test.YtenbaljjncepeaaRwea2
import Derived.StillTailTactics
namespace Go.Proofs.Ytenbaljjncepeaa
open Go.RowKit
set_option maxRecDepth 20000

/-- what Place answers -/
def placeR (n rows at_ : Int) : Int × Bool := if (0 ≤ n ∧ n ≤ 65536 ∧ 1 ≤ rows ∧ rows ≤ 64) ∧ 0 ≤ at_ ∧ at_ < n then ((placeN n.toNat rows.toNat at_.toNat : Int), true) else (0, false)
/-- a row of numbers, as it is read in later worlds -/
theorem OwnI.vals {w : World} {B : Nat} {A : Option Addr} {c n : Nat} {l : List Nat} (h : OwnI w B (.slice A n c) l) : Vals w A n c (ivs l) ∧ l.length = n := by
  obtain ⟨A', c', hv, hV⟩ := h.shape
  injection hv with h1 h2 h3
  subst h1; subst h2; subst h3
  exact ⟨hV, rfl⟩
set_option maxHeartbeats 4000000 in
theorem rplace_any (n rows at_ : Int) (w : World) :
    Calls Try.prog 9 #[.int .i64 n, .int .i64 rows, .int .i64 at_] w fun e w' => e = .returned (.tuple #[.int .i64 (placeR n rows at_).1, .bool (placeR n rows at_).2]) ∧ Below w.heap.size w w' := by
  have HRI := Lib.hid (right_any n rows w)
  by_cases hok : (0 ≤ n ∧ n ≤ 65536 ∧ 1 ≤ rows ∧ rows ≤ 64) ∧ 0 ≤ at_ ∧ at_ < n
  · obtain ⟨hR, ha0, han⟩ := hok
    obtain ⟨N, rfl⟩ := Int.eq_ofNat_of_zero_le hR.1
    obtain ⟨R, rfl⟩ := Int.eq_ofNat_of_zero_le (show 0 ≤ rows by omega)
    obtain ⟨a, rfl⟩ := Int.eq_ofNat_of_zero_le ha0
    have HP : Hid (placeR (N : Int) (R : Int) (a : Int) = ((placeN N R a : Int), true)) := by show _ = _; unfold placeR; rw [if_pos ⟨hR, ha0, han⟩, Int.toNat_natCast, Int.toNat_natCast, Int.toNat_natCast]
    rw [decide_eq_true hR] at HRI
    have HO := Lib.hid (order_any N R w (by omega) (by omega) (by omega))
    have hol := order_len N R (by omega)
    have hpl : (orderW N R)[a]? = some (placeN N R a) := by unfold placeN; rw [List.getD_eq_getElem?_getD, List.getElem?_eq_getElem (by omega)]; rfl
    have HPL := Lib.hid hpl
    have HOL := Lib.hid hol
    have d1 : decide ((a : Int) < 0) = false := by simp
    have d2 : decide ((N : Int) ≤ (a : Int)) = false := by simp; omega
    have haN : a < N := by omega
    have hN6 : N ≤ 65536 := by omega
    clear hR ha0 han hol hpl
    go_enter Try.func9, Try.ntmps9
    go_wp2_with (fail)
    refine HRI.out.mono ?_
    rintro e w1 ⟨rfl, rfl⟩
    go_wp2_with (fail)
    refine HO.out.mono ?_
    rintro e w2 ⟨v, rfl, hown, T2⟩
    obtain ⟨A, c, rfl, hV⟩ := hown.shape
    rw [HOL.out] at hV ⊢
    obtain ⟨g, o, rfl, hg, hc⟩ := hV.bit (by omega)
    have c1 := hc a (by rw [HOL.out]; exact haN)
    rw [(List.getElem?_eq_some_iff.1 HPL.out).2] at c1
    have hnc := hV.le
    have hcm := hV.cap
    clear hc hown hV
    generalize placeN N R a = z at *
    go_wp2
    go_ret2
    exact ⟨by rw [HP.out]; rfl, T2⟩
  · have HP : Hid (placeR n rows at_ = (0, false)) := by show _ = _; unfold placeR; rw [if_neg hok]
    obtain ⟨t1, d1⟩ : ∃ t, decide (0 ≤ n ∧ n ≤ 65536 ∧ 1 ≤ rows ∧ rows ≤ 64) = t := ⟨_, rfl⟩
    obtain ⟨t2, d2⟩ : ∃ t, decide (at_ < 0) = t := ⟨_, rfl⟩
    obtain ⟨t3, d3⟩ : ∃ t, decide (n ≤ at_) = t := ⟨_, rfl⟩
    have ht : t1 = false ∨ t2 = true ∨ t3 = true := by
      rw [← d1, ← d2, ← d3]
      by_cases hR : 0 ≤ n ∧ n ≤ 65536 ∧ 1 ≤ rows ∧ rows ≤ 64
      · right
        have : at_ < 0 ∨ n ≤ at_ := by omega
        simpa using this
      · left
        simpa using hR
    rw [d1] at HRI
    clear hok d1
    cases t1 <;> cases t2 <;> cases t3
    all_goals
      first
        | (simp at ht; done)
        | (clear ht
           go_enter Try.func9, Try.ntmps9
           go_wp2_with (fail)
           refine HRI.out.mono ?_
           rintro e w1 ⟨rfl, rfl⟩
           go_wp2
           go_ret2
           exact ⟨by rw [HP.out]; rfl, Below.refl _ _⟩)
theorem permL_take (o x : List Nat) (i : Nat) (h : i < o.length) : permL (o.take (i + 1)) x = permL (o.take i) x ++ [x.getD o[i] 0] := by
  unfold permL
  rw [List.take_succ_eq_append_getElem h, List.map_append]
  rfl
theorem okW_right (m : Nat) (rows : Int) : decide (0 ≤ 8 * (m : Int) ∧ 8 * (m : Int) ≤ 65536 ∧ 1 ≤ rows ∧ rows ≤ 64) = decide (okW m rows) := by
  rw [decide_eq_decide]
  unfold okW
  omega
set_option maxHeartbeats 8000000 in
theorem rweave_any (A : Option Addr) (n c : Nat) (b : List UInt8) (rows : Int) (w : World) (hB : Bys w A n c b) (hn : n ≤ 140737488355328) :
    Calls Try.prog 12 #[.slice A n c, .int .i64 rows] w (GivesB w (weaveB b rows)) := by
  have hl := hB.len
  have hnc := hB.le
  have hcm := hB.cap
  have HRI := Lib.hid (right_any (8 * (n : Int)) rows w)
  rw [okW_right] at HRI
  by_cases hok : okW n rows
  · rw [decide_eq_true hok] at HRI
    have hok2 := hok
    unfold okW at hok2
    obtain ⟨R, rfl⟩ := Int.eq_ofNat_of_zero_le (show 0 ≤ rows by omega)
    have HW : Hid (weaveB b (R : Int) = textW (permL (orderW (8 * n) R) (bitsW b))) := by show _ = _; unfold weaveB; rw [hl, if_pos hok, Int.toNat_natCast]
    have HBI := Lib.hid (bits_any A n c b w hB (by omega))
    have HOR := Lib.hid (fun W => order_any (8 * n) R W (by omega) (by omega) (by omega))
    have hbl : (bitsW b).length = 8 * n := by rw [bitsW_len, hl]
    have hol := order_len (8 * n) R (by omega)
    have hmo : ∀ x, x ∈ orderW (8 * n) R → x < 8 * n := fun x hx => (mem_order (by omega)).1 hx
    have hpb := permL_bit (orderW (8 * n) R) (bitsW b) (bitsW_bit b)
    obtain ⟨M, hM⟩ : ∃ M, 8 * n = M := ⟨_, rfl⟩
    have eM : 8 * (n : Int) = (M : Int) := by omega
    have hM6 : M ≤ 65536 := by omega
    rw [hM] at HW HOR hbl hol hmo hpb
    rw [eM] at HRI
    have HPB := Lib.hid hpb
    have HMO := Lib.hid hmo
    have HLN := Lib.hid (And.intro hbl hol)
    clear hok hok2 hbl hol hmo hpb hM hB
    generalize bitsW b = x at *
    generalize orderW M R = o at *
    go_enter Try.func12, Try.ntmps12
    go_wp2_with (fail)
    refine HRI.out.mono ?_
    rintro e w1 ⟨rfl, rfl⟩
    go_wp2_with (fail)
    refine HBI.out.mono ?_
    rintro e w2 ⟨v2, rfl, hO2, T2⟩
    obtain ⟨A2, c2, hv2, hV2⟩ := hO2.shape
    rw [HLN.out.1] at hv2 hV2
    subst hv2
    go_wp2_with (fail)
    refine (HOR.out _).mono ?_
    rintro e w3 ⟨v3, rfl, hO3, T3⟩
    obtain ⟨A3, c3, hv3, hV3⟩ := hO3.shape
    rw [HLN.out.2] at hv3 hV3
    subst hv3
    have hV2 := hV2.below T3
    have T3 := nxt T2 T3
    have hz3 := T3.size
    have k2 := hV2.le
    have k3 := hV3.le
    have m2 := hV2.cap
    have m3 := hV3.cap
    have HV2 := Lib.hid hV2.bit
    have HV3 := Lib.hid hV3.bit
    clear hO2 hO3 hV2 hV3
    go_wp2_with (fail)
    go_loopw [7, 8] (fun v i wr => ∃ j : Nat, j ≤ M ∧ i = .int .i64 (j : Int) ∧ OwnI wr w3.heap.size v (permL (o.take j) x) ∧ Below w3.heap.size w3 wr) (fun _ i _ => M - (intOf i).toNat)
    case atStart => exact ⟨0, Nat.zero_le _, rfl, OwnI.nil _ _, Below.refl _ _⟩
    case round =>
      obtain ⟨j, hj, rfl, hown, hbel⟩ := hrel
      by_cases hlt : j < M
      · have d1 : decide ((j : Int) < (M : Int)) = true := by simp; omega
        obtain ⟨g3, o3, rfl, hg3, hc3⟩ := HV3.out (by omega)
        obtain ⟨g2, o2, rfl, hg2, hc2⟩ := HV2.out (by omega)
        have hjo : j < o.length := by rw [HLN.out.2]; exact hlt
        have q3 := (hbel.cell (p := ⟨g3, o3 + j, none⟩) hg3).trans (hc3 j hjo)
        have hoj := HMO.out o[j] (List.getElem_mem hjo)
        have hst := permL_take o x j hjo
        generalize o[j] = p at *
        have hpx : p < x.length := by rw [HLN.out.1]; exact hoj
        have q2 := (hbel.cell (p := ⟨g2, o2 + p, none⟩) hg2).trans (hc2 p hpx)
        have hgd : x.getD p 0 = x[p] := by rw [List.getD_eq_getElem?_getD, List.getElem?_eq_getElem hpx]; rfl
        rw [hgd] at hst
        generalize x[p] = z at *
        have HST := Lib.hid hst
        have hpl : (permL (o.take j) x).length ≤ 70000 := by unfold permL; simp; omega
        have HON := Lib.hid hown
        have hsz := hbel.size
        have i1 : (p : Int) < (M : Int) := by omega
        clear hc2 hc3 hst hown hgd hpx hjo
        generalize permL (o.take j) x = cc at *
        go_wp2_with ((with_reducible refine app_i _ rfl (.tmp 28) (.tmp 36) rfl w3.heap.size u7 cc rfl ?_ wr.heap.size z rfl ?_ ?_ ?_ ?_); (exact HON.out.below ((Below.refl _ _).alloc (Nat.le_refl _) _)); (exact heap_alloc_new wr _); (omega); (simp; omega); intro v4 w4 hown4 hgrow4 hwhere4; have HO4 := Lib.hid (And.intro hown4 hgrow4); clear hown4 hgrow4 hwhere4)
        go_roundw
        case rel =>
          refine ⟨j + 1, by omega, by go_num, ?_, ?_⟩
          · rw [HST.out]
            exact HO4.out.1
          · exact (hbel.alloc hsz _).grown HO4.out.2 (by simp; omega) (fun g hg => (HON.out.lt g hg).1)
        case measure => simp [intOf]; omega
      · have d1 : decide ((j : Int) < (M : Int)) = false := by simp; omega
        obtain rfl : j = M := by omega
        rw [← HLN.out.2, List.take_length] at hown
        obtain ⟨A4, c4, hv4, hV4⟩ := hown.shape
        have hpl : (permL o x).length = j := by unfold permL; rw [List.length_map, HLN.out.2]
        rw [hpl] at hv4 hV4
        subst hv4
        have HTX := Lib.hid (text_any A4 j c4 (permL o x) _ hV4 HPB.out (by omega))
        clear hown hV4 hpl
        go_wp2_with (fail)
        refine HTX.out.mono ?_
        rintro e w5 ⟨A5, n5, c5, rfl, hB5, T5⟩
        have T5 := nxt (nxt T3 hbel) T5
        have HB5 := Lib.hid hB5
        clear hB5
        go_wp2
        go_ret
        exact ⟨_, _, _, rfl, by rw [HW.out]; exact HB5.out, T5⟩
  · rw [decide_eq_false hok] at HRI
    have HW : Hid (weaveB b rows = []) := by show _ = _; unfold weaveB; rw [hl, if_neg hok]
    clear hB hok
    go_enter Try.func12, Try.ntmps12
    go_wp2_with (fail)
    refine HRI.out.mono ?_
    rintro e w1 ⟨rfl, rfl⟩
    go_wp2
    go_ret
    exact ⟨_, _, _, rfl, by rw [HW.out]; exact Bys.nil _, Below.refl _ _⟩
theorem OwnI.stored {w : World} {B g n c : Nat} {l : List Nat} (h : OwnI w B (.slice (some ⟨g, 0, none⟩) n c) l) (j k : Nat) :
    OwnI (w.setCell ⟨g, j, none⟩ (.int .i64 (k : Int))) B (.slice (some ⟨g, 0, none⟩) n c) (l.set j k) := by
  have hn := h.vals.2
  unfold OwnI at h ⊢
  rw [hn] at h
  rw [List.length_set, hn, ivs_set]
  exact (h.stored j _).1
theorem OwnI.cell {w : World} {B g n c : Nat} {l : List Nat} (h : OwnI w B (.slice (some ⟨g, 0, none⟩) n c) l) (j : Nat) (hj : j < l.length) : (∃ z : Nat, w.cell? ⟨g, j, none⟩ = some (.int .i64 (z : Int))) ∧ w.frozen? ⟨g, j, none⟩ = false := by
  have hn := h.vals.2
  unfold OwnI at h
  rw [hn] at h
  exact ⟨⟨l[j], by rw [h.cellAt j (by omega)]; exact ivs_get l j hj⟩, h.frozenAt j⟩
set_option maxHeartbeats 8000000 in
theorem runweave_any (A : Option Addr) (n c : Nat) (b : List UInt8) (rows : Int) (w : World) (hB : Bys w A n c b) (hn : n ≤ 140737488355328) :
    Calls Try.prog 14 #[.slice A n c, .int .i64 rows] w (GivesB w (unweaveB b rows)) := by
  have hl := hB.len
  have hnc := hB.le
  have hcm := hB.cap
  have HRI := Lib.hid (right_any (8 * (n : Int)) rows w)
  rw [okW_right] at HRI
  by_cases hok : okW n rows
  · rw [decide_eq_true hok] at HRI
    have hok2 := hok
    unfold okW at hok2
    obtain ⟨R, rfl⟩ := Int.eq_ofNat_of_zero_le (show 0 ≤ rows by omega)
    have HW : Hid (unweaveB b (R : Int) = textW (unpermK (orderW (8 * n) R) (bitsW b) (8 * n))) := by show _ = _; unfold unweaveB; rw [hl, if_pos hok, Int.toNat_natCast]
    have HBI := Lib.hid (bits_any A n c b w hB (by omega))
    have HOR := Lib.hid (fun W => order_any (8 * n) R W (by omega) (by omega) (by omega))
    have hbl : (bitsW b).length = 8 * n := by rw [bitsW_len, hl]
    have hol := order_len (8 * n) R (by omega)
    have hmo : ∀ x, x ∈ orderW (8 * n) R → x < 8 * n := fun x hx => (mem_order (by omega)).1 hx
    have hpb := unpermK_bit (orderW (8 * n) R) (bitsW b) (bitsW_bit b) (8 * n)
    obtain ⟨M, hM⟩ : ∃ M, 8 * n = M := ⟨_, rfl⟩
    have eM : 8 * (n : Int) = (M : Int) := by omega
    have hM6 : M ≤ 65536 := by omega
    rw [hM] at HW HOR hbl hol hmo hpb
    rw [eM] at HRI
    have HPB := Lib.hid hpb
    have HMO := Lib.hid hmo
    have HLN := Lib.hid (And.intro hbl hol)
    clear hok hok2 hbl hol hmo hpb hM hB
    generalize bitsW b = x at *
    generalize orderW M R = o at *
    obtain ⟨i0, hi, hz0, hz1, hz2⟩ := info_parts Try.infoI
    go_enter Try.func14, Try.ntmps14
    go_wp2_with (fail)
    refine HRI.out.mono ?_
    rintro e w1 ⟨rfl, rfl⟩
    go_wp2_with (fail)
    refine HBI.out.mono ?_
    rintro e w2 ⟨v2, rfl, hO2, T2⟩
    obtain ⟨A2, c2, hv2, hV2⟩ := hO2.shape
    rw [HLN.out.1] at hv2 hV2
    subst hv2
    go_wp2_with (fail)
    refine (HOR.out _).mono ?_
    rintro e w3 ⟨v3, rfl, hO3, T3⟩
    obtain ⟨A3, c3, hv3, hV3⟩ := hO3.shape
    rw [HLN.out.2] at hv3 hV3
    subst hv3
    have hV2 := hV2.below T3
    have T3 := nxt T2 T3
    have hz3 := T3.size
    have k2 := hV2.le
    have k3 := hV3.le
    have m2 := hV2.cap
    have m3 := hV3.cap
    have HV2 := Lib.hid hV2.bit
    have HV3 := Lib.hid hV3.bit
    clear hO2 hO3 hV2 hV3
    go_wp2_with (at_make; refine wpList_make_full _ rfl _ _ 35 rfl w3.heap.size 3 i0 (.int .i64 0) 1 Try.underlying35 hi hz0 hz1 .i64 .i64 _ _ M rfl rfl rfl rfl (by rw [hz2]; omega) (by unfold maxLen; omega) (Nat.le_refl _) ?_; intro w4 hown hgrow; have HON := Lib.hid (And.intro hown hgrow); clear hown hgrow)
    have HOI : Hid (OwnI w4 w3.heap.size (.slice (some ⟨w3.heap.size, 0, none⟩) M M) (unpermK o x 0) ∧ Below w3.heap.size w3 w4) := by
      refine ⟨?_, (Below.refl _ _).grown HON.out.2 (Nat.le_refl _) (by simp)⟩
      have h := HON.out.1
      simp only [Value.cells, Nat.mul_one, toList_madeCells_one] at h
      unfold OwnI unpermK
      rw [List.length_replicate, HLN.out.1]
      have e : ivs (List.replicate M 0) = List.replicate M (.int .i64 0) := by simp [ivs]
      rw [e]
      exact h
    clear HON
    go_loopw [8] (fun i wr => ∃ j : Nat, j ≤ M ∧ i = .int .i64 (j : Int) ∧ OwnI wr w3.heap.size (.slice (some ⟨w3.heap.size, 0, none⟩) M M) (unpermK o x j) ∧ Below w3.heap.size w3 wr) (fun i _ => M - (intOf i).toNat)
    case atStart => exact ⟨0, Nat.zero_le _, rfl, HOI.out.1, HOI.out.2⟩
    case round =>
      obtain ⟨j, hj, rfl, hown, hbel⟩ := hrel
      by_cases hlt : j < M
      · have d1 : decide ((j : Int) < (M : Int)) = true := by simp; omega
        obtain ⟨g3, o3, rfl, hg3, hc3⟩ := HV3.out (by omega)
        obtain ⟨g2, o2, rfl, hg2, hc2⟩ := HV2.out (by omega)
        have hjo : j < o.length := by rw [HLN.out.2]; exact hlt
        have hjx : j < x.length := by rw [HLN.out.1]; exact hlt
        have q3 := (hbel.cell (p := ⟨g3, o3 + j, none⟩) hg3).trans (hc3 j hjo)
        have q2 := (hbel.cell (p := ⟨g2, o2 + j, none⟩) hg2).trans (hc2 j hjx)
        have hoj := HMO.out o[j] (List.getElem_mem hjo)
        have hst : unpermK o x (j + 1) = (unpermK o x j).set o[j] x[j] := by
          show (unpermK o x j).set (o.getD j 0) (x.getD j 0) = _
          rw [List.getD_eq_getElem?_getD, List.getElem?_eq_getElem hjo, List.getD_eq_getElem?_getD, List.getElem?_eq_getElem hjx]
          rfl
        generalize o[j] = p at *
        generalize x[j] = z at *
        have HST := Lib.hid hst
        have hul : (unpermK o x j).length = M := by rw [unpermK_len, HLN.out.1]
        obtain ⟨⟨y, c4⟩, f4⟩ := hown.cell p (by omega)
        have HON := Lib.hid hown
        have CXX := Lib.hid c4
        have i1 : (p : Int) < (M : Int) := by omega
        have i2 : (j : Int) < (M : Int) := by omega
        clear hc2 hc3 hst hown hjo hjx hul c4 f4
        generalize unpermK o x j = cc at *
        go_wp2_with (fail)
        go_still_tail 10, (by kernel_rfl)
        change wpList _ _ _ _ _ wr.drew
        have HW4 : Hid (OwnI wr.drew w3.heap.size (.slice (some ⟨w3.heap.size, 0, none⟩) M M) cc ∧ Below w3.heap.size w3 wr.drew ∧ wr.drew.cell? ⟨w3.heap.size, p, none⟩ = some (.int .i64 (y : Int))) := ⟨HON.out, hbel.drew, CXX.out⟩
        have hcl : cc.length = M := HON.out.vals.2
        clear q2 q3 HON CXX hbel
        generalize wr.drew = W4 at *
        have c4 : W4.cell? ⟨w3.heap.size, p, none⟩ = some (.int .i64 (y : Int)) := HW4.out.2.2
        have f4 : W4.frozen? ⟨w3.heap.size, p, none⟩ = false := (HW4.out.1.cell p (by omega)).2
        go_wp2
        go_roundw
        case rel =>
          refine ⟨j + 1, by omega, by go_num, ?_, ?_⟩
          · rw [HST.out]
            exact HW4.out.1.stored p z
          · exact HW4.out.2.1.setCell (Nat.le_refl _) _
        case measure => simp [intOf]; omega
      · have d1 : decide ((j : Int) < (M : Int)) = false := by simp; omega
        obtain rfl : j = M := by omega
        have HTX := Lib.hid (text_any (some ⟨w3.heap.size, 0, none⟩) j j (unpermK o x j) _ hown.vals.1 HPB.out (by omega))
        clear hown
        go_wp2_with (fail)
        refine HTX.out.mono ?_
        rintro e w5 ⟨A5, n5, c5, rfl, hB5, T5⟩
        have T5 := nxt (nxt T3 hbel) T5
        have HB5 := Lib.hid hB5
        clear hB5
        go_wp2
        go_ret
        exact ⟨_, _, _, rfl, by rw [HW.out]; exact HB5.out, T5⟩
  · rw [decide_eq_false hok] at HRI
    have HW : Hid (unweaveB b rows = []) := by show _ = _; unfold unweaveB; rw [hl, if_neg hok]
    clear hB hok
    go_enter Try.func14, Try.ntmps14
    go_wp2_with (fail)
    refine HRI.out.mono ?_
    rintro e w1 ⟨rfl, rfl⟩
    go_wp2
    go_ret
    exact ⟨_, _, _, rfl, by rw [HW.out]; exact Bys.nil _, Below.refl _ _⟩
end Go.Proofs.Ytenbaljjncepeaa
