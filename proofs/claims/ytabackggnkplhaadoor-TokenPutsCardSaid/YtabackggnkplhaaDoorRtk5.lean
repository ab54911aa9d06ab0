/- What kedgeref15.Get answers of the kind 1. -/
import Derived.Test.YtabackggnkplhaaDoorRtk3
namespace Go.Proofs.YtabackggnkplhaaDoor
open Go.RowKit
set_option maxRecDepth 20000

set_option maxHeartbeats 16000000 in
theorem rtkget_1e (A : Option Addr) (n c : Nat) (l : List UInt8) (w : World) (hB : Bys w A n c (1 :: l)) (hn : n ≤ 140737488355328) (hne : n = 25) (R : Bool) (hR : tkRight 1 (numOf ((l.drop 8).take 8)) (numOf (((l.drop 8).drop 8).take 8)) (((l.drop 8).drop 8).drop 8).length = R) :
    Calls Tryd.prog 12 #[.slice A n c] w (GivesTk w (if R then (1, numOf (l.take 8), numOf ((l.drop 8).take 8), numOf (((l.drop 8).drop 8).take 8), ((l.drop 8).drop 8).drop 8) else tkZero) (if R then 0 else 130)) := by
  have hl := hB.len
  simp at hl
  subst hne
  have hle := hB.le
  have hcap := hB.cap
  obtain ⟨g, o, rfl, hg, hc⟩ := hB.at_ (by omega)
  have B1 := hB.part 9 25 (by omega) (by omega) (by omega)
  have e1 : (List.take 25 (1 :: l)).drop 9 = l.drop 8 := by rw [List.take_of_length_le (by simp; omega)]; rfl
  rw [e1] at B1
  clear e1
  have BH1 := B1.take 8 (by omega)
  have HN1 := Lib.hid (fun W (k : Below w.heap.size w W) => numB_of ((l.drop 8).take 8) (by simp; omega) ▸ rnumber_any _ _ _ _ W (BH1.below k))
  have B2 := B1.part 8 (16) (by omega) (by omega) (by omega)
  have e2 : (List.take (16) (l.drop 8)).drop 8 = (l.drop 8).drop 8 := by rw [List.take_of_length_le (by simp; omega)]
  rw [e2] at B2
  clear e2
  have BH2 := B2.take 8 (by omega)
  have HN2 := Lib.hid (fun W (k : Below w.heap.size w W) => numB_of (((l.drop 8).drop 8).take 8) (by simp; omega) ▸ rnumber_any _ _ _ _ W (BH2.below k))
  have q1 : w.cell? ⟨g, o, none⟩ = some (.int .u8 1) := by have := hc 0 (by simp); simpa using this
  have hP := hB.part 1 9 (by omega) (by omega) (by omega)
  have e0 : (List.take 9 (1 :: l)).drop 1 = l.take 8 := rfl
  rw [e0] at hP
  have HN := Lib.hid (fun W (k : Below w.heap.size w W) => numB_of (l.take 8) (by simp; omega) ▸ rnumber_any _ _ _ _ W (hP.below k))
  have hd0 : ((l.drop 8).drop 8).drop 8 = [] := List.eq_nil_of_length_eq_zero (by simp; omega)
  rw [hd0] at hR ⊢
  have HR := Lib.hid (fun W => rtkright_any 1 (numOf (l.take 8)) (numOf ((l.drop 8).take 8)) (numOf (((l.drop 8).drop 8).take 8)) none 0 0 W)
  simp only [List.length_nil] at hR
  rw [hR] at HR
  generalize ht : numOf (l.take 8) = t at *
  generalize hyv : numOf ((l.drop 8).take 8) = y at *
  generalize hzv : numOf (((l.drop 8).drop 8).take 8) = z at *
  clear hc hB hP hR hl ht hyv hzv hd0 B1 BH1 B2 BH2 e0
  have d3 : decide ((25 : Int) < 9) = false := by simp
  have hci : (9 : Int) ≤ (c : Int) := by omega
  have hcn : 9 ≤ c := by omega
  have hc1 : (c = 1) = False := by simp; omega
  have hc9 : (c = 9) = False := by simp; omega
  have hc17 : (c - 9 = 8) = False := by simp; omega
  have hc18 : (c = 17) = False := by simp; omega
  have T0 : Below w.heap.size w (w.alloc (.cells #[.int .i64 0, .int .u64 0, .int .u64 0, .int .u64 0, .slice none 0 0] 25)) := (Below.refl _ w).alloc (Nat.le_refl _) _
  have KA := Lib.hid T0.drew
  have KB : Hid (Below w.heap.size w ((w.alloc (.cells #[.int .i64 0, .int .u64 0, .int .u64 0, .int .u64 0, .slice none 0 0] 25)).alloc (.cells #[.int .i64 0, .int .u64 0, .int .u64 0, .int .u64 0, .slice none 0 0] 25)).drew) := (T0.alloc (by simp) _).drew
  have KQ : Hid ((w.alloc (.cells #[.int .i64 0, .int .u64 0, .int .u64 0, .int .u64 0, .slice none 0 0] 25)).cell? ⟨g, o, none⟩ = some (.int .u8 1)) := (T0.cell hg).trans q1
  have KQ2 : Hid (((w.alloc (.cells #[.int .i64 0, .int .u64 0, .int .u64 0, .int .u64 0, .slice none 0 0] 25)).alloc (.cells #[.int .i64 0, .int .u64 0, .int .u64 0, .int .u64 0, .slice none 0 0] 25)).cell? ⟨g, o, none⟩ = some (.int .u8 1)) := ((T0.alloc (by simp) _).cell hg).trans q1
  have KQ3 : Hid (((w.alloc (.cells #[.int .i64 0, .int .u64 0, .int .u64 0, .int .u64 0, .slice none 0 0] 25)).alloc (.cells #[.int .i64 1, .int .u64 (t : Int), .int .u64 0, .int .u64 0, .slice none 0 0] 25)).cell? ⟨g, o, none⟩ = some (.int .u8 1)) := ((T0.alloc (by simp) _).cell hg).trans q1
  have KC : Hid (∀ o : Obj, Below w.heap.size w ((w.alloc (.cells #[.int .i64 0, .int .u64 0, .int .u64 0, .int .u64 0, .slice none 0 0] 25)).alloc o).drew) := fun o => (T0.alloc (by simp) _).drew
  clear T0
  cases R
  · go_enter Tryd.func12, Tryd.ntmps12
    go_wp2_with (fail)
    go_region_held3 (fun w' => w'.cell? ⟨g, o, none⟩ = some (.int .u8 1)) (first | exact KQ.out | exact KQ2.out | exact KQ3.out)
      (first
        | (go_at_call 21; (with_reducible refine (HN.out _ (by first | exact KA.out | exact KB.out)).mono ?_); rintro e w1 ⟨rfl, rfl⟩))
    all_goals
      go_wp2_with (fail)
      refine (HN1.out _ (KC.out _)).mono ?_
      rintro e w1 ⟨rfl, rfl⟩
      go_wp2_with (fail)
      refine (HN2.out _ (KC.out _)).mono ?_
      rintro e w1 ⟨rfl, rfl⟩
      go_wp2_with (fail)
      all_goals
        refine (HR.out _).mono ?_
        rintro e w1 ⟨rfl, T1⟩
        have T1 := undrew T1
        obtain ⟨b0, b1⟩ := two_rows T1
        have B0 := Lib.hid b0
        obtain ⟨⟨c3, c4, c5, c6, c7⟩, f3, f4, f5, f6, f7⟩ := row5 b0
        obtain ⟨⟨c13, c14, c15, c16, c17⟩, _, _, _, _, _⟩ := row5 b1
        have T1 := nxt (((Below.refl _ w).alloc (Nat.le_refl _) _).alloc (by simp) _) T1
        clear b0 b1
        go_wp2_with (fail)
        (try simp only [Exit.inBlock, Exit.then])
        refine bodyPost_ret (v := .tuple #[.agg #[.int .i64 0, .int .u64 0, .int .u64 0, .int .u64 0, .slice none 0 0], .int .i64 130]) (res_cell_tmp rfl _ _ w.heap.size 25 #[.int .i64 0, .int .u64 0, .int .u64 0, .int .u64 0, .slice none 0 0] (0, 0) _ _ rfl rfl (stored5 B0.out _ _ _ _ _) Tryd.underlying25 rfl (by kernel_rfl)) rfl ?_
        exact ⟨_, _, _, rfl, Bys.nil _, below5 T1 (Nat.le_refl _) _ _ _ _ _⟩
  · go_enter Tryd.func12, Tryd.ntmps12
    go_wp2_with (fail)
    go_region_held3 (fun w' => w'.cell? ⟨g, o, none⟩ = some (.int .u8 1)) (first | exact KQ.out | exact KQ2.out | exact KQ3.out)
      (first
        | (go_at_call 21; (with_reducible refine (HN.out _ (by first | exact KA.out | exact KB.out)).mono ?_); rintro e w1 ⟨rfl, rfl⟩))
    all_goals
      go_wp2_with (fail)
      refine (HN1.out _ (KC.out _)).mono ?_
      rintro e w1 ⟨rfl, rfl⟩
      go_wp2_with (fail)
      refine (HN2.out _ (KC.out _)).mono ?_
      rintro e w1 ⟨rfl, rfl⟩
      go_wp2_with (fail)
      all_goals
        refine (HR.out _).mono ?_
        rintro e w1 ⟨rfl, T1⟩
        have T1 := undrew T1
        obtain ⟨b0, b1⟩ := two_rows T1
        have B0 := Lib.hid b0
        obtain ⟨⟨c3, c4, c5, c6, c7⟩, f3, f4, f5, f6, f7⟩ := row5 b0
        obtain ⟨⟨c13, c14, c15, c16, c17⟩, _, _, _, _, _⟩ := row5 b1
        have T1 := nxt (((Below.refl _ w).alloc (Nat.le_refl _) _).alloc (by simp) _) T1
        clear b0 b1
        go_wp2_with (fail)
        (try simp only [Exit.inBlock, Exit.then])
        refine bodyPost_ret (v := .tuple #[.agg #[.int .i64 1, .int .u64 (t : Int), .int .u64 (y : Int), .int .u64 (z : Int), .slice none 0 0], .int .i64 0]) (res_cell_tmp rfl _ _ w.heap.size 25 #[.int .i64 1, .int .u64 (t : Int), .int .u64 (y : Int), .int .u64 (z : Int), .slice none 0 0] (0, 0) _ _ rfl rfl (stored5 B0.out _ _ _ _ _) Tryd.underlying25 rfl (by kernel_rfl)) rfl ?_
        exact ⟨_, _, _, rfl, Bys.nil _, below5 T1 (Nat.le_refl _) _ _ _ _ _⟩
set_option maxHeartbeats 16000000 in
theorem rtkget_1m (A : Option Addr) (n c : Nat) (l : List UInt8) (w : World) (hB : Bys w A n c (1 :: l)) (hn : n ≤ 140737488355328) (hne : 25 < n) (R : Bool) (hR : tkRight 1 (numOf ((l.drop 8).take 8)) (numOf (((l.drop 8).drop 8).take 8)) (((l.drop 8).drop 8).drop 8).length = R) :
    Calls Tryd.prog 12 #[.slice A n c] w (GivesTk w (if R then (1, numOf (l.take 8), numOf ((l.drop 8).take 8), numOf (((l.drop 8).drop 8).take 8), ((l.drop 8).drop 8).drop 8) else tkZero) (if R then 0 else 130)) := by
  have hl := hB.len
  simp at hl
  have hle := hB.le
  have hcap := hB.cap
  obtain ⟨g, o, rfl, hg, hc⟩ := hB.at_ (by omega)
  have B1 := hB.part 9 n (by omega) (by omega) (by omega)
  have e1 : (List.take n (1 :: l)).drop 9 = l.drop 8 := by rw [List.take_of_length_le (by simp; omega)]; rfl
  rw [e1] at B1
  clear e1
  have BH1 := B1.take 8 (by omega)
  have HN1 := Lib.hid (fun W (k : Below w.heap.size w W) => numB_of ((l.drop 8).take 8) (by simp; omega) ▸ rnumber_any _ _ _ _ W (BH1.below k))
  have B2 := B1.part 8 (n - 9) (by omega) (by omega) (by omega)
  have e2 : (List.take (n - 9) (l.drop 8)).drop 8 = (l.drop 8).drop 8 := by rw [List.take_of_length_le (by simp; omega)]
  rw [e2] at B2
  clear e2
  have BH2 := B2.take 8 (by omega)
  have HN2 := Lib.hid (fun W (k : Below w.heap.size w W) => numB_of (((l.drop 8).drop 8).take 8) (by simp; omega) ▸ rnumber_any _ _ _ _ W (BH2.below k))
  have B3 := B2.part 8 (n - 9 - 8) (by omega) (by omega) (by omega)
  have e3 : (List.take (n - 9 - 8) ((l.drop 8).drop 8)).drop 8 = ((l.drop 8).drop 8).drop 8 := by rw [List.take_of_length_le (by simp; omega)]
  rw [e3] at B3
  clear e3
  have q1 : w.cell? ⟨g, o, none⟩ = some (.int .u8 1) := by have := hc 0 (by simp); simpa using this
  have hP := hB.part 1 9 (by omega) (by omega) (by omega)
  have e0 : (List.take 9 (1 :: l)).drop 1 = l.take 8 := rfl
  rw [e0] at hP
  have HN := Lib.hid (fun W (k : Below w.heap.size w W) => numB_of (l.take 8) (by simp; omega) ▸ rnumber_any _ _ _ _ W (hP.below k))
  have HC := Lib.hid (fun W (k : Below w.heap.size w W) => rcopy_any _ _ _ (((l.drop 8).drop 8).drop 8) W (B3.below k) (by omega))
  have HR := Lib.hid (fun W A c => rtkright_any 1 (numOf (l.take 8)) (numOf ((l.drop 8).take 8)) (numOf (((l.drop 8).drop 8).take 8)) A (((l.drop 8).drop 8).drop 8).length c W)
  rw [hR] at HR
  generalize ht : numOf (l.take 8) = t at *
  generalize hyv : numOf ((l.drop 8).take 8) = y at *
  generalize hzv : numOf (((l.drop 8).drop 8).take 8) = z at *
  generalize hdv : ((l.drop 8).drop 8).drop 8 = d at *
  have hdl : d.length = n - 25 := by rw [← hdv]; simp; omega
  have HDL := Lib.hid hdl
  clear hc hB hP hR hl ht hyv hzv hdv hdl B1 BH1 B2 BH2 B3 e0
  have d3 : decide ((n : Int) < 9) = false := by simp; omega
  have hci : (9 : Int) ≤ (c : Int) := by omega
  have hcn : 9 ≤ c := by omega
  have hc1 : (c = 1) = False := by simp; omega
  have hc9 : (c = 9) = False := by simp; omega
  have hc17 : (c - 9 = 8) = False := by simp; omega
  have hc18 : (c = 17) = False := by simp; omega
  have hc25 : (c - 9 - 8 = 8) = False := by simp; omega
  have hc26 : (c = 25) = False := by simp; omega
  have hni : (9 : Int) ≤ (n : Int) := by omega
  have hnn : 9 ≤ n := by omega
  have hn0 : 0 < n := by omega
  have T0 : Below w.heap.size w (w.alloc (.cells #[.int .i64 0, .int .u64 0, .int .u64 0, .int .u64 0, .slice none 0 0] 25)) := (Below.refl _ w).alloc (Nat.le_refl _) _
  have KA := Lib.hid T0.drew
  have KB : Hid (Below w.heap.size w ((w.alloc (.cells #[.int .i64 0, .int .u64 0, .int .u64 0, .int .u64 0, .slice none 0 0] 25)).alloc (.cells #[.int .i64 0, .int .u64 0, .int .u64 0, .int .u64 0, .slice none 0 0] 25)).drew) := (T0.alloc (by simp) _).drew
  have KQ : Hid ((w.alloc (.cells #[.int .i64 0, .int .u64 0, .int .u64 0, .int .u64 0, .slice none 0 0] 25)).cell? ⟨g, o, none⟩ = some (.int .u8 1)) := (T0.cell hg).trans q1
  have KQ2 : Hid (((w.alloc (.cells #[.int .i64 0, .int .u64 0, .int .u64 0, .int .u64 0, .slice none 0 0] 25)).alloc (.cells #[.int .i64 0, .int .u64 0, .int .u64 0, .int .u64 0, .slice none 0 0] 25)).cell? ⟨g, o, none⟩ = some (.int .u8 1)) := ((T0.alloc (by simp) _).cell hg).trans q1
  have KQ3 : Hid (((w.alloc (.cells #[.int .i64 0, .int .u64 0, .int .u64 0, .int .u64 0, .slice none 0 0] 25)).alloc (.cells #[.int .i64 1, .int .u64 (t : Int), .int .u64 0, .int .u64 0, .slice none 0 0] 25)).cell? ⟨g, o, none⟩ = some (.int .u8 1)) := ((T0.alloc (by simp) _).cell hg).trans q1
  have KC : Hid (∀ o : Obj, Below w.heap.size w ((w.alloc (.cells #[.int .i64 0, .int .u64 0, .int .u64 0, .int .u64 0, .slice none 0 0] 25)).alloc o).drew) := fun o => (T0.alloc (by simp) _).drew
  clear T0
  cases R
  · go_enter Tryd.func12, Tryd.ntmps12
    go_wp2_with (fail)
    go_region_held3 (fun w' => w'.cell? ⟨g, o, none⟩ = some (.int .u8 1)) (first | exact KQ.out | exact KQ2.out | exact KQ3.out)
      (first
        | (go_at_call 21; (with_reducible refine (HN.out _ (by first | exact KA.out | exact KB.out)).mono ?_); rintro e w1 ⟨rfl, rfl⟩))
    all_goals
      go_wp2_with (fail)
      refine (HN1.out _ (KC.out _)).mono ?_
      rintro e w1 ⟨rfl, rfl⟩
      go_wp2_with (fail)
      refine (HN2.out _ (KC.out _)).mono ?_
      rintro e w1 ⟨rfl, rfl⟩
      go_wp2_with (fail)
      refine (HC.out _ (KC.out _)).mono ?_
      rintro e w1 ⟨v, rfl, hown, T1⟩
      have T1 := undrew T1
      obtain ⟨b0, b1⟩ := two_rows T1
      have T1 := nxt (((Below.refl _ w).alloc (Nat.le_refl _) _).alloc (by simp) _) T1
      obtain ⟨A9, c9, rfl⟩ := own_shape hown
      have hfr : Av (· < w.heap.size + 2) d.length A9 := by have := own_fr hown; simpa using this
      have HB1 := Lib.hid (And.intro hfr (Bys.of_own hown))
      have b0' : (w1.setCell ⟨w.heap.size + 1, 4, none⟩ (.slice A9 d.length c9)).heap[w.heap.size]? = _ := (Below.heap_setCell w1 _ _ _ (by simp)).trans b0
      have b1' := heap_setCell_same w1 _ 4 _ _ (.slice A9 d.length c9) b1
      have hbB := HB1.out.2.off HB1.out.1 ((Off.refl (· < w.heap.size + 2) w1).setCell (p := ⟨w.heap.size + 1, 4, none⟩) (.inl (by simp)) (.slice A9 d.length c9))
      have HB2 := Lib.hid (And.intro hfr hbB)
      have HT1 := Lib.hid (T1.setCell (p := ⟨w.heap.size + 1, 4, none⟩) (by simp) (.slice A9 d.length c9))
      obtain ⟨⟨c3, c4, c5, c6, c7⟩, f3, f4, f5, f6, f7⟩ := row5 b1
      have b0s := Lib.hid b0'
      have b1s := Lib.hid b1'
      clear b0 b1 b0' b1' hown hfr hbB T1
      go_wp2_with (fail)
      refine (HR.out _ _ _).mono ?_
      rintro e w3 ⟨rfl, T3⟩
      have g0 := (T3.block _ (lt_row b0s.out)).trans b0s.out
      have g1 := (T3.block _ (lt_row b1s.out)).trans b1s.out
      obtain ⟨⟨c13, c14, c15, c16, c17⟩, f13, f14, f15, f16, f17⟩ := row5 g0
      have c21 := cell_of_row _ _ 0 _ _ _ g1
      have c22 := cell_of_row _ _ 1 _ _ _ g1
      have c23 := cell_of_row _ _ 2 _ _ _ g1
      have c24 := cell_of_row _ _ 3 _ _ _ g1
      have c25 := cell_of_row _ _ 4 _ _ _ g1
      simp at c21 c22 c23 c24 c25
      have G0 := Lib.hid g0
      have HT := Lib.hid (nxt HT1.out T3)
      clear g0 g1 c3 c4 c5 c6 c7 f3 f4 f5 f6 f7
      go_wp2_with (fail)
      (try simp only [Exit.inBlock, Exit.then])
      refine bodyPost_ret (v := .tuple #[.agg #[.int .i64 0, .int .u64 0, .int .u64 0, .int .u64 0, .slice none 0 0], .int .i64 130]) (res_cell_tmp rfl _ _ w.heap.size 25 #[.int .i64 0, .int .u64 0, .int .u64 0, .int .u64 0, .slice none 0 0] (0, 0) _ _ rfl rfl (stored5 G0.out _ _ _ _ _) Tryd.underlying25 rfl (by kernel_rfl)) rfl ?_
      exact ⟨_, _, _, rfl, Bys.nil _, below5 HT.out (Nat.le_refl _) _ _ _ _ _⟩
  · go_enter Tryd.func12, Tryd.ntmps12
    go_wp2_with (fail)
    go_region_held3 (fun w' => w'.cell? ⟨g, o, none⟩ = some (.int .u8 1)) (first | exact KQ.out | exact KQ2.out | exact KQ3.out)
      (first
        | (go_at_call 21; (with_reducible refine (HN.out _ (by first | exact KA.out | exact KB.out)).mono ?_); rintro e w1 ⟨rfl, rfl⟩))
    all_goals
      go_wp2_with (fail)
      refine (HN1.out _ (KC.out _)).mono ?_
      rintro e w1 ⟨rfl, rfl⟩
      go_wp2_with (fail)
      refine (HN2.out _ (KC.out _)).mono ?_
      rintro e w1 ⟨rfl, rfl⟩
      go_wp2_with (fail)
      refine (HC.out _ (KC.out _)).mono ?_
      rintro e w1 ⟨v, rfl, hown, T1⟩
      have T1 := undrew T1
      obtain ⟨b0, b1⟩ := two_rows T1
      have T1 := nxt (((Below.refl _ w).alloc (Nat.le_refl _) _).alloc (by simp) _) T1
      obtain ⟨A9, c9, rfl⟩ := own_shape hown
      have hfr : Av (· < w.heap.size + 2) d.length A9 := by have := own_fr hown; simpa using this
      have HB1 := Lib.hid (And.intro hfr (Bys.of_own hown))
      have b0' : (w1.setCell ⟨w.heap.size + 1, 4, none⟩ (.slice A9 d.length c9)).heap[w.heap.size]? = _ := (Below.heap_setCell w1 _ _ _ (by simp)).trans b0
      have b1' := heap_setCell_same w1 _ 4 _ _ (.slice A9 d.length c9) b1
      have hbB := HB1.out.2.off HB1.out.1 ((Off.refl (· < w.heap.size + 2) w1).setCell (p := ⟨w.heap.size + 1, 4, none⟩) (.inl (by simp)) (.slice A9 d.length c9))
      have HB2 := Lib.hid (And.intro hfr hbB)
      have HT1 := Lib.hid (T1.setCell (p := ⟨w.heap.size + 1, 4, none⟩) (by simp) (.slice A9 d.length c9))
      obtain ⟨⟨c3, c4, c5, c6, c7⟩, f3, f4, f5, f6, f7⟩ := row5 b1
      have b0s := Lib.hid b0'
      have b1s := Lib.hid b1'
      clear b0 b1 b0' b1' hown hfr hbB T1
      go_wp2_with (fail)
      refine (HR.out _ _ _).mono ?_
      rintro e w3 ⟨rfl, T3⟩
      have g0 := (T3.block _ (lt_row b0s.out)).trans b0s.out
      have g1 := (T3.block _ (lt_row b1s.out)).trans b1s.out
      obtain ⟨⟨c13, c14, c15, c16, c17⟩, f13, f14, f15, f16, f17⟩ := row5 g0
      have c21 := cell_of_row _ _ 0 _ _ _ g1
      have c22 := cell_of_row _ _ 1 _ _ _ g1
      have c23 := cell_of_row _ _ 2 _ _ _ g1
      have c24 := cell_of_row _ _ 3 _ _ _ g1
      have c25 := cell_of_row _ _ 4 _ _ _ g1
      simp at c21 c22 c23 c24 c25
      have G0 := Lib.hid g0
      have HT := Lib.hid (nxt HT1.out T3)
      clear g0 g1 c3 c4 c5 c6 c7 f3 f4 f5 f6 f7
      go_wp2_with (fail)
      (try simp only [Exit.inBlock, Exit.then])
      refine bodyPost_ret (v := .tuple #[.agg #[.int .i64 1, .int .u64 (t : Int), .int .u64 (y : Int), .int .u64 (z : Int), .slice A9 d.length c9], .int .i64 0]) (res_cell_tmp rfl _ _ w.heap.size 25 #[.int .i64 1, .int .u64 (t : Int), .int .u64 (y : Int), .int .u64 (z : Int), .slice A9 d.length c9] (0, 0) _ _ rfl rfl (stored5 G0.out _ _ _ _ _) Tryd.underlying25 rfl (by kernel_rfl)) rfl ?_
      exact ⟨_, _, _, rfl, (HB2.out.2.below T3).off (X := (· = w.heap.size)) (HB2.out.1.imp (fun k hk => by omega)) (off5 w3 _ _ _ _ _ _), below5 HT.out (Nat.le_refl _) _ _ _ _ _⟩
end Go.Proofs.YtabackggnkplhaaDoor
