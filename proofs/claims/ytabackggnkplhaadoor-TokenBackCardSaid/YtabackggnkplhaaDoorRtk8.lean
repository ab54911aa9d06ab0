/- What kedgeref15.Get answers of too few bytes behind the kind. -/
import Derived.Test.YtabackggnkplhaaDoorRtk3
namespace Go.Proofs.YtabackggnkplhaaDoor
open Go.RowKit
set_option maxRecDepth 20000

set_option maxHeartbeats 16000000 in
theorem rtkget_few1 (A : Option Addr) (n c : Nat) (l : List UInt8) (w : World) (hB : Bys w A n c (1 :: l)) (hlo : 9 ≤ n) (hhi : n < 17) :
    Calls Tryd.prog 12 #[.slice A n c] w (GivesTk w tkZero 130) := by
  have hl := hB.len
  simp at hl
  have hle := hB.le
  have hcap := hB.cap
  obtain ⟨g, o, rfl, hg, hc⟩ := hB.at_ (by omega)
  have q1 : w.cell? ⟨g, o, none⟩ = some (.int .u8 1) := by have := hc 0 (by simp); simpa using this
  have hP := hB.part 1 9 (by omega) (by omega) (by omega)
  have e0 : (List.take 9 (1 :: l)).drop 1 = l.take 8 := rfl
  rw [e0] at hP
  have HN := Lib.hid (fun W (k : Below w.heap.size w W) => numB_of (l.take 8) (by simp; omega) ▸ rnumber_any _ _ _ _ W (hP.below k))
  generalize numOf (l.take 8) = t at *
  have d4 : decide (((n - 9 : Nat) : Int) < 8) = true := by simp; omega
  have d3 : decide ((n : Int) < 9) = false := by simp; omega
  have hci : (9 : Int) ≤ (c : Int) := by omega
  have hcn : 9 ≤ c := by omega
  have hc1 : (c = 1) = False := by simp; omega
  have hni : (9 : Int) ≤ (n : Int) := by omega
  have hnn : 9 ≤ n := by omega
  have hn0 : 0 < n := by omega
  clear hc hB hP hl e0
  have T0 : Below w.heap.size w (w.alloc (.cells #[.int .i64 0, .int .u64 0, .int .u64 0, .int .u64 0, .slice none 0 0] 25)) := (Below.refl _ w).alloc (Nat.le_refl _) _
  have KA := Lib.hid T0.drew
  have KB : Hid (Below w.heap.size w ((w.alloc (.cells #[.int .i64 0, .int .u64 0, .int .u64 0, .int .u64 0, .slice none 0 0] 25)).alloc (.cells #[.int .i64 0, .int .u64 0, .int .u64 0, .int .u64 0, .slice none 0 0] 25)).drew) := (T0.alloc (by simp) _).drew
  have KQ : Hid ((w.alloc (.cells #[.int .i64 0, .int .u64 0, .int .u64 0, .int .u64 0, .slice none 0 0] 25)).cell? ⟨g, o, none⟩ = some (.int .u8 1)) := (T0.cell hg).trans q1
  have KQ2 : Hid (((w.alloc (.cells #[.int .i64 0, .int .u64 0, .int .u64 0, .int .u64 0, .slice none 0 0] 25)).alloc (.cells #[.int .i64 0, .int .u64 0, .int .u64 0, .int .u64 0, .slice none 0 0] 25)).cell? ⟨g, o, none⟩ = some (.int .u8 1)) := ((T0.alloc (by simp) _).cell hg).trans q1
  have KQ3 : Hid (((w.alloc (.cells #[.int .i64 0, .int .u64 0, .int .u64 0, .int .u64 0, .slice none 0 0] 25)).alloc (.cells #[.int .i64 1, .int .u64 (t : Int), .int .u64 0, .int .u64 0, .slice none 0 0] 25)).cell? ⟨g, o, none⟩ = some (.int .u8 1)) := ((T0.alloc (by simp) _).cell hg).trans q1
  have KC : Hid (∀ o : Obj, Below w.heap.size w ((w.alloc (.cells #[.int .i64 0, .int .u64 0, .int .u64 0, .int .u64 0, .slice none 0 0] 25)).alloc o).drew) := fun o => (T0.alloc (by simp) _).drew
  clear T0
  go_enter Tryd.func12, Tryd.ntmps12
  go_wp2_with (fail)
  go_region_held3 (fun w' => w'.cell? ⟨g, o, none⟩ = some (.int .u8 1)) (first | exact KQ.out | exact KQ2.out | exact KQ3.out)
    (first
      | (go_at_call 21; (with_reducible refine (HN.out _ (by first | exact KA.out | exact KB.out)).mono ?_); rintro e w1 ⟨rfl, rfl⟩))
  all_goals
    go_wp2_with (fail)
    all_goals
      (try simp only [Exit.inBlock, Exit.then])
      refine bodyPost_ret (v := .tuple #[.agg #[.int .i64 0, .int .u64 0, .int .u64 0, .int .u64 0, .slice none 0 0], .int .i64 130]) (res_cell_tmp rfl _ _ w.heap.size 25 #[.int .i64 0, .int .u64 0, .int .u64 0, .int .u64 0, .slice none 0 0] (0, 0) _ _ rfl rfl (hp_old (heap_alloc_new w _) _) Tryd.underlying25 rfl (by kernel_rfl)) rfl ?_
      exact ⟨_, _, _, rfl, Bys.nil _, KC.out _⟩
set_option maxHeartbeats 16000000 in
theorem rtkget_few2 (A : Option Addr) (n c : Nat) (l : List UInt8) (w : World) (hB : Bys w A n c (2 :: l)) (hlo : 9 ≤ n) (hhi : n < 17) :
    Calls Tryd.prog 12 #[.slice A n c] w (GivesTk w tkZero 130) := by
  have hl := hB.len
  simp at hl
  have hle := hB.le
  have hcap := hB.cap
  obtain ⟨g, o, rfl, hg, hc⟩ := hB.at_ (by omega)
  have q1 : w.cell? ⟨g, o, none⟩ = some (.int .u8 2) := by have := hc 0 (by simp); simpa using this
  have hP := hB.part 1 9 (by omega) (by omega) (by omega)
  have e0 : (List.take 9 (2 :: l)).drop 1 = l.take 8 := rfl
  rw [e0] at hP
  have HN := Lib.hid (fun W (k : Below w.heap.size w W) => numB_of (l.take 8) (by simp; omega) ▸ rnumber_any _ _ _ _ W (hP.below k))
  generalize numOf (l.take 8) = t at *
  have d4 : decide (((n - 9 : Nat) : Int) < 8) = true := by simp; omega
  have d3 : decide ((n : Int) < 9) = false := by simp; omega
  have hci : (9 : Int) ≤ (c : Int) := by omega
  have hcn : 9 ≤ c := by omega
  have hc1 : (c = 1) = False := by simp; omega
  have hni : (9 : Int) ≤ (n : Int) := by omega
  have hnn : 9 ≤ n := by omega
  have hn0 : 0 < n := by omega
  clear hc hB hP hl e0
  have T0 : Below w.heap.size w (w.alloc (.cells #[.int .i64 0, .int .u64 0, .int .u64 0, .int .u64 0, .slice none 0 0] 25)) := (Below.refl _ w).alloc (Nat.le_refl _) _
  have KA := Lib.hid T0.drew
  have KB : Hid (Below w.heap.size w ((w.alloc (.cells #[.int .i64 0, .int .u64 0, .int .u64 0, .int .u64 0, .slice none 0 0] 25)).alloc (.cells #[.int .i64 0, .int .u64 0, .int .u64 0, .int .u64 0, .slice none 0 0] 25)).drew) := (T0.alloc (by simp) _).drew
  have KQ : Hid ((w.alloc (.cells #[.int .i64 0, .int .u64 0, .int .u64 0, .int .u64 0, .slice none 0 0] 25)).cell? ⟨g, o, none⟩ = some (.int .u8 2)) := (T0.cell hg).trans q1
  have KQ2 : Hid (((w.alloc (.cells #[.int .i64 0, .int .u64 0, .int .u64 0, .int .u64 0, .slice none 0 0] 25)).alloc (.cells #[.int .i64 0, .int .u64 0, .int .u64 0, .int .u64 0, .slice none 0 0] 25)).cell? ⟨g, o, none⟩ = some (.int .u8 2)) := ((T0.alloc (by simp) _).cell hg).trans q1
  have KQ3 : Hid (((w.alloc (.cells #[.int .i64 0, .int .u64 0, .int .u64 0, .int .u64 0, .slice none 0 0] 25)).alloc (.cells #[.int .i64 2, .int .u64 (t : Int), .int .u64 0, .int .u64 0, .slice none 0 0] 25)).cell? ⟨g, o, none⟩ = some (.int .u8 2)) := ((T0.alloc (by simp) _).cell hg).trans q1
  have KC : Hid (∀ o : Obj, Below w.heap.size w ((w.alloc (.cells #[.int .i64 0, .int .u64 0, .int .u64 0, .int .u64 0, .slice none 0 0] 25)).alloc o).drew) := fun o => (T0.alloc (by simp) _).drew
  clear T0
  go_enter Tryd.func12, Tryd.ntmps12
  go_wp2_with (fail)
  go_region_held3 (fun w' => w'.cell? ⟨g, o, none⟩ = some (.int .u8 2)) (first | exact KQ.out | exact KQ2.out | exact KQ3.out)
    (first
      | (go_at_call 21; (with_reducible refine (HN.out _ (by first | exact KA.out | exact KB.out)).mono ?_); rintro e w1 ⟨rfl, rfl⟩))
  all_goals
    go_wp2_with (fail)
    all_goals
      (try simp only [Exit.inBlock, Exit.then])
      refine bodyPost_ret (v := .tuple #[.agg #[.int .i64 0, .int .u64 0, .int .u64 0, .int .u64 0, .slice none 0 0], .int .i64 130]) (res_cell_tmp rfl _ _ w.heap.size 25 #[.int .i64 0, .int .u64 0, .int .u64 0, .int .u64 0, .slice none 0 0] (0, 0) _ _ rfl rfl (hp_old (heap_alloc_new w _) _) Tryd.underlying25 rfl (by kernel_rfl)) rfl ?_
      exact ⟨_, _, _, rfl, Bys.nil _, KC.out _⟩
set_option maxHeartbeats 16000000 in
theorem rtkget_few3 (A : Option Addr) (n c : Nat) (l : List UInt8) (w : World) (hB : Bys w A n c (3 :: l)) (hlo : 9 ≤ n) (hhi : n < 17) :
    Calls Tryd.prog 12 #[.slice A n c] w (GivesTk w tkZero 130) := by
  have hl := hB.len
  simp at hl
  have hle := hB.le
  have hcap := hB.cap
  obtain ⟨g, o, rfl, hg, hc⟩ := hB.at_ (by omega)
  have q1 : w.cell? ⟨g, o, none⟩ = some (.int .u8 3) := by have := hc 0 (by simp); simpa using this
  have hP := hB.part 1 9 (by omega) (by omega) (by omega)
  have e0 : (List.take 9 (3 :: l)).drop 1 = l.take 8 := rfl
  rw [e0] at hP
  have HN := Lib.hid (fun W (k : Below w.heap.size w W) => numB_of (l.take 8) (by simp; omega) ▸ rnumber_any _ _ _ _ W (hP.below k))
  generalize numOf (l.take 8) = t at *
  have d4 : decide (((n - 9 : Nat) : Int) < 8) = true := by simp; omega
  have d3 : decide ((n : Int) < 9) = false := by simp; omega
  have hci : (9 : Int) ≤ (c : Int) := by omega
  have hcn : 9 ≤ c := by omega
  have hc1 : (c = 1) = False := by simp; omega
  have hni : (9 : Int) ≤ (n : Int) := by omega
  have hnn : 9 ≤ n := by omega
  have hn0 : 0 < n := by omega
  clear hc hB hP hl e0
  have T0 : Below w.heap.size w (w.alloc (.cells #[.int .i64 0, .int .u64 0, .int .u64 0, .int .u64 0, .slice none 0 0] 25)) := (Below.refl _ w).alloc (Nat.le_refl _) _
  have KA := Lib.hid T0.drew
  have KB : Hid (Below w.heap.size w ((w.alloc (.cells #[.int .i64 0, .int .u64 0, .int .u64 0, .int .u64 0, .slice none 0 0] 25)).alloc (.cells #[.int .i64 0, .int .u64 0, .int .u64 0, .int .u64 0, .slice none 0 0] 25)).drew) := (T0.alloc (by simp) _).drew
  have KQ : Hid ((w.alloc (.cells #[.int .i64 0, .int .u64 0, .int .u64 0, .int .u64 0, .slice none 0 0] 25)).cell? ⟨g, o, none⟩ = some (.int .u8 3)) := (T0.cell hg).trans q1
  have KQ2 : Hid (((w.alloc (.cells #[.int .i64 0, .int .u64 0, .int .u64 0, .int .u64 0, .slice none 0 0] 25)).alloc (.cells #[.int .i64 0, .int .u64 0, .int .u64 0, .int .u64 0, .slice none 0 0] 25)).cell? ⟨g, o, none⟩ = some (.int .u8 3)) := ((T0.alloc (by simp) _).cell hg).trans q1
  have KQ3 : Hid (((w.alloc (.cells #[.int .i64 0, .int .u64 0, .int .u64 0, .int .u64 0, .slice none 0 0] 25)).alloc (.cells #[.int .i64 3, .int .u64 (t : Int), .int .u64 0, .int .u64 0, .slice none 0 0] 25)).cell? ⟨g, o, none⟩ = some (.int .u8 3)) := ((T0.alloc (by simp) _).cell hg).trans q1
  have KC : Hid (∀ o : Obj, Below w.heap.size w ((w.alloc (.cells #[.int .i64 0, .int .u64 0, .int .u64 0, .int .u64 0, .slice none 0 0] 25)).alloc o).drew) := fun o => (T0.alloc (by simp) _).drew
  clear T0
  go_enter Tryd.func12, Tryd.ntmps12
  go_wp2_with (fail)
  go_region_held3 (fun w' => w'.cell? ⟨g, o, none⟩ = some (.int .u8 3)) (first | exact KQ.out | exact KQ2.out | exact KQ3.out)
    (first
      | (go_at_call 21; (with_reducible refine (HN.out _ (by first | exact KA.out | exact KB.out)).mono ?_); rintro e w1 ⟨rfl, rfl⟩))
  all_goals
    go_wp2_with (fail)
    all_goals
      (try simp only [Exit.inBlock, Exit.then])
      refine bodyPost_ret (v := .tuple #[.agg #[.int .i64 0, .int .u64 0, .int .u64 0, .int .u64 0, .slice none 0 0], .int .i64 130]) (res_cell_tmp rfl _ _ w.heap.size 25 #[.int .i64 0, .int .u64 0, .int .u64 0, .int .u64 0, .slice none 0 0] (0, 0) _ _ rfl rfl (hp_old (heap_alloc_new w _) _) Tryd.underlying25 rfl (by kernel_rfl)) rfl ?_
      exact ⟨_, _, _, rfl, Bys.nil _, KC.out _⟩
set_option maxHeartbeats 16000000 in
theorem rtkget_few1b (A : Option Addr) (n c : Nat) (l : List UInt8) (w : World) (hB : Bys w A n c (1 :: l)) (hlo : 17 ≤ n) (hhi : n < 25) :
    Calls Tryd.prog 12 #[.slice A n c] w (GivesTk w tkZero 130) := by
  have hl := hB.len
  simp at hl
  have hle := hB.le
  have hcap := hB.cap
  obtain ⟨g, o, rfl, hg, hc⟩ := hB.at_ (by omega)
  have q1 : w.cell? ⟨g, o, none⟩ = some (.int .u8 1) := by have := hc 0 (by simp); simpa using this
  have hP := hB.part 1 9 (by omega) (by omega) (by omega)
  have e0 : (List.take 9 (1 :: l)).drop 1 = l.take 8 := rfl
  rw [e0] at hP
  have HN := Lib.hid (fun W (k : Below w.heap.size w W) => numB_of (l.take 8) (by simp; omega) ▸ rnumber_any _ _ _ _ W (hP.below k))
  generalize numOf (l.take 8) = t at *
  have B1 := hB.part 9 n (by omega) (by omega) (by omega)
  have e1 : (List.take n (1 :: l)).drop 9 = l.drop 8 := by rw [List.take_of_length_le (by simp; omega)]; rfl
  rw [e1] at B1
  have BH1 := B1.take 8 (by omega)
  have HN1 := Lib.hid (fun W (k : Below w.heap.size w W) => numB_of ((l.drop 8).take 8) (by simp; omega) ▸ rnumber_any _ _ _ _ W (BH1.below k))
  generalize numOf ((l.drop 8).take 8) = y at *
  have hc9 : (c = 9) = False := by simp; omega
  have d4 : decide (((n - 9 : Nat) : Int) < 8) = false := by simp; omega
  have d5 : decide (((n - 9 - 8 : Nat) : Int) < 8) = true := by simp; omega
  have hb1 : (8 : Int) ≤ ((n - 9 : Nat) : Int) := by omega
  have hb2 : 8 ≤ n - 9 := by omega
  have hb3 : (8 : Int) ≤ ((c - 9 : Nat) : Int) := by omega
  have hb4 : 8 ≤ c - 9 := by omega
  clear B1 BH1 e1
  have d3 : decide ((n : Int) < 9) = false := by simp; omega
  have hci : (9 : Int) ≤ (c : Int) := by omega
  have hcn : 9 ≤ c := by omega
  have hc1 : (c = 1) = False := by simp; omega
  have hni : (9 : Int) ≤ (n : Int) := by omega
  have hnn : 9 ≤ n := by omega
  have hn0 : 0 < n := by omega
  clear hc hB hP hl e0
  have T0 : Below w.heap.size w (w.alloc (.cells #[.int .i64 0, .int .u64 0, .int .u64 0, .int .u64 0, .slice none 0 0] 25)) := (Below.refl _ w).alloc (Nat.le_refl _) _
  have KA := Lib.hid T0.drew
  have KB : Hid (Below w.heap.size w ((w.alloc (.cells #[.int .i64 0, .int .u64 0, .int .u64 0, .int .u64 0, .slice none 0 0] 25)).alloc (.cells #[.int .i64 0, .int .u64 0, .int .u64 0, .int .u64 0, .slice none 0 0] 25)).drew) := (T0.alloc (by simp) _).drew
  have KQ : Hid ((w.alloc (.cells #[.int .i64 0, .int .u64 0, .int .u64 0, .int .u64 0, .slice none 0 0] 25)).cell? ⟨g, o, none⟩ = some (.int .u8 1)) := (T0.cell hg).trans q1
  have KQ2 : Hid (((w.alloc (.cells #[.int .i64 0, .int .u64 0, .int .u64 0, .int .u64 0, .slice none 0 0] 25)).alloc (.cells #[.int .i64 0, .int .u64 0, .int .u64 0, .int .u64 0, .slice none 0 0] 25)).cell? ⟨g, o, none⟩ = some (.int .u8 1)) := ((T0.alloc (by simp) _).cell hg).trans q1
  have KQ3 : Hid (((w.alloc (.cells #[.int .i64 0, .int .u64 0, .int .u64 0, .int .u64 0, .slice none 0 0] 25)).alloc (.cells #[.int .i64 1, .int .u64 (t : Int), .int .u64 0, .int .u64 0, .slice none 0 0] 25)).cell? ⟨g, o, none⟩ = some (.int .u8 1)) := ((T0.alloc (by simp) _).cell hg).trans q1
  have KC : Hid (∀ o : Obj, Below w.heap.size w ((w.alloc (.cells #[.int .i64 0, .int .u64 0, .int .u64 0, .int .u64 0, .slice none 0 0] 25)).alloc o).drew) := fun o => (T0.alloc (by simp) _).drew
  clear T0
  go_enter Tryd.func12, Tryd.ntmps12
  go_wp2_with (fail)
  go_region_held3 (fun w' => w'.cell? ⟨g, o, none⟩ = some (.int .u8 1)) (first | exact KQ.out | exact KQ2.out | exact KQ3.out)
    (first
      | (go_at_call 21; (with_reducible refine (HN.out _ (by first | exact KA.out | exact KB.out)).mono ?_); rintro e w1 ⟨rfl, rfl⟩))
  all_goals
    go_wp2_with (fail)
    refine (HN1.out _ (KC.out _)).mono ?_
    rintro e w1 ⟨rfl, rfl⟩
    go_wp2_with (fail)
    all_goals
      (try simp only [Exit.inBlock, Exit.then])
      refine bodyPost_ret (v := .tuple #[.agg #[.int .i64 0, .int .u64 0, .int .u64 0, .int .u64 0, .slice none 0 0], .int .i64 130]) (res_cell_tmp rfl _ _ w.heap.size 25 #[.int .i64 0, .int .u64 0, .int .u64 0, .int .u64 0, .slice none 0 0] (0, 0) _ _ rfl rfl (hp_old (heap_alloc_new w _) _) Tryd.underlying25 rfl (by kernel_rfl)) rfl ?_
      exact ⟨_, _, _, rfl, Bys.nil _, KC.out _⟩
end Go.Proofs.YtabackggnkplhaaDoor
