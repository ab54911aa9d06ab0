/- What kedgeref14.Get answers. -/
import Derived.Test.YtodgnfjaidiibaaRsl2
import Derived.Test.YtodgnfjaidiibaaRnum
import Derived.Test.YtodgnfjaidiibaaCutB
import Derived.Test.YtodgnfjaidiibaaRcopy
namespace Go.Proofs.Ytodgnfjaidiibaa
open Go.RowKit
set_option maxRecDepth 20000

/-- A call's end that makes a packet and a number of the kind int. -/
def GivesSl (w : World) (v : Bool × Nat × Nat × List UInt8) (r : Int) (e : Ending) (w' : World) : Prop :=
  ∃ A n c, e = .returned (.tuple #[.agg #[.bool v.1, .int .i64 (v.2.1 : Int), .int .u64 (v.2.2.1 : Int), .slice A n c], .int .i64 r]) ∧ Bys w' A n c v.2.2.2 ∧ Below w.heap.size w w'
def slZero : Bool × Nat × Nat × List UInt8 := (false, 0, 0, [])
theorem slzero_ret {w W : World} (r : Int) (T : Below w.heap.size w W) : GivesSl w slZero r (.returned (.tuple #[.agg #[.bool false, .int .i64 0, .int .u64 0, .slice none 0 0], .int .i64 r])) W :=
  ⟨none, 0, 0, rfl, Bys.nil _, T⟩
set_option maxHeartbeats 4000000 in
theorem rslget_mod (A : Option Addr) (n c : Nat) (m : Int) (w : World) (h : m < 1 ∨ 65536 < m) :
    Calls Try.prog 12 #[.slice A n c, .int .i64 m] w (GivesSl w slZero 1) := by
  rcases h with h | h
  · have d1 : decide (m < 1) = true := by simp; omega
    go_enter Try.func12, Try.ntmps12
    go_wp2
    (try simp only [Exit.inBlock, Exit.then])
    refine bodyPost_ret (v := .tuple #[.agg #[.bool false, .int .i64 0, .int .u64 0, .slice none 0 0], .int .i64 1]) (res_cell_tmp rfl _ _ w.heap.size 25 #[.bool false, .int .i64 0, .int .u64 0, .slice none 0 0] (0, 0) _ _ rfl rfl (heap_alloc_new w _) Try.underlying25 rfl (by kernel_rfl)) rfl ?_
    exact ⟨_, _, _, rfl, Bys.nil _, (Below.refl _ _).alloc (Nat.le_refl _) _⟩
  · have d1 : decide (m < 1) = false := by simp; omega
    have d2 : decide (65536 < m) = true := by simp; omega
    go_enter Try.func12, Try.ntmps12
    go_wp2
    (try simp only [Exit.inBlock, Exit.then])
    refine bodyPost_ret (v := .tuple #[.agg #[.bool false, .int .i64 0, .int .u64 0, .slice none 0 0], .int .i64 1]) (res_cell_tmp rfl _ _ w.heap.size 25 #[.bool false, .int .i64 0, .int .u64 0, .slice none 0 0] (0, 0) _ _ rfl rfl (heap_alloc_new w _) Try.underlying25 rfl (by kernel_rfl)) rfl ?_
    exact ⟨_, _, _, rfl, Bys.nil _, (Below.refl _ _).alloc (Nat.le_refl _) _⟩
set_option maxHeartbeats 4000000 in
theorem rslget_short (A : Option Addr) (n c : Nat) (m : Int) (w : World) (hm : 1 ≤ m ∧ m ≤ 65536) (hn : n < 3) :
    Calls Try.prog 12 #[.slice A n c, .int .i64 m] w (GivesSl w slZero 130) := by
  have d1 : decide (m < 1) = false := by simp; omega
  have d2 : decide (65536 < m) = false := by simp; omega
  have d3 : decide ((n : Int) < 3) = true := by simp; omega
  go_enter Try.func12, Try.ntmps12
  go_wp2
  (try simp only [Exit.inBlock, Exit.then])
  refine bodyPost_ret (v := .tuple #[.agg #[.bool false, .int .i64 0, .int .u64 0, .slice none 0 0], .int .i64 130]) (res_cell_tmp rfl _ _ w.heap.size 25 #[.bool false, .int .i64 0, .int .u64 0, .slice none 0 0] (0, 0) _ _ rfl rfl (heap_alloc_new w _) Try.underlying25 rfl (by kernel_rfl)) rfl ?_
  exact ⟨_, _, _, rfl, Bys.nil _, (Below.refl _ _).alloc (Nat.le_refl _) _⟩
set_option maxHeartbeats 4000000 in
theorem rslget_head (A : Option Addr) (n c : Nat) (x : UInt8) (l : List UInt8) (m : Int) (w : World) (hm : 1 ≤ m ∧ m ≤ 65536) (hB : Bys w A n c (x :: l)) (hn : 3 ≤ n) (hx : 1 < x.toNat ∨ x.toNat = 1 ∧ n ≠ 11) :
    Calls Try.prog 12 #[.slice A n c, .int .i64 m] w (GivesSl w slZero 130) := by
  have d1 : decide (m < 1) = false := by simp; omega
  have d2 : decide (65536 < m) = false := by simp; omega
  have d3 : decide ((n : Int) < 3) = false := by simp; omega
  obtain ⟨g, o, rfl, hg, hc⟩ := hB.at_ (by omega)
  have q1 := hc 0 (by simp)
  have hle := hB.le
  have hcap := hB.cap
  have hn0 : 0 < n := by omega
  simp only [List.getElem_cons_zero, Nat.add_zero] at q1
  clear hc hB
  have hx3 : 1 < (x.toNat : Int) ∨ (x.toNat : Int) = 1 ∧ n ≠ 11 := by omega
  generalize (x.toNat : Int) = h at *
  clear hx
  rcases hx3 with hx | ⟨rfl, hx⟩
  · have d4 : decide (1 < h) = true := by simp; omega
    go_enter Try.func12, Try.ntmps12
    go_wp2
    (try simp only [Exit.inBlock, Exit.then])
    refine bodyPost_ret (v := .tuple #[.agg #[.bool false, .int .i64 0, .int .u64 0, .slice none 0 0], .int .i64 130]) (res_cell_tmp rfl _ _ w.heap.size 25 #[.bool false, .int .i64 0, .int .u64 0, .slice none 0 0] (0, 0) _ _ rfl rfl (heap_alloc_new w _) Try.underlying25 rfl (by kernel_rfl)) rfl ?_
    exact ⟨_, _, _, rfl, Bys.nil _, (Below.refl _ _).alloc (Nat.le_refl _) _⟩
  · have d4 : ((n : Int) != 11) = true := by simp; omega
    go_enter Try.func12, Try.ntmps12
    go_wp2
    (try simp only [Exit.inBlock, Exit.then])
    refine bodyPost_ret (v := .tuple #[.agg #[.bool false, .int .i64 0, .int .u64 0, .slice none 0 0], .int .i64 130]) (res_cell_tmp rfl _ _ w.heap.size 25 #[.bool false, .int .i64 0, .int .u64 0, .slice none 0 0] (0, 0) _ _ rfl rfl (heap_alloc_new w _) Try.underlying25 rfl (by kernel_rfl)) rfl ?_
    exact ⟨_, _, _, rfl, Bys.nil _, (Below.refl _ _).alloc (Nat.le_refl _) _⟩
set_option maxHeartbeats 8000000 in
theorem rslget_ack (A : Option Addr) (n c : Nat) (y z : UInt8) (r : List UInt8) (m : Int) (w : World) (hm : 1 ≤ m ∧ m ≤ 65536) (hB : Bys w A n c (1 :: y :: z :: r)) (hr8 : r.length = 8) (R : Bool) (hR : slRight true (numOf [y, z] : Int) (numOf r) 0 m = R) :
    Calls Try.prog 12 #[.slice A n c, .int .i64 m] w (GivesSl w (if R then (true, numOf [y, z], numOf r, []) else slZero) (if R then 0 else 130)) := by
  have d1 : decide (m < 1) = false := by simp; omega
  have d2 : decide (65536 < m) = false := by simp; omega
  have hl := hB.len
  simp at hl
  obtain rfl : n = 11 := by omega
  obtain ⟨g, o, rfl, hg, hc⟩ := hB.at_ (by omega)
  have q1 : w.cell? ⟨g, o, none⟩ = some (.int .u8 1) := by have := hc 0 (by simp); simpa using this
  have hle := hB.le
  have hcap := hB.cap
  have hP := hB.part 1 3 (by omega) (by omega) (by omega)
  have hD := hB.part 3 11 (by omega) (by omega) (by omega)
  simp at hP hD
  rw [List.take_of_length_le (by omega)] at hD
  have HN := Lib.hid (fun W (k : Below w.heap.size w W) => numB_of [y, z] (by simp) ▸ rnumber_any _ _ _ _ W (hP.below k))
  have HN2 := Lib.hid (fun W (k : Below w.heap.size w W) => numB_of r (by omega) ▸ rnumber_any _ _ _ _ W (hD.below k))
  have hq : numOf [y, z] < 65536 := by have := numOf_bound [y, z]; simpa using this
  have hu : numOf r < 18446744073709551616 := by have := numOf_bound r; rw [hr8] at this; simpa using this
  have HR := Lib.hid (fun W => rslright_any true (numOf [y, z] : Int) (numOf r) none 0 0 m W)
  rw [hR] at HR
  generalize numOf [y, z] = s at *
  generalize numOf r = u at *
  have hws : IntKind.i64.wrap (s : Int) = (s : Int) := IntWalk.i64_in _ (by omega)
  have hci : (3 : Int) ≤ (c : Int) := by omega
  have hcn : 3 ≤ c := by omega
  have hc1 : (c = 1) = False := by simp; omega
  have hc3 : (c = 3) = False := by simp; omega
  clear hc hB hP hD hR hl hr8
  cases R
  · go_enter Try.func12, Try.ntmps12
    have T0 : Below w.heap.size w (w.alloc (.cells #[.bool false, .int .i64 0, .int .u64 0, .slice none 0 0] 25)) := (Below.refl _ w).alloc (Nat.le_refl _) _
    have KA := Lib.hid T0.drew
    have KB : Hid (Below w.heap.size w ((w.alloc (.cells #[.bool false, .int .i64 0, .int .u64 0, .slice none 0 0] 25)).alloc (.cells #[.bool false, .int .i64 0, .int .u64 0, .slice none 0 0] 25)).drew) := (T0.alloc (by simp) _).drew
    have KQ : Hid ((w.alloc (.cells #[.bool false, .int .i64 0, .int .u64 0, .slice none 0 0] 25)).cell? ⟨g, o, none⟩ = some (.int .u8 1)) := (T0.cell hg).trans q1
    have KQ2 : Hid (((w.alloc (.cells #[.bool false, .int .i64 0, .int .u64 0, .slice none 0 0] 25)).alloc (.cells #[.bool false, .int .i64 0, .int .u64 0, .slice none 0 0] 25)).cell? ⟨g, o, none⟩ = some (.int .u8 1)) := ((T0.alloc (by simp) _).cell hg).trans q1
    have KQ3 : Hid (((w.alloc (.cells #[.bool false, .int .i64 0, .int .u64 0, .slice none 0 0] 25)).alloc (.cells #[.bool true, .int .i64 (s : Int), .int .u64 0, .slice none 0 0] 25)).cell? ⟨g, o, none⟩ = some (.int .u8 1)) := ((T0.alloc (by simp) _).cell hg).trans q1
    have KC : Hid (Below w.heap.size w ((w.alloc (.cells #[.bool false, .int .i64 0, .int .u64 0, .slice none 0 0] 25)).alloc (.cells #[.bool true, .int .i64 (s : Int), .int .u64 0, .slice none 0 0] 25)).drew) := (T0.alloc (by simp) _).drew
    clear T0
    go_wp2_with (fail)
    go_region_held3 (fun w' => w'.cell? ⟨g, o, none⟩ = some (.int .u8 1)) (first | exact KQ.out | exact KQ2.out | exact KQ3.out)
      (first
        | (go_at_call 22; (with_reducible refine (HN.out _ (by first | exact KA.out | exact KB.out)).mono ?_); rintro e w1 ⟨rfl, rfl⟩))
    all_goals
      go_wp2_with (fail)
      refine (HN2.out _ KC.out).mono ?_
      rintro e w1 ⟨rfl, rfl⟩
      go_wp2_with (fail)
      refine (HR.out _).mono ?_
      rintro e w1 ⟨rfl, T1⟩
      have T1 := undrew T1
      obtain ⟨b0, b1⟩ := two_rows T1
      have B0 := Lib.hid b0
      obtain ⟨⟨c0, c1, c2, c3⟩, f0, f1, f2, f3⟩ := row4 b0
      obtain ⟨⟨c4, c5, c6, c7⟩, _, _, _, _⟩ := row4 b1
      have T1 := nxt (((Below.refl _ w).alloc (Nat.le_refl _) _).alloc (by simp) _) T1
      clear b0 b1
      go_wp2_with (fail)
      (try simp only [Exit.inBlock, Exit.then])
      refine bodyPost_ret (v := .tuple #[.agg #[.bool false, .int .i64 0, .int .u64 0, .slice none 0 0], .int .i64 130]) (res_cell_tmp rfl _ _ w.heap.size 25 #[.bool false, .int .i64 0, .int .u64 0, .slice none 0 0] (0, 0) _ _ rfl rfl (stored4 B0.out _ _ _ _) Try.underlying25 rfl (by kernel_rfl)) rfl ?_
      exact ⟨_, _, _, rfl, Bys.nil _, below4 T1 (Nat.le_refl _) _ _ _ _⟩
  · go_enter Try.func12, Try.ntmps12
    have T0 : Below w.heap.size w (w.alloc (.cells #[.bool false, .int .i64 0, .int .u64 0, .slice none 0 0] 25)) := (Below.refl _ w).alloc (Nat.le_refl _) _
    have KA := Lib.hid T0.drew
    have KB : Hid (Below w.heap.size w ((w.alloc (.cells #[.bool false, .int .i64 0, .int .u64 0, .slice none 0 0] 25)).alloc (.cells #[.bool false, .int .i64 0, .int .u64 0, .slice none 0 0] 25)).drew) := (T0.alloc (by simp) _).drew
    have KQ : Hid ((w.alloc (.cells #[.bool false, .int .i64 0, .int .u64 0, .slice none 0 0] 25)).cell? ⟨g, o, none⟩ = some (.int .u8 1)) := (T0.cell hg).trans q1
    have KQ2 : Hid (((w.alloc (.cells #[.bool false, .int .i64 0, .int .u64 0, .slice none 0 0] 25)).alloc (.cells #[.bool false, .int .i64 0, .int .u64 0, .slice none 0 0] 25)).cell? ⟨g, o, none⟩ = some (.int .u8 1)) := ((T0.alloc (by simp) _).cell hg).trans q1
    have KQ3 : Hid (((w.alloc (.cells #[.bool false, .int .i64 0, .int .u64 0, .slice none 0 0] 25)).alloc (.cells #[.bool true, .int .i64 (s : Int), .int .u64 0, .slice none 0 0] 25)).cell? ⟨g, o, none⟩ = some (.int .u8 1)) := ((T0.alloc (by simp) _).cell hg).trans q1
    have KC : Hid (Below w.heap.size w ((w.alloc (.cells #[.bool false, .int .i64 0, .int .u64 0, .slice none 0 0] 25)).alloc (.cells #[.bool true, .int .i64 (s : Int), .int .u64 0, .slice none 0 0] 25)).drew) := (T0.alloc (by simp) _).drew
    clear T0
    go_wp2_with (fail)
    go_region_held3 (fun w' => w'.cell? ⟨g, o, none⟩ = some (.int .u8 1)) (first | exact KQ.out | exact KQ2.out | exact KQ3.out)
      (first
        | (go_at_call 22; (with_reducible refine (HN.out _ (by first | exact KA.out | exact KB.out)).mono ?_); rintro e w1 ⟨rfl, rfl⟩))
    all_goals
      go_wp2_with (fail)
      refine (HN2.out _ KC.out).mono ?_
      rintro e w1 ⟨rfl, rfl⟩
      go_wp2_with (fail)
      refine (HR.out _).mono ?_
      rintro e w1 ⟨rfl, T1⟩
      have T1 := undrew T1
      obtain ⟨b0, b1⟩ := two_rows T1
      have B0 := Lib.hid b0
      obtain ⟨⟨c0, c1, c2, c3⟩, f0, f1, f2, f3⟩ := row4 b0
      obtain ⟨⟨c4, c5, c6, c7⟩, _, _, _, _⟩ := row4 b1
      have T1 := nxt (((Below.refl _ w).alloc (Nat.le_refl _) _).alloc (by simp) _) T1
      clear b0 b1
      go_wp2_with (fail)
      (try simp only [Exit.inBlock, Exit.then])
      refine bodyPost_ret (v := .tuple #[.agg #[.bool true, .int .i64 (s : Int), .int .u64 (u : Int), .slice none 0 0], .int .i64 0]) (res_cell_tmp rfl _ _ w.heap.size 25 #[.bool true, .int .i64 (s : Int), .int .u64 (u : Int), .slice none 0 0] (0, 0) _ _ rfl rfl (stored4 B0.out _ _ _ _) Try.underlying25 rfl (by kernel_rfl)) rfl ?_
      exact ⟨_, _, _, rfl, Bys.nil _, below4 T1 (Nat.le_refl _) _ _ _ _⟩
end Go.Proofs.Ytodgnfjaidiibaa
