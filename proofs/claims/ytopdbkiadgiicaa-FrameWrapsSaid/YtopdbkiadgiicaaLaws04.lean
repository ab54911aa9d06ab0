/- The walks of layer 4's statements: each law answers true and leaves what was there as it was. -/
import Derived.Test.YtopdbkiadgiicaaLive04
namespace Go.Proofs.Ytopdbkiadgiicaa
open Go.RowKit

theorem most_ge (n m : Nat) (hn : n ≤ 96) (hm : m ≤ 2 * (n + 4) + 2) : decide ((m : Int) ≤ mostZ (n : Int)) = true := by
  unfold mostZ
  rw [if_neg (by omega)]
  simp
  omega

set_option maxRecDepth 20000 in
set_option maxHeartbeats 2000000 in
theorem walk_FrameWraps (A : Option Addr) (n c : Nat) (l : List UInt8) (k : Int) (w : World) (hB : Bys w A n c l) :
    Calls Try.prog 3 #[.slice A n c, .int .i64 k] w fun e w' => e = .returned (.bool true) ∧ Below w.heap.size w w' := by
  have hz : (mostZ k == mostZ k) = true := by simp
  have ML := Lib.hid (fun W => most_any k W)
  have MR := Lib.hid (fun W => rmost_any k W)
  generalize mostZ k = z at *
  by_cases hn : n ≤ 96
  · have HW := Lib.hid (fun a W t b => wrap_any a A n c l W t b hn)
    have HR := Lib.hid (fun W b => rwrap_any A n c l W b hn)
    have hm := most_ge n (frameW l).length hn (by have := (frameW_len l).2; have := hB.len; omega)
    have MN := Lib.hid (fun W => most_any (n : Int) W)
    obtain ⟨f, hf⟩ : ∃ f, frameW l = f := ⟨_, rfl⟩
    rw [hf] at HW HR hm
    clear hf
    obtain ⟨m, hm2⟩ : ∃ m, f.length = m := ⟨_, rfl⟩
    unfold GivesF at HW
    rw [hm2] at HW hm
    clear hm2
    generalize mostZ (n : Int) = y at *
    go_enter Try.func3, Try.ntmps3
    go_wp2_with (fail)
    refine (new_any w).mono ?_
    rintro e w1 ⟨a, rfl, Ta, T⟩
    have hB := hB.below T
    go_wp2_with (fail)
    refine (HW.out a _ Ta hB).mono ?_
    rintro e w2 ⟨g2, c2, rfl, O2, G⟩
    have B2 := O2.bys
    have T := nxt T G
    have hB := hB.below G
    clear G O2
    go_wp2_with (fail)
    refine (HR.out _ hB).mono ?_
    rintro e w3 ⟨A3, n3, c3, rfl, B3, G⟩
    have T := nxt T G
    have B2 := B2.below G
    clear G
    go_wp2_with (fail)
    refine (num_any _ _).mono ?_
    rintro e w' ⟨rfl, rfl⟩
    go_wp2_with (fail)
    refine (same_true _ _ _ _ _ _ _ _ B2 B3).mono ?_
    rintro e w4 ⟨rfl, G⟩
    have T := nxt T G
    clear G
    go_wp2_with (fail)
    refine (num_any _ _).mono ?_
    rintro e w' ⟨rfl, rfl⟩
    go_wp2_with (fail)
    refine (MN.out _).mono ?_
    rintro e w' ⟨rfl, rfl⟩
    go_wp2_with (fail)
    refine (ML.out _).mono ?_
    rintro e w' ⟨rfl, rfl⟩
    go_wp2_with (fail)
    refine (MR.out _).mono ?_
    rintro e w' ⟨rfl, rfl⟩
    go_wp2_with (fail)
    refine (live04 _).mono ?_
    rintro e w5 ⟨rfl, G⟩
    have T := nxt T G
    clear G
    go_wp2_with (fail)
    go_ret
    exact ⟨rfl, T⟩
  · have HW := Lib.hid (fun a W t => wrap_long a A n c W t (by omega))
    have HR := Lib.hid (fun W => rwrap_long A n c W (by omega))
    go_enter Try.func3, Try.ntmps3
    go_wp2_with (fail)
    refine (new_any w).mono ?_
    rintro e w1 ⟨a, rfl, Ta, T⟩
    go_wp2_with (fail)
    refine (HW.out a _ Ta).mono ?_
    rintro e w2 ⟨rfl, G⟩
    have T := nxt T G
    clear G
    go_wp2_with (fail)
    refine (HR.out _).mono ?_
    rintro e w3 ⟨rfl, rfl⟩
    go_wp2_with (fail)
    refine (num_any _ _).mono ?_
    rintro e w' ⟨rfl, rfl⟩
    go_wp2_with (fail)
    refine (same_true _ _ _ _ _ _ _ _ (Bys.nil _) (Bys.nil _)).mono ?_
    rintro e w4 ⟨rfl, G⟩
    have T := nxt T G
    clear G
    go_wp2_with (fail)
    refine (num_any _ _).mono ?_
    rintro e w' ⟨rfl, rfl⟩
    go_wp2_with (fail)
    refine (ML.out _).mono ?_
    rintro e w' ⟨rfl, rfl⟩
    go_wp2_with (fail)
    refine (MR.out _).mono ?_
    rintro e w' ⟨rfl, rfl⟩
    go_wp2_with (fail)
    refine (live04 _).mono ?_
    rintro e w5 ⟨rfl, G⟩
    have T := nxt T G
    clear G
    go_wp2_with (fail)
    go_ret
    exact ⟨rfl, T⟩

set_option maxRecDepth 20000 in
set_option maxHeartbeats 2000000 in
theorem walk_FrameOpens (A : Option Addr) (n c : Nat) (l : List UInt8) (w : World) (hB : Bys w A n c l) :
    Calls Try.prog 4 #[.slice A n c] w fun e w' => e = .returned (.bool true) ∧ Below w.heap.size w w' := by
  by_cases hn : 1000 < n
  · have hd : decide ((1000 : Int) < (n : Int)) = true := by simp; omega
    go_enter Try.func4, Try.ntmps4
    go_wp2_with (fail)
    refine (live04 _).mono ?_
    rintro e w1 ⟨rfl, T⟩
    go_wp2_with (fail)
    go_ret
    exact ⟨rfl, T⟩
  · have hd : decide ((1000 : Int) < (n : Int)) = false := by simp; omega
    have H1 := Lib.hid (fun a W t b => open_any a A n c l W t b (by omega))
    have H2 := Lib.hid (fun W b => ropen_any A n c l W b (by omega))
    have H3 := Lib.hid (fun a W t b => body_any a A n c l W t b (by omega))
    have H4 := Lib.hid (fun W b => rbody_any A n c l W b (by omega))
    obtain ⟨z1, hz1⟩ : ∃ z, frameE (frameO l) = z := ⟨_, rfl⟩
    obtain ⟨z2, hz2⟩ : ∃ z, frameE (frameB l) = z := ⟨_, rfl⟩
    rw [hz1] at H1 H2
    rw [hz2] at H3 H4
    have hq1 : (z1 == z1) = true := by simp
    have hq2 : (z2 == z2) = true := by simp
    clear hz1 hz2
    go_enter Try.func4, Try.ntmps4
    go_wp2_with (fail)
    refine (new_any w).mono ?_
    rintro e w1 ⟨a, rfl, Ta, T⟩
    have hB := hB.below T
    go_wp2_with (fail)
    refine (H1.out a _ Ta hB).mono ?_
    rintro e w2 ⟨A2, n2, c2, rfl, B2, G⟩
    have T := nxt T G
    have hB := hB.below G
    have Ta := Ta.below G
    clear G
    go_wp2_with (fail)
    refine (H2.out _ hB).mono ?_
    rintro e w3 ⟨A3, n3, c3, rfl, B3, G⟩
    have T := nxt T G
    have hB := hB.below G
    have Ta := Ta.below G
    have B2 := B2.below G
    clear G
    go_wp2_with (fail)
    refine (H3.out a _ Ta hB).mono ?_
    rintro e w4 ⟨A4, n4, c4, rfl, B4, G⟩
    have T := nxt T G
    have hB := hB.below G
    have B2 := B2.below G
    have B3 := B3.below G
    clear G
    go_wp2_with (fail)
    refine (H4.out _ hB).mono ?_
    rintro e w5 ⟨A5, n5, c5, rfl, B5, G⟩
    have T := nxt T G
    have B2 := B2.below G
    have B3 := B3.below G
    have B4 := B4.below G
    clear G
    go_wp2_with (fail)
    refine (num_any _ _).mono ?_
    rintro e w' ⟨rfl, rfl⟩
    go_wp2_with (fail)
    refine (same_true _ _ _ _ _ _ _ _ B2 B3).mono ?_
    rintro e w6 ⟨rfl, G⟩
    have T := nxt T G
    have B4 := B4.below G
    have B5 := B5.below G
    clear G
    go_wp2_with (fail)
    refine (num_any _ _).mono ?_
    rintro e w' ⟨rfl, rfl⟩
    go_wp2_with (fail)
    refine (same_true _ _ _ _ _ _ _ _ B4 B5).mono ?_
    rintro e w7 ⟨rfl, G⟩
    have T := nxt T G
    clear G
    go_wp2_with (fail)
    refine (live04 _).mono ?_
    rintro e w8 ⟨rfl, G⟩
    have T := nxt T G
    clear G
    go_wp2_with (fail)
    go_ret
    exact ⟨rfl, T⟩

set_option maxRecDepth 20000 in
set_option maxHeartbeats 2000000 in
theorem walk_FrameNil (A : Option Addr) (n c : Nat) (l : List UInt8) (w : World) (hB : Bys w A n c l) :
    Calls Try.prog 7 #[.slice A n c] w fun e w' => e = .returned (.bool true) ∧ Below w.heap.size w w' := by
  have hcap : n ≤ 9223372036854775807 := Nat.le_trans hB.le hB.cap
  have H1 := Lib.hid (fun W => wrap_nil (.pointer none) A n c W (cput_nil none 0 0 W))
  have H2 := Lib.hid (fun a W z => open_nil (.pointer (some a)) A n c W hcap (cput_zero a none 0 0 W z))
  have H3 := Lib.hid (fun W => body_nil (.pointer none) A n c W (cput_nil none 0 0 W))
  obtain ⟨Z, hZ, hZ1⟩ : ∃ Z : Array Value, (∀ w, (zeroValue 40).run Try.prog w = .ok (.agg Z) w) ∧ Z[1]? = some (.int .u32 0) :=
    ⟨(List.replicate 256 (Value.int .u32 0)).toArray, fun w => by kernel_rfl, by rw [List.getElem?_toArray, List.getElem?_replicate, if_pos (by decide)]⟩
  have HZ := Lib.hid hZ1; clear hZ1
  clear hB
  go_enter Try.func7, Try.ntmps7
  go_wp2_with (fail)
  refine (H1.out _).mono ?_
  rintro e w1 ⟨rfl, T⟩
  go_wp2_with (fail)
  have hz : ZTab (w1.alloc (.cells Z 40)) ⟨w1.heap.size, 0, none⟩ := ⟨w1.heap.size, rfl, by rw [cell_of_row _ _ 1 Z _ _ (heap_alloc_new w1 _)]; exact HZ.out⟩
  refine (H2.out _ _ hz).mono ?_
  rintro e w2 ⟨rfl, G⟩
  have T := nxt (T.alloc T.size _) G
  clear G hz
  go_wp2_with (fail)
  refine (H3.out _).mono ?_
  rintro e w3 ⟨rfl, G⟩
  have T := nxt T G
  clear G
  go_wp2_with (fail)
  refine (num_any _ _).mono ?_
  rintro e w' ⟨rfl, rfl⟩
  go_wp2_with (fail)
  refine (num_any _ _).mono ?_
  rintro e w' ⟨rfl, rfl⟩
  go_wp2_with (fail)
  refine (num_any _ _).mono ?_
  rintro e w' ⟨rfl, rfl⟩
  go_wp2_with (fail)
  refine (live04 _).mono ?_
  rintro e w4 ⟨rfl, G⟩
  have T := nxt T G
  clear G
  go_wp2_with (fail)
  go_ret
  exact ⟨rfl, T⟩
end Go.Proofs.Ytopdbkiadgiicaa
