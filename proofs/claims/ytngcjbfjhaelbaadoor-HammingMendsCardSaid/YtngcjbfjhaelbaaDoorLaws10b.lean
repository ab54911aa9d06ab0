/- The walk of layer 10's HammingMends, over the contracts of hamming. -/
import Derived.Test.YtngcjbfjhaelbaaDoorLaws10
import Derived.Deep.QuietTactic
import Derived.BigQuiet
import Derived.Laws.BitsAllLaws
namespace Go.Proofs.YtngcjbfjhaelbaaDoor
open Go.RowKit

theorem u8_xy (x y : UInt8) : bits BinOp.xor IntKind.u8 (x.toNat : Int) (y.toNat : Int) = ((x ^^^ y).toNat : Int) := by
  rw [u8_xor_nat _ _ x.toNat_lt y.toNat_lt, UInt8.toNat_xor]
/-- the byte whose bit at this place alone is 1 -/
def bitB (k : Nat) : UInt8 := UInt8.ofNat (2 ^ k)
theorem bitB_num (k : Nat) (h : k ≤ 7) : (bitB k).toNat = 2 ^ k := by
  have : (2 : Nat) ^ k ≤ 2 ^ 7 := Nat.pow_le_pow_right (by decide) h
  unfold bitB
  rw [UInt8.toNat_ofNat', Nat.mod_eq_of_lt (by omega)]
theorem bitB_int (k : Nat) (h : k ≤ 7) : (2 : Int) ^ k % 256 = ((bitB k).toNat : Int) := by
  have key : ∀ k : Fin 8, (2 : Int) ^ k.val % 256 = ((2 ^ k.val : Nat) : Int) := by decide +kernel
  rw [bitB_num k h]
  exact key ⟨k, by omega⟩
set_option maxHeartbeats 8000000 in
theorem walk_HammingMends {Tab : World → Prop} (C : HaC Tab) (a b p o : Int) (w : World) (hT : Tab w) (ha : In10 a) (hb : In10 b) (hp : In10 p) (ho : In10 o) :
    Calls Tryd.prog 4 #[.agg #[.int .i64 a, .int .i64 b, .int .i64 p, .int .i64 o]] w fun e w' => e = .returned (.bool true) ∧ Below w.heap.size w w' := by
  obtain ⟨w0, hw0⟩ : ∃ w0, w0 = w.alloc (.cells #[.int .i64 a, .int .i64 b, .int .i64 p, .int .i64 o] 36) := ⟨_, rfl⟩
  have T0 : Below w.heap.size w w0 := by rw [hw0]; exact (Below.refl _ _).alloc (Nat.le_refl _) _
  have hY : w0.heap[w.heap.size]? = some (.cells #[.int .i64 a, .int .i64 b, .int .i64 p, .int .i64 o] 36 (0, 0)) := by rw [hw0]; exact heap_alloc_new w _
  have c0 : (w.alloc (.cells #[.int .i64 a, .int .i64 b, .int .i64 p, .int .i64 o] 36)).cell? ⟨w.heap.size, 0, none⟩ = some (.int .i64 a) := by rw [← hw0]; exact cell_of_row _ _ _ _ _ _ hY
  have c1 : (w.alloc (.cells #[.int .i64 a, .int .i64 b, .int .i64 p, .int .i64 o] 36)).cell? ⟨w.heap.size, 1, none⟩ = some (.int .i64 b) := by rw [← hw0]; exact cell_of_row _ _ _ _ _ _ hY
  have c2 : (w.alloc (.cells #[.int .i64 a, .int .i64 b, .int .i64 p, .int .i64 o] 36)).cell? ⟨w.heap.size, 2, none⟩ = some (.int .i64 p) := by rw [← hw0]; exact cell_of_row _ _ _ _ _ _ hY
  have c3 : (w.alloc (.cells #[.int .i64 a, .int .i64 b, .int .i64 p, .int .i64 o] 36)).cell? ⟨w.heap.size, 3, none⟩ = some (.int .i64 o) := by rw [← hw0]; exact cell_of_row _ _ _ _ _ _ hY
  have HL := Lib.hid (fun W (k : Below w.heap.size w W) => live10_any C W (C.keep _ _ hT k))
  have HWD := Lib.hid (fun h W (hh : In10 h) (k : Below w.heap.size w W) => C.word h W hh (C.keep _ _ hT k))
  have HHF := Lib.hid (fun x W (k : Below w.heap.size w W) => C.half x W (C.keep _ _ hT k))
  have HAP := Lib.hid (fun x y W (k : Below w.heap.size w W) => C.apart x y W (C.keep _ _ hT k))
  have HN := Lib.hid num10_any
  have HT0 := Lib.hid T0
  rw [hw0] at HT0
  clear hY hw0 T0 hT
  by_cases h1 : a < 0
  · have d1 : decide (a < 0) = true := by simpa using h1
    clear ha hb hp ho h1
    go_enter Tryd.func4, Tryd.ntmps4
    go_wp2_with (fail)
    go_quiet (fail)
    go_wp2_with (fail)
    refine (HL.out _ (below_drewN' HT0.out _)).mono ?_
    rintro e w9 ⟨rfl, T9⟩
    have T9 := nxt (below_drewN' HT0.out _) T9
    go_wp2
    go_ret
    exact ⟨rfl, T9⟩
  have d1 : decide (a < 0) = false := by simpa using h1
  by_cases h2 : 15 < a
  · have d2 : decide (15 < a) = true := by simpa using h2
    clear ha hb hp ho h1 h2
    go_enter Tryd.func4, Tryd.ntmps4
    go_wp2_with (fail)
    go_quiet (fail)
    go_wp2_with (fail)
    refine (HL.out _ (below_drewN' HT0.out _)).mono ?_
    rintro e w9 ⟨rfl, T9⟩
    have T9 := nxt (below_drewN' HT0.out _) T9
    go_wp2
    go_ret
    exact ⟨rfl, T9⟩
  have d2 : decide (15 < a) = false := by simpa using h2
  by_cases h3 : b < 0
  · have d3 : decide (b < 0) = true := by simpa using h3
    clear ha hb hp ho h1 h2 h3
    go_enter Tryd.func4, Tryd.ntmps4
    go_wp2_with (fail)
    go_quiet (fail)
    go_wp2_with (fail)
    refine (HL.out _ (below_drewN' HT0.out _)).mono ?_
    rintro e w9 ⟨rfl, T9⟩
    have T9 := nxt (below_drewN' HT0.out _) T9
    go_wp2
    go_ret
    exact ⟨rfl, T9⟩
  have d3 : decide (b < 0) = false := by simpa using h3
  by_cases h4 : 15 < b
  · have d4 : decide (15 < b) = true := by simpa using h4
    clear ha hb hp ho h1 h2 h3 h4
    go_enter Tryd.func4, Tryd.ntmps4
    go_wp2_with (fail)
    go_quiet (fail)
    go_wp2_with (fail)
    refine (HL.out _ (below_drewN' HT0.out _)).mono ?_
    rintro e w9 ⟨rfl, T9⟩
    have T9 := nxt (below_drewN' HT0.out _) T9
    go_wp2
    go_ret
    exact ⟨rfl, T9⟩
  have d4 : decide (15 < b) = false := by simpa using h4
  by_cases h5 : p < 0
  · have d5 : decide (p < 0) = true := by simpa using h5
    clear ha hb hp ho h1 h2 h3 h4 h5
    go_enter Tryd.func4, Tryd.ntmps4
    go_wp2_with (fail)
    go_quiet (fail)
    go_wp2_with (fail)
    refine (HL.out _ (below_drewN' HT0.out _)).mono ?_
    rintro e w9 ⟨rfl, T9⟩
    have T9 := nxt (below_drewN' HT0.out _) T9
    go_wp2
    go_ret
    exact ⟨rfl, T9⟩
  have d5 : decide (p < 0) = false := by simpa using h5
  by_cases h6 : 7 < p
  · have d6 : decide (7 < p) = true := by simpa using h6
    clear ha hb hp ho h1 h2 h3 h4 h5 h6
    go_enter Tryd.func4, Tryd.ntmps4
    go_wp2_with (fail)
    go_quiet (fail)
    go_wp2_with (fail)
    refine (HL.out _ (below_drewN' HT0.out _)).mono ?_
    rintro e w9 ⟨rfl, T9⟩
    have T9 := nxt (below_drewN' HT0.out _) T9
    go_wp2
    go_ret
    exact ⟨rfl, T9⟩
  have d6 : decide (7 < p) = false := by simpa using h6
  by_cases h7 : o < 0
  · have d7 : decide (o < 0) = true := by simpa using h7
    clear ha hb hp ho h1 h2 h3 h4 h5 h6 h7
    go_enter Tryd.func4, Tryd.ntmps4
    go_wp2_with (fail)
    go_quiet (fail)
    go_wp2_with (fail)
    refine (HL.out _ (below_drewN' HT0.out _)).mono ?_
    rintro e w9 ⟨rfl, T9⟩
    have T9 := nxt (below_drewN' HT0.out _) T9
    go_wp2
    go_ret
    exact ⟨rfl, T9⟩
  have d7 : decide (o < 0) = false := by simpa using h7
  by_cases h8 : 7 < o
  · have d8 : decide (7 < o) = true := by simpa using h8
    clear ha hb hp ho h1 h2 h3 h4 h5 h6 h7 h8
    go_enter Tryd.func4, Tryd.ntmps4
    go_wp2_with (fail)
    go_quiet (fail)
    go_wp2_with (fail)
    refine (HL.out _ (below_drewN' HT0.out _)).mono ?_
    rintro e w9 ⟨rfl, T9⟩
    have T9 := nxt (below_drewN' HT0.out _) T9
    go_wp2
    go_ret
    exact ⟨rfl, T9⟩
  have d8 : decide (7 < o) = false := by simpa using h8
  obtain ⟨ka, rfl⟩ := Int.eq_ofNat_of_zero_le (show 0 ≤ a by omega)
  obtain ⟨kb, rfl⟩ := Int.eq_ofNat_of_zero_le (show 0 ≤ b by omega)
  obtain ⟨kp, rfl⟩ := Int.eq_ofNat_of_zero_le (show 0 ≤ p by omega)
  obtain ⟨ko, rfl⟩ := Int.eq_ofNat_of_zero_le (show 0 ≤ o by omega)
  have la : ka ≤ 15 := by omega
  have lb : kb ≤ 15 := by omega
  have lp : kp ≤ 7 := by omega
  have lo : ko ≤ 7 := by omega
  have wI : ∀ k : Nat, k ≤ 15 → wordI (k : Int) = ((wordB k).toNat : Int) := fun k hk => by unfold wordI; rw [if_pos (by omega), Int.toNat_natCast, wordB_num]
  have wE : ∀ k : Nat, k ≤ 15 → wordE (k : Int) = 0 := fun k hk => by unfold wordE; rw [if_pos (by omega)]
  have HWA := Lib.hid (fun W (k : Below w.heap.size w W) => HWD.out (ka : Int) W ha k)
  have HWB := Lib.hid (fun W (k : Below w.heap.size w W) => HWD.out (kb : Int) W hb k)
  simp only [wI ka la, wE ka la] at HWA
  simp only [wI kb lb, wE kb lb] at HWB
  have fV : halfN (wordB ka).toNat = (ka, 0, 0) := by rw [wordB_num]; exact word_half ⟨ka, by omega⟩
  have fO : halfN (wordB ka ^^^ bitB kp).toNat = (ka, 1, 0) := by rw [UInt8.toNat_xor, wordB_num, bitB_num kp lp]; exact word_mend ⟨ka, by omega⟩ ⟨kp, by omega⟩
  have fT : kp ≠ ko → halfN (wordB ka ^^^ bitB kp ^^^ bitB ko).toNat = (0, 0, 100) := fun hne => by rw [UInt8.toNat_xor, UInt8.toNat_xor, wordB_num, bitB_num kp lp, bitB_num ko lo]; exact word_two ⟨ka, by omega⟩ ⟨kp, by omega⟩ ⟨ko, by omega⟩ (fun e => hne (congrArg Fin.val e))
  have fA : ka ≠ kb → 4 ≤ apartN (wordB ka).toNat (wordB kb).toNat := fun hne => by rw [wordB_num, wordB_num]; exact words_apart ⟨ka, by omega⟩ ⟨kb, by omega⟩ (fun e => hne (congrArg Fin.val e))
  have np := bitB_int kp lp
  have no := bitB_int ko lo
  have HV := Lib.hid (fun W (k : Below w.heap.size w W) => HHF.out (wordB ka) W k)
  have HO := Lib.hid (fun W (k : Below w.heap.size w W) => HHF.out (wordB ka ^^^ bitB kp) W k)
  have HTT := Lib.hid (fun W (k : Below w.heap.size w W) => HHF.out (wordB ka ^^^ bitB kp ^^^ bitB ko) W k)
  have HAA := Lib.hid (fun W (k : Below w.heap.size w W) => HAP.out (wordB ka) (wordB kb) W k)
  rw [fV] at HV
  rw [fO] at HO
  generalize wordB ka = vb at *
  generalize wordB kb = wb at *
  have hx1 := u8_xy vb (bitB kp)
  have hx2 := u8_xy (vb ^^^ bitB kp) (bitB ko)
  generalize bitB kp = pb at *
  generalize bitB ko = ob at *
  generalize vb ^^^ pb = x1 at *
  generalize x1 ^^^ ob = x2 at *
  clear h1 h2 h3 h4 h5 h6 h7 h8 ha hb hp ho wI wE HWD HHF HAP
  go_enter Tryd.func4, Tryd.ntmps4
  go_wp2_with (fail)
  go_quiet (fail)
  go_wp2_with (fail)
  refine (HWA.out _ (below_drewN' HT0.out _)).mono ?_
  rintro e w1 ⟨rfl, T1⟩
  have T1 := nxt (below_drewN' HT0.out _) T1
  go_wp2_with (fail)
  refine (HWB.out _ T1).mono ?_
  rintro e w2 ⟨rfl, T2⟩
  have T2 := nxt T1 T2
  have e0 : ((ka : Int) != (ka : Int)) = false := by simp
  by_cases hab : ka = kb
  · have i1 : ((ka : Int) != (kb : Int)) = false := by simp; omega
    go_wp2_with (fail)
    refine (HO.out _ T2).mono ?_
    rintro e w3 ⟨rfl, T3⟩
    have T3 := nxt T2 T3
    go_wp2_with (fail)
    refine (HV.out _ T3).mono ?_
    rintro e w4 ⟨rfl, T4⟩
    have T4 := nxt T3 T4
    go_wp2_with (fail)
    refine (HN.out _ _).mono ?_
    rintro e w5 ⟨rfl, rfl⟩
    go_wp2_with (fail)
    refine (HN.out _ _).mono ?_
    rintro e w5 ⟨rfl, rfl⟩
    by_cases hpo : kp = ko
    · have i3 : ((kp : Int) == (ko : Int)) = true := by simp; omega
      go_wp2_with (fail)
      refine (HL.out _ T4).mono ?_
      rintro e w9 ⟨rfl, T9⟩
      have T9 := nxt T4 T9
      go_wp2
      go_ret
      exact ⟨rfl, T9⟩
    · have i3 : ((kp : Int) == (ko : Int)) = false := by simp; omega
      have HTT := Lib.hid (fun W (k : Below w.heap.size w W) => HTT.out W k)
      rw [fT hpo] at HTT
      go_wp2_with (fail)
      refine (HTT.out _ T4).mono ?_
      rintro e w5 ⟨rfl, T5⟩
      have T5 := nxt T4 T5
      go_wp2_with (fail)
      refine (HN.out _ _).mono ?_
      rintro e w6 ⟨rfl, rfl⟩
      go_wp2_with (fail)
      refine (HL.out _ T5).mono ?_
      rintro e w9 ⟨rfl, T9⟩
      have T9 := nxt T5 T9
      go_wp2
      go_ret
      exact ⟨rfl, T9⟩
  · have i1 : ((ka : Int) != (kb : Int)) = true := by simp; omega
    have hap := fA hab
    generalize apartN vb.toNat wb.toNat = ap at *
    have i2 : decide ((ap : Int) < 4) = false := by simp; omega
    go_wp2_with (fail)
    refine (HAA.out _ T2).mono ?_
    rintro e w2a ⟨rfl, T2a⟩
    have T2a := nxt T2 T2a
    go_wp2_with (fail)
    refine (HO.out _ T2a).mono ?_
    rintro e w3 ⟨rfl, T3⟩
    have T3 := nxt T2a T3
    go_wp2_with (fail)
    refine (HV.out _ T3).mono ?_
    rintro e w4 ⟨rfl, T4⟩
    have T4 := nxt T3 T4
    go_wp2_with (fail)
    refine (HN.out _ _).mono ?_
    rintro e w5 ⟨rfl, rfl⟩
    go_wp2_with (fail)
    refine (HN.out _ _).mono ?_
    rintro e w5 ⟨rfl, rfl⟩
    by_cases hpo : kp = ko
    · have i3 : ((kp : Int) == (ko : Int)) = true := by simp; omega
      go_wp2_with (fail)
      refine (HL.out _ T4).mono ?_
      rintro e w9 ⟨rfl, T9⟩
      have T9 := nxt T4 T9
      go_wp2
      go_ret
      exact ⟨rfl, T9⟩
    · have i3 : ((kp : Int) == (ko : Int)) = false := by simp; omega
      have HTT := Lib.hid (fun W (k : Below w.heap.size w W) => HTT.out W k)
      rw [fT hpo] at HTT
      go_wp2_with (fail)
      refine (HTT.out _ T4).mono ?_
      rintro e w5 ⟨rfl, T5⟩
      have T5 := nxt T4 T5
      go_wp2_with (fail)
      refine (HN.out _ _).mono ?_
      rintro e w6 ⟨rfl, rfl⟩
      go_wp2_with (fail)
      refine (HL.out _ T5).mono ?_
      rintro e w9 ⟨rfl, T9⟩
      have T9 := nxt T5 T9
      go_wp2
      go_ret
      exact ⟨rfl, T9⟩
end Go.Proofs.YtngcjbfjhaelbaaDoor
