/- What the landed token's Put answers (at ac8f435). -/
import Derived.Test.YtabackggnkplhaaDoorTkK1
import Derived.Test.YtabackggnkplhaaDoorRpr2
import Derived.Test.YtabackggnkplhaaDoorPut
namespace Go.Proofs.YtabackggnkplhaaDoor
open Go.RowKit
set_option maxRecDepth 20000

/-- the bytes ahead of the Data, behind the first j numbers -/
def tkPre (k x y z : Nat) : Nat → List UInt8
  | 0 => [UInt8.ofNat k]
  | j + 1 => if tkHas k j then tkPre k x y z j ++ putB (tkNum x y z j) 8 else tkPre k x y z j
theorem tkPre_len (k x y z j : Nat) : (tkPre k x y z j).length ≤ 1 + 8 * j := by
  induction j with
  | zero => simp [tkPre]
  | succ j ih =>
    simp only [tkPre]
    split
    · simp [putB_length]; omega
    · omega
theorem tkPre_all (k x y z : Nat) (hk : k < 4) (d : List UInt8) : tkPre k x y z 3 ++ d = tkBytes (k : Int) x y z d := by
  rcases (show k = 0 ∨ k = 1 ∨ k = 2 ∨ k = 3 by omega) with rfl | rfl | rfl | rfl <;> simp [tkPre, tkHas, tkNum, tkBytes]
set_option maxHeartbeats 4000000 in
theorem tkput_no (k : Int) (x y z : Nat) (A : Option Addr) (n c : Nat) (w : World) (hT : Tab15 w) (h : tkRight k y z n = false) :
    Calls Tryd.prog 6 #[.agg #[.int .i64 k, .int .u64 (x : Int), .int .u64 (y : Int), .int .u64 (z : Int), .slice A n c]] w (GivesI w 130 []) := by
  have HR := Lib.hid (fun W (b : Below w.heap.size w W) => h ▸ tkright_any k x y z A n c W (tab15_keep _ _ hT b))
  clear hT h
  go_enter Tryd.func6, Tryd.ntmps6
  go_wp2_with (fail)
  refine (HR.out _ ((Below.refl _ w).alloc (Nat.le_refl _) _)).mono ?_
  rintro e w1 ⟨rfl, T1⟩
  have T1 := nxt ((Below.refl _ w).alloc (Nat.le_refl _) _) T1
  go_wp2
  go_ret2
  exact ⟨_, _, _, rfl, Bys.nil _, T1⟩
set_option maxHeartbeats 8000000 in
theorem tkput_yes (q x y z : Nat) (A : Option Addr) (n c : Nat) (d : List UInt8) (w : World) (hT : Tab15 w) (hx : x < 18446744073709551616) (hy : y < 18446744073709551616) (hz : z < 18446744073709551616) (hB : Bys w A n c d) (h : tkRight (q : Int) y z n = true) :
    Calls Tryd.prog 6 #[.agg #[.int .i64 (q : Int), .int .u64 (x : Int), .int .u64 (y : Int), .int .u64 (z : Int), .slice A n c]] w (GivesI w 0 (tkBytes (q : Int) x y z d)) := by
  have hq : q < 4 := by have := tkRight_kind h; omega
  have hn := tkRight_len h
  have HR := Lib.hid (fun W (b : Below w.heap.size w W) => h ▸ tkright_any (q : Int) x y z A n c W (tab15_keep _ _ hT b))
  have HE := Lib.hid (tkPre_all q x y z hq d)
  have HL := Lib.hid (tkPre_len q x y z)
  have look := Lib.hid (tk_look x y z)
  have HN := Lib.hid (fun W => tknums_any (q : Int) x y z A n c W)
  have HP1 := Lib.hid (fun W => put_own q 1 W (by decide) (by decide))
  have HB := Lib.hid (fun W (b : Below w.heap.size w W) => hB.below b)
  have hw : IntKind.u64.wrap (q : Int) = (q : Int) := IntWalk.u64_in _ (by omega)
  have hp1 : putB q 1 = tkPre q x y z 0 := by simp [putB, tkPre]
  rw [hp1] at HP1
  have hq4 : decide ((q : Int) < 4) = true := by simp; omega
  have HTb := Lib.hid hT
  have hnum : Hid (∀ j, j < 3 → tkNum x y z j < 18446744073709551616) := fun j hj => by
    rcases (show j = 0 ∨ j = 1 ∨ j = 2 by omega) with rfl | rfl | rfl
    · exact hx
    · exact hy
    · exact hz
  generalize tkBytes (q : Int) x y z d = E at *
  have HO : Hid (Below w.heap.size w (w.alloc (.cells #[.int .i64 (q : Int), .int .u64 (x : Int), .int .u64 (y : Int), .int .u64 (z : Int), .slice A n c] 25))) := (Below.refl _ w).alloc (Nat.le_refl _) _
  clear hT hx hy hz hB h hp1
  go_enter Tryd.func6, Tryd.ntmps6
  go_wp2_with (fail)
  refine (HR.out _ HO.out).mono ?_
  rintro e w1 ⟨rfl, T1⟩
  obtain ⟨⟨c0, c1, c2, c3, c4⟩, _, _, _, _, _⟩ := row5 (one_row T1)
  go_wp2_with (fail)
  refine (HP1.out _).mono ?_
  rintro e w2 ⟨rfl, O2, T2⟩
  have O2 := Lib.hid (O2.mono T1.size)
  have T2 := nxt T1 T2
  clear c0 c1 c2 c3 c4
  obtain ⟨⟨c0, c1, c2, c3, c4⟩, _, _, _, _, _⟩ := row5 (one_row T2)
  go_wp2_with (fail)
  refine (HN.out _).mono ?_
  rintro e w3 ⟨rfl, T3⟩
  have O3 := Lib.hid (own_below O2.out T3)
  have T3 := Lib.hid (nxt T2 T3)
  clear c0 c1 c2 c3 c4
  go_wp2_with (fail)
  go_loopw [4, 16] (fun v i wr => ∃ j m : Nat, j ≤ 3 ∧ i = .int .i64 (j : Int) ∧ m = (tkPre q x y z j).length ∧ wr.ownsRow (w.alloc (.cells #[.int .i64 (q : Int), .int .u64 (x : Int), .int .u64 (y : Int), .int .u64 (z : Int), .slice A n c] 25)).heap.size 5 1 v m (bvs (tkPre q x y z j)) ∧ Below (w.alloc (.cells #[.int .i64 (q : Int), .int .u64 (x : Int), .int .u64 (y : Int), .int .u64 (z : Int), .slice A n c] 25)).heap.size (w.alloc (.cells #[.int .i64 (q : Int), .int .u64 (x : Int), .int .u64 (y : Int), .int .u64 (z : Int), .slice A n c] 25)) wr) (fun _ i _ => 3 - (intOf i).toNat)
  case atStart => exact ⟨0, 1, by decide, rfl, rfl, O3.out, T3.out⟩
  case round =>
    obtain ⟨j, m, hj, rfl, hm, hown, hbel⟩ := hrel
    have HOW := Lib.hid hown
    have HBL := Lib.hid hbel
    have HM := Lib.hid hm
    have hmb : m ≤ 1 + 8 * j := by rw [hm]; exact HL.out j
    obtain ⟨⟨c0, c1, c2, c3, c4⟩, _, _, _, _, _⟩ := row5 (one_row hbel)
    clear hown hbel hm
    by_cases hlt : j < 3
    · have d1 : decide ((j : Int) < 3) = true := by simp; omega
      have lk := look.out j hlt
      have ca := ((tab15_keep _ _ HTb.out (nxt HO.out HBL.out)).2 q hq).1 j hlt
      have hv := hnum.out j hlt
      have HP8 := Lib.hid (fun W => put_own (tkNum x y z j) 8 W (by decide) (by decide))
      have HS : Hid (tkPre q x y z (j + 1) = if tkHas q j then tkPre q x y z j ++ putB (tkNum x y z j) 8 else tkPre q x y z j) := rfl
      have hl8 := putB_length (tkNum x y z j) 8
      generalize putB (tkNum x y z j) 8 = pb at *
      generalize tkNum x y z j = v at *
      generalize tkHas q j = b at *
      cases b with
      | true =>
        have HS2 : Hid (tkPre q x y z (j + 1) = tkPre q x y z j ++ pb) := HS.out.trans (if_pos rfl)
        generalize tkPre q x y z j = pre at *
        clear HS
        go_wp2_with (fail)
        refine (HP8.out _).mono ?_
        rintro e w5 ⟨rfl, O5, T5⟩
        have B5 := Lib.hid (Bys.of_own O5)
        have OW5 := Lib.hid (own_below HOW.out T5)
        have T5 := Lib.hid (nxt HBL.out T5)
        clear O5 c0 c1 c2 c3 c4
        go_wp2_with ((with_reducible refine app_bys _ rfl (.tmp 27) (.tmp 29) rfl (w.alloc (.cells #[.int .i64 (q : Int), .int .u64 (x : Int), .int .u64 (y : Int), .int .u64 (z : Int), .slice A n c] 25)).heap.size u4 m (bvs pre) rfl ?_ (some ⟨wr.heap.size, 0, none⟩) 8 8 pb rfl ?_ ?_ ?_ ?_); (exact OW5.out); (exact B5.out); (omega); (exact T5.out.size); intro v6 w6 hown6 hgrow6 hwhere6; have O6 := Lib.hid hown6; have G6 := Lib.hid hgrow6; clear hown6 hgrow6 hwhere6)
        go_roundw
        case rel =>
          refine ⟨j + 1, m + 8, by omega, by go_num, ?_, ?_, T5.out.grown G6.out T5.out.size (own_block_ge HOW.out)⟩
          · rw [HS2.out, List.length_append, hl8, ← HM.out]
          · rw [HS2.out, bvs_append]; exact O6.out
        case measure => simp [intOf]; omega
      | false =>
        have HS2 : Hid (tkPre q x y z (j + 1) = tkPre q x y z j) := HS.out.trans (if_neg (by decide))
        generalize tkPre q x y z j = pre at *
        clear HS
        go_wp2_with (fail)
        go_roundw
        case rel =>
          refine ⟨j + 1, m, by omega, by go_num, ?_, ?_, HBL.out⟩
          · rw [HS2.out]; exact HM.out
          · rw [HS2.out]; exact HOW.out
        case measure => simp [intOf]; omega
    · have d1 : decide ((j : Int) < 3) = false := by simp; omega
      have HE2 : Hid (tkPre q x y z j ++ d = E) := by show _ = _; rw [show j = 3 by omega]; exact HE.out
      generalize tkPre q x y z j = pre at *
      have B5 := Lib.hid (HB.out _ (nxt HO.out HBL.out))
      go_wp2_with ((with_reducible refine app_bys _ rfl (.tmp 32) (.tmp 34) rfl (w.alloc (.cells #[.int .i64 (q : Int), .int .u64 (x : Int), .int .u64 (y : Int), .int .u64 (z : Int), .slice A n c] 25)).heap.size u4 m (bvs pre) rfl ?_ A n c d rfl ?_ ?_ ?_ ?_); (exact HOW.out); (exact B5.out); (omega); (exact HBL.out.size); intro v6 w6 hown6 hgrow6 hwhere6; obtain ⟨A6, c6, rfl⟩ := own_shape hown6; have O6 := Lib.hid hown6; have G6 := Lib.hid hgrow6; clear hown6 hgrow6 hwhere6)
      go_ret2
      refine ⟨_, _, _, rfl, ?_, nxt HO.out (HBL.out.grown G6.out HBL.out.size (own_block_ge HOW.out))⟩
      have h6 := O6.out
      rw [← bvs_append, HE2.out] at h6
      exact Bys.of_own h6
theorem tkput_any (k : Int) (x y z : Nat) (A : Option Addr) (n c : Nat) (d : List UInt8) (w : World) (hT : Tab15 w) (hx : x < 18446744073709551616) (hy : y < 18446744073709551616) (hz : z < 18446744073709551616) (hB : Bys w A n c d) :
    Calls Tryd.prog 6 #[.agg #[.int .i64 k, .int .u64 (x : Int), .int .u64 (y : Int), .int .u64 (z : Int), .slice A n c]] w (GivesI w (tkErr k y z n) (tkPut k x y z d)) := by
  have hl := hB.len
  unfold tkErr tkPut
  rw [hl]
  cases h : tkRight k y z n with
  | true =>
    obtain ⟨q, rfl⟩ := Int.eq_ofNat_of_zero_le (show 0 ≤ k by have := tkRight_kind h; omega)
    exact tkput_yes q x y z A n c d w hT hx hy hz hB h
  | false => exact tkput_no k x y z A n c w hT h
end Go.Proofs.YtabackggnkplhaaDoor
