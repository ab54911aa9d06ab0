/- What kedgeref13.Get answers of bytes with Data; Same. -/
import Derived.Test.YtoaccikhklfeiaaRpr2
namespace Go.Proofs.Ytoaccikhklfeiaa
open Go.RowKit
set_option maxRecDepth 20000

set_option maxHeartbeats 16000000 in
theorem rpget_more (A : Option Addr) (n c : Nat) (x : UInt8) (d : List UInt8) (w : World) (hB : Bys w A n c (x :: d)) (hn : n ≤ 140737488355328) (hd : 0 < d.length) (hx : x.toNat ≠ 3 ∧ x.toNat < 8) (K L : Int) (hK : prKind x.toNat = K) (hL : prLabel x.toNat = L) (R : Bool) (hR : prRight K L d.length = R) :
    Calls Try.prog 12 #[.slice A n c] w (GivesPr w (if R then K else 0) (if R then L else 0) (if R then d else []) (if R then 0 else 130)) := by
  have hl := hB.len
  simp at hl
  obtain ⟨g, o, rfl, hg, hc⟩ := hB.at_ (by omega)
  have q1 := hc 0 (by simp)
  have hle := hB.le
  have hcap := hB.cap
  simp only [List.getElem_cons_zero, Nat.add_zero] at q1
  have hD := hB.drop 1 (by omega)
  rw [if_neg (by omega)] at hD
  simp only [List.drop_succ_cons, List.drop_zero] at hD
  have hA2 : Option.map (fun x => x.add 1) (some (⟨g, o, none⟩ : Addr)) = some ⟨g, o + 1, none⟩ := by simp [Addr.add]
  rw [hA2] at hD
  clear hc hB hA2
  have hn1 : ((n : Int) == 0) = false := by simp; omega
  have hn2 : decide (1 < (n : Int)) = true := by simp; omega
  have HR := Lib.hid (fun W A c => rpright_any K L A d.length c W)
  rw [hR] at HR
  have HC := Lib.hid (fun W (k : Below w.heap.size w W) => rcopy_any _ _ _ d W (hD.below k) (by omega))
  have hh : x.toNat = 4 ∨ x.toNat = 5 ∨ x.toNat = 6 ∨ x.toNat = 7 ∨ x.toNat < 3 := by omega
  have HL := Lib.hid hl
  have hc1 : c ≠ 1 := by omega
  have hc2 : 1 < c := by omega
  have hn0 : 0 < n := by omega
  have hn3 : 1 ≤ n := by omega
  clear hD hn hl
  rcases hh with hh | hh | hh | hh | hh
  · rw [hh] at q1 hK hL
    obtain rfl : 3 = K := hK
    obtain rfl : 0 = L := hL
    cases R
    · clear hR hx hh
      go_enter Try.func12, Try.ntmps12
      go_wp2_with (fail)
      refine (HC.out _ (((Below.refl _ w).alloc (Nat.le_refl _) _).alloc (by simp) _)).mono ?_
      rintro e w1 ⟨v, rfl, hown, T1⟩
      obtain ⟨b0, b1⟩ := two_rows T1
      have T1 := nxt (((Below.refl _ w).alloc (Nat.le_refl _) _).alloc (by simp) _) T1
      obtain ⟨A2, c2, rfl⟩ := own_shape hown
      have hfr : Av (· < w.heap.size + 2) d.length A2 := by have := own_fr hown; simpa using this
      have HB1 := Lib.hid (And.intro hfr (Bys.of_own hown))
      have b0' : (w1.setCell ⟨w.heap.size + 1, 2, none⟩ (.slice A2 d.length c2)).heap[w.heap.size]? = _ := (Below.heap_setCell w1 _ _ _ (by simp)).trans b0
      have b1' := heap_setCell_same w1 _ 2 _ _ (.slice A2 d.length c2) b1
      have hbB := HB1.out.2.off HB1.out.1 ((Off.refl (· < w.heap.size + 2) w1).setCell (p := ⟨w.heap.size + 1, 2, none⟩) (.inl (by simp)) (.slice A2 d.length c2))
      have HB2 := Lib.hid (And.intro hfr hbB)
      have HT1 := Lib.hid (T1.setCell (p := ⟨w.heap.size + 1, 2, none⟩) (by simp) (.slice A2 d.length c2))
      obtain ⟨c3, c4, c5, f3, f4, f5⟩ := row3 b1
      have b0s := Lib.hid b0'
      have b1s := Lib.hid b1'
      clear b0 b1 b0' b1' hown hfr hbB T1
      go_wp2_with (fail)
      refine (HR.out _ _ _).mono ?_
      rintro e w3 ⟨rfl, T3⟩
      have g0 := (T3.block _ (lt_row b0s.out)).trans b0s.out
      have g1 := (T3.block _ (lt_row b1s.out)).trans b1s.out
      obtain ⟨c6, c7, c8, f6, f7, f8⟩ := row3 g0
      have c9 := cell_of_row _ _ 0 _ _ _ g1
      have c10 := cell_of_row _ _ 1 _ _ _ g1
      have c11 := cell_of_row _ _ 2 _ _ _ g1
      simp at c9 c10 c11
      have G0 := Lib.hid g0
      have HT := Lib.hid ((((nxt HT1.out T3).setCell (p := ⟨w.heap.size, 0, none⟩) (Nat.le_refl _) (.int .i64 0)).setCell (p := ⟨w.heap.size, 1, none⟩) (Nat.le_refl _) (.int .i64 0)).setCell (p := ⟨w.heap.size, 2, none⟩) (Nat.le_refl _) (.slice none 0 0))
      clear g0 g1 c3 c4 c5 f3 f4 f5
      go_wp2_with (fail)
      (try simp only [Exit.inBlock, Exit.then])
      refine bodyPost_ret (v := .tuple #[.agg #[.int .i64 0, .int .i64 0, .slice none 0 0], .int .i64 130]) (res_cell_tmp rfl _ _ w.heap.size 24 #[.int .i64 0, .int .i64 0, .slice none 0 0] (0, 0) _ _ rfl rfl (stored3 G0.out _ _ _) Try.underlying24 rfl (by kernel_rfl)) rfl ?_
      exact ⟨_, _, _, rfl, Bys.nil _, HT.out⟩
    · clear hR hx hh
      go_enter Try.func12, Try.ntmps12
      go_wp2_with (fail)
      refine (HC.out _ (((Below.refl _ w).alloc (Nat.le_refl _) _).alloc (by simp) _)).mono ?_
      rintro e w1 ⟨v, rfl, hown, T1⟩
      obtain ⟨b0, b1⟩ := two_rows T1
      have T1 := nxt (((Below.refl _ w).alloc (Nat.le_refl _) _).alloc (by simp) _) T1
      obtain ⟨A2, c2, rfl⟩ := own_shape hown
      have hfr : Av (· < w.heap.size + 2) d.length A2 := by have := own_fr hown; simpa using this
      have HB1 := Lib.hid (And.intro hfr (Bys.of_own hown))
      have b0' : (w1.setCell ⟨w.heap.size + 1, 2, none⟩ (.slice A2 d.length c2)).heap[w.heap.size]? = _ := (Below.heap_setCell w1 _ _ _ (by simp)).trans b0
      have b1' := heap_setCell_same w1 _ 2 _ _ (.slice A2 d.length c2) b1
      have hbB := HB1.out.2.off HB1.out.1 ((Off.refl (· < w.heap.size + 2) w1).setCell (p := ⟨w.heap.size + 1, 2, none⟩) (.inl (by simp)) (.slice A2 d.length c2))
      have HB2 := Lib.hid (And.intro hfr hbB)
      have HT1 := Lib.hid (T1.setCell (p := ⟨w.heap.size + 1, 2, none⟩) (by simp) (.slice A2 d.length c2))
      obtain ⟨c3, c4, c5, f3, f4, f5⟩ := row3 b1
      have b0s := Lib.hid b0'
      have b1s := Lib.hid b1'
      clear b0 b1 b0' b1' hown hfr hbB T1
      go_wp2_with (fail)
      refine (HR.out _ _ _).mono ?_
      rintro e w3 ⟨rfl, T3⟩
      have g0 := (T3.block _ (lt_row b0s.out)).trans b0s.out
      have g1 := (T3.block _ (lt_row b1s.out)).trans b1s.out
      obtain ⟨c6, c7, c8, f6, f7, f8⟩ := row3 g0
      have c9 := cell_of_row _ _ 0 _ _ _ g1
      have c10 := cell_of_row _ _ 1 _ _ _ g1
      have c11 := cell_of_row _ _ 2 _ _ _ g1
      simp at c9 c10 c11
      have G0 := Lib.hid g0
      have HT := Lib.hid ((((nxt HT1.out T3).setCell (p := ⟨w.heap.size, 0, none⟩) (Nat.le_refl _) (.int .i64 3)).setCell (p := ⟨w.heap.size, 1, none⟩) (Nat.le_refl _) (.int .i64 0)).setCell (p := ⟨w.heap.size, 2, none⟩) (Nat.le_refl _) (.slice A2 d.length c2))
      clear g0 g1 c3 c4 c5 f3 f4 f5
      go_wp2_with (fail)
      (try simp only [Exit.inBlock, Exit.then])
      refine bodyPost_ret (v := .tuple #[.agg #[.int .i64 3, .int .i64 0, .slice A2 d.length c2], .int .i64 0]) (res_cell_tmp rfl _ _ w.heap.size 24 #[.int .i64 3, .int .i64 0, .slice A2 d.length c2] (0, 0) _ _ rfl rfl (stored3 G0.out _ _ _) Try.underlying24 rfl (by kernel_rfl)) rfl ?_
      exact ⟨_, _, _, rfl, (HB2.out.2.below T3).off (X := (· = w.heap.size)) (HB2.out.1.imp (fun k hk => by omega)) (off3 w3 _ _ _ _), HT.out⟩
  · rw [hh] at q1 hK hL
    obtain rfl : 3 = K := hK
    obtain rfl : 1 = L := hL
    cases R
    · clear hR hx hh
      go_enter Try.func12, Try.ntmps12
      go_wp2_with (fail)
      refine (HC.out _ (((Below.refl _ w).alloc (Nat.le_refl _) _).alloc (by simp) _)).mono ?_
      rintro e w1 ⟨v, rfl, hown, T1⟩
      obtain ⟨b0, b1⟩ := two_rows T1
      have T1 := nxt (((Below.refl _ w).alloc (Nat.le_refl _) _).alloc (by simp) _) T1
      obtain ⟨A2, c2, rfl⟩ := own_shape hown
      have hfr : Av (· < w.heap.size + 2) d.length A2 := by have := own_fr hown; simpa using this
      have HB1 := Lib.hid (And.intro hfr (Bys.of_own hown))
      have b0' : (w1.setCell ⟨w.heap.size + 1, 2, none⟩ (.slice A2 d.length c2)).heap[w.heap.size]? = _ := (Below.heap_setCell w1 _ _ _ (by simp)).trans b0
      have b1' := heap_setCell_same w1 _ 2 _ _ (.slice A2 d.length c2) b1
      have hbB := HB1.out.2.off HB1.out.1 ((Off.refl (· < w.heap.size + 2) w1).setCell (p := ⟨w.heap.size + 1, 2, none⟩) (.inl (by simp)) (.slice A2 d.length c2))
      have HB2 := Lib.hid (And.intro hfr hbB)
      have HT1 := Lib.hid (T1.setCell (p := ⟨w.heap.size + 1, 2, none⟩) (by simp) (.slice A2 d.length c2))
      obtain ⟨c3, c4, c5, f3, f4, f5⟩ := row3 b1
      have b0s := Lib.hid b0'
      have b1s := Lib.hid b1'
      clear b0 b1 b0' b1' hown hfr hbB T1
      go_wp2_with (fail)
      refine (HR.out _ _ _).mono ?_
      rintro e w3 ⟨rfl, T3⟩
      have g0 := (T3.block _ (lt_row b0s.out)).trans b0s.out
      have g1 := (T3.block _ (lt_row b1s.out)).trans b1s.out
      obtain ⟨c6, c7, c8, f6, f7, f8⟩ := row3 g0
      have c9 := cell_of_row _ _ 0 _ _ _ g1
      have c10 := cell_of_row _ _ 1 _ _ _ g1
      have c11 := cell_of_row _ _ 2 _ _ _ g1
      simp at c9 c10 c11
      have G0 := Lib.hid g0
      have HT := Lib.hid ((((nxt HT1.out T3).setCell (p := ⟨w.heap.size, 0, none⟩) (Nat.le_refl _) (.int .i64 0)).setCell (p := ⟨w.heap.size, 1, none⟩) (Nat.le_refl _) (.int .i64 0)).setCell (p := ⟨w.heap.size, 2, none⟩) (Nat.le_refl _) (.slice none 0 0))
      clear g0 g1 c3 c4 c5 f3 f4 f5
      go_wp2_with (fail)
      (try simp only [Exit.inBlock, Exit.then])
      refine bodyPost_ret (v := .tuple #[.agg #[.int .i64 0, .int .i64 0, .slice none 0 0], .int .i64 130]) (res_cell_tmp rfl _ _ w.heap.size 24 #[.int .i64 0, .int .i64 0, .slice none 0 0] (0, 0) _ _ rfl rfl (stored3 G0.out _ _ _) Try.underlying24 rfl (by kernel_rfl)) rfl ?_
      exact ⟨_, _, _, rfl, Bys.nil _, HT.out⟩
    · clear hR hx hh
      go_enter Try.func12, Try.ntmps12
      go_wp2_with (fail)
      refine (HC.out _ (((Below.refl _ w).alloc (Nat.le_refl _) _).alloc (by simp) _)).mono ?_
      rintro e w1 ⟨v, rfl, hown, T1⟩
      obtain ⟨b0, b1⟩ := two_rows T1
      have T1 := nxt (((Below.refl _ w).alloc (Nat.le_refl _) _).alloc (by simp) _) T1
      obtain ⟨A2, c2, rfl⟩ := own_shape hown
      have hfr : Av (· < w.heap.size + 2) d.length A2 := by have := own_fr hown; simpa using this
      have HB1 := Lib.hid (And.intro hfr (Bys.of_own hown))
      have b0' : (w1.setCell ⟨w.heap.size + 1, 2, none⟩ (.slice A2 d.length c2)).heap[w.heap.size]? = _ := (Below.heap_setCell w1 _ _ _ (by simp)).trans b0
      have b1' := heap_setCell_same w1 _ 2 _ _ (.slice A2 d.length c2) b1
      have hbB := HB1.out.2.off HB1.out.1 ((Off.refl (· < w.heap.size + 2) w1).setCell (p := ⟨w.heap.size + 1, 2, none⟩) (.inl (by simp)) (.slice A2 d.length c2))
      have HB2 := Lib.hid (And.intro hfr hbB)
      have HT1 := Lib.hid (T1.setCell (p := ⟨w.heap.size + 1, 2, none⟩) (by simp) (.slice A2 d.length c2))
      obtain ⟨c3, c4, c5, f3, f4, f5⟩ := row3 b1
      have b0s := Lib.hid b0'
      have b1s := Lib.hid b1'
      clear b0 b1 b0' b1' hown hfr hbB T1
      go_wp2_with (fail)
      refine (HR.out _ _ _).mono ?_
      rintro e w3 ⟨rfl, T3⟩
      have g0 := (T3.block _ (lt_row b0s.out)).trans b0s.out
      have g1 := (T3.block _ (lt_row b1s.out)).trans b1s.out
      obtain ⟨c6, c7, c8, f6, f7, f8⟩ := row3 g0
      have c9 := cell_of_row _ _ 0 _ _ _ g1
      have c10 := cell_of_row _ _ 1 _ _ _ g1
      have c11 := cell_of_row _ _ 2 _ _ _ g1
      simp at c9 c10 c11
      have G0 := Lib.hid g0
      have HT := Lib.hid ((((nxt HT1.out T3).setCell (p := ⟨w.heap.size, 0, none⟩) (Nat.le_refl _) (.int .i64 3)).setCell (p := ⟨w.heap.size, 1, none⟩) (Nat.le_refl _) (.int .i64 1)).setCell (p := ⟨w.heap.size, 2, none⟩) (Nat.le_refl _) (.slice A2 d.length c2))
      clear g0 g1 c3 c4 c5 f3 f4 f5
      go_wp2_with (fail)
      (try simp only [Exit.inBlock, Exit.then])
      refine bodyPost_ret (v := .tuple #[.agg #[.int .i64 3, .int .i64 1, .slice A2 d.length c2], .int .i64 0]) (res_cell_tmp rfl _ _ w.heap.size 24 #[.int .i64 3, .int .i64 1, .slice A2 d.length c2] (0, 0) _ _ rfl rfl (stored3 G0.out _ _ _) Try.underlying24 rfl (by kernel_rfl)) rfl ?_
      exact ⟨_, _, _, rfl, (HB2.out.2.below T3).off (X := (· = w.heap.size)) (HB2.out.1.imp (fun k hk => by omega)) (off3 w3 _ _ _ _), HT.out⟩
  · rw [hh] at q1 hK hL
    obtain rfl : 4 = K := hK
    obtain rfl : 0 = L := hL
    cases R
    · clear hR hx hh
      go_enter Try.func12, Try.ntmps12
      go_wp2_with (fail)
      refine (HC.out _ (((Below.refl _ w).alloc (Nat.le_refl _) _).alloc (by simp) _)).mono ?_
      rintro e w1 ⟨v, rfl, hown, T1⟩
      obtain ⟨b0, b1⟩ := two_rows T1
      have T1 := nxt (((Below.refl _ w).alloc (Nat.le_refl _) _).alloc (by simp) _) T1
      obtain ⟨A2, c2, rfl⟩ := own_shape hown
      have hfr : Av (· < w.heap.size + 2) d.length A2 := by have := own_fr hown; simpa using this
      have HB1 := Lib.hid (And.intro hfr (Bys.of_own hown))
      have b0' : (w1.setCell ⟨w.heap.size + 1, 2, none⟩ (.slice A2 d.length c2)).heap[w.heap.size]? = _ := (Below.heap_setCell w1 _ _ _ (by simp)).trans b0
      have b1' := heap_setCell_same w1 _ 2 _ _ (.slice A2 d.length c2) b1
      have hbB := HB1.out.2.off HB1.out.1 ((Off.refl (· < w.heap.size + 2) w1).setCell (p := ⟨w.heap.size + 1, 2, none⟩) (.inl (by simp)) (.slice A2 d.length c2))
      have HB2 := Lib.hid (And.intro hfr hbB)
      have HT1 := Lib.hid (T1.setCell (p := ⟨w.heap.size + 1, 2, none⟩) (by simp) (.slice A2 d.length c2))
      obtain ⟨c3, c4, c5, f3, f4, f5⟩ := row3 b1
      have b0s := Lib.hid b0'
      have b1s := Lib.hid b1'
      clear b0 b1 b0' b1' hown hfr hbB T1
      go_wp2_with (fail)
      refine (HR.out _ _ _).mono ?_
      rintro e w3 ⟨rfl, T3⟩
      have g0 := (T3.block _ (lt_row b0s.out)).trans b0s.out
      have g1 := (T3.block _ (lt_row b1s.out)).trans b1s.out
      obtain ⟨c6, c7, c8, f6, f7, f8⟩ := row3 g0
      have c9 := cell_of_row _ _ 0 _ _ _ g1
      have c10 := cell_of_row _ _ 1 _ _ _ g1
      have c11 := cell_of_row _ _ 2 _ _ _ g1
      simp at c9 c10 c11
      have G0 := Lib.hid g0
      have HT := Lib.hid ((((nxt HT1.out T3).setCell (p := ⟨w.heap.size, 0, none⟩) (Nat.le_refl _) (.int .i64 0)).setCell (p := ⟨w.heap.size, 1, none⟩) (Nat.le_refl _) (.int .i64 0)).setCell (p := ⟨w.heap.size, 2, none⟩) (Nat.le_refl _) (.slice none 0 0))
      clear g0 g1 c3 c4 c5 f3 f4 f5
      go_wp2_with (fail)
      (try simp only [Exit.inBlock, Exit.then])
      refine bodyPost_ret (v := .tuple #[.agg #[.int .i64 0, .int .i64 0, .slice none 0 0], .int .i64 130]) (res_cell_tmp rfl _ _ w.heap.size 24 #[.int .i64 0, .int .i64 0, .slice none 0 0] (0, 0) _ _ rfl rfl (stored3 G0.out _ _ _) Try.underlying24 rfl (by kernel_rfl)) rfl ?_
      exact ⟨_, _, _, rfl, Bys.nil _, HT.out⟩
    · clear hR hx hh
      go_enter Try.func12, Try.ntmps12
      go_wp2_with (fail)
      refine (HC.out _ (((Below.refl _ w).alloc (Nat.le_refl _) _).alloc (by simp) _)).mono ?_
      rintro e w1 ⟨v, rfl, hown, T1⟩
      obtain ⟨b0, b1⟩ := two_rows T1
      have T1 := nxt (((Below.refl _ w).alloc (Nat.le_refl _) _).alloc (by simp) _) T1
      obtain ⟨A2, c2, rfl⟩ := own_shape hown
      have hfr : Av (· < w.heap.size + 2) d.length A2 := by have := own_fr hown; simpa using this
      have HB1 := Lib.hid (And.intro hfr (Bys.of_own hown))
      have b0' : (w1.setCell ⟨w.heap.size + 1, 2, none⟩ (.slice A2 d.length c2)).heap[w.heap.size]? = _ := (Below.heap_setCell w1 _ _ _ (by simp)).trans b0
      have b1' := heap_setCell_same w1 _ 2 _ _ (.slice A2 d.length c2) b1
      have hbB := HB1.out.2.off HB1.out.1 ((Off.refl (· < w.heap.size + 2) w1).setCell (p := ⟨w.heap.size + 1, 2, none⟩) (.inl (by simp)) (.slice A2 d.length c2))
      have HB2 := Lib.hid (And.intro hfr hbB)
      have HT1 := Lib.hid (T1.setCell (p := ⟨w.heap.size + 1, 2, none⟩) (by simp) (.slice A2 d.length c2))
      obtain ⟨c3, c4, c5, f3, f4, f5⟩ := row3 b1
      have b0s := Lib.hid b0'
      have b1s := Lib.hid b1'
      clear b0 b1 b0' b1' hown hfr hbB T1
      go_wp2_with (fail)
      refine (HR.out _ _ _).mono ?_
      rintro e w3 ⟨rfl, T3⟩
      have g0 := (T3.block _ (lt_row b0s.out)).trans b0s.out
      have g1 := (T3.block _ (lt_row b1s.out)).trans b1s.out
      obtain ⟨c6, c7, c8, f6, f7, f8⟩ := row3 g0
      have c9 := cell_of_row _ _ 0 _ _ _ g1
      have c10 := cell_of_row _ _ 1 _ _ _ g1
      have c11 := cell_of_row _ _ 2 _ _ _ g1
      simp at c9 c10 c11
      have G0 := Lib.hid g0
      have HT := Lib.hid ((((nxt HT1.out T3).setCell (p := ⟨w.heap.size, 0, none⟩) (Nat.le_refl _) (.int .i64 4)).setCell (p := ⟨w.heap.size, 1, none⟩) (Nat.le_refl _) (.int .i64 0)).setCell (p := ⟨w.heap.size, 2, none⟩) (Nat.le_refl _) (.slice A2 d.length c2))
      clear g0 g1 c3 c4 c5 f3 f4 f5
      go_wp2_with (fail)
      (try simp only [Exit.inBlock, Exit.then])
      refine bodyPost_ret (v := .tuple #[.agg #[.int .i64 4, .int .i64 0, .slice A2 d.length c2], .int .i64 0]) (res_cell_tmp rfl _ _ w.heap.size 24 #[.int .i64 4, .int .i64 0, .slice A2 d.length c2] (0, 0) _ _ rfl rfl (stored3 G0.out _ _ _) Try.underlying24 rfl (by kernel_rfl)) rfl ?_
      exact ⟨_, _, _, rfl, (HB2.out.2.below T3).off (X := (· = w.heap.size)) (HB2.out.1.imp (fun k hk => by omega)) (off3 w3 _ _ _ _), HT.out⟩
  · rw [hh] at q1 hK hL
    obtain rfl : 4 = K := hK
    obtain rfl : 1 = L := hL
    cases R
    · clear hR hx hh
      go_enter Try.func12, Try.ntmps12
      go_wp2_with (fail)
      refine (HC.out _ (((Below.refl _ w).alloc (Nat.le_refl _) _).alloc (by simp) _)).mono ?_
      rintro e w1 ⟨v, rfl, hown, T1⟩
      obtain ⟨b0, b1⟩ := two_rows T1
      have T1 := nxt (((Below.refl _ w).alloc (Nat.le_refl _) _).alloc (by simp) _) T1
      obtain ⟨A2, c2, rfl⟩ := own_shape hown
      have hfr : Av (· < w.heap.size + 2) d.length A2 := by have := own_fr hown; simpa using this
      have HB1 := Lib.hid (And.intro hfr (Bys.of_own hown))
      have b0' : (w1.setCell ⟨w.heap.size + 1, 2, none⟩ (.slice A2 d.length c2)).heap[w.heap.size]? = _ := (Below.heap_setCell w1 _ _ _ (by simp)).trans b0
      have b1' := heap_setCell_same w1 _ 2 _ _ (.slice A2 d.length c2) b1
      have hbB := HB1.out.2.off HB1.out.1 ((Off.refl (· < w.heap.size + 2) w1).setCell (p := ⟨w.heap.size + 1, 2, none⟩) (.inl (by simp)) (.slice A2 d.length c2))
      have HB2 := Lib.hid (And.intro hfr hbB)
      have HT1 := Lib.hid (T1.setCell (p := ⟨w.heap.size + 1, 2, none⟩) (by simp) (.slice A2 d.length c2))
      obtain ⟨c3, c4, c5, f3, f4, f5⟩ := row3 b1
      have b0s := Lib.hid b0'
      have b1s := Lib.hid b1'
      clear b0 b1 b0' b1' hown hfr hbB T1
      go_wp2_with (fail)
      refine (HR.out _ _ _).mono ?_
      rintro e w3 ⟨rfl, T3⟩
      have g0 := (T3.block _ (lt_row b0s.out)).trans b0s.out
      have g1 := (T3.block _ (lt_row b1s.out)).trans b1s.out
      obtain ⟨c6, c7, c8, f6, f7, f8⟩ := row3 g0
      have c9 := cell_of_row _ _ 0 _ _ _ g1
      have c10 := cell_of_row _ _ 1 _ _ _ g1
      have c11 := cell_of_row _ _ 2 _ _ _ g1
      simp at c9 c10 c11
      have G0 := Lib.hid g0
      have HT := Lib.hid ((((nxt HT1.out T3).setCell (p := ⟨w.heap.size, 0, none⟩) (Nat.le_refl _) (.int .i64 0)).setCell (p := ⟨w.heap.size, 1, none⟩) (Nat.le_refl _) (.int .i64 0)).setCell (p := ⟨w.heap.size, 2, none⟩) (Nat.le_refl _) (.slice none 0 0))
      clear g0 g1 c3 c4 c5 f3 f4 f5
      go_wp2_with (fail)
      (try simp only [Exit.inBlock, Exit.then])
      refine bodyPost_ret (v := .tuple #[.agg #[.int .i64 0, .int .i64 0, .slice none 0 0], .int .i64 130]) (res_cell_tmp rfl _ _ w.heap.size 24 #[.int .i64 0, .int .i64 0, .slice none 0 0] (0, 0) _ _ rfl rfl (stored3 G0.out _ _ _) Try.underlying24 rfl (by kernel_rfl)) rfl ?_
      exact ⟨_, _, _, rfl, Bys.nil _, HT.out⟩
    · clear hR hx hh
      go_enter Try.func12, Try.ntmps12
      go_wp2_with (fail)
      refine (HC.out _ (((Below.refl _ w).alloc (Nat.le_refl _) _).alloc (by simp) _)).mono ?_
      rintro e w1 ⟨v, rfl, hown, T1⟩
      obtain ⟨b0, b1⟩ := two_rows T1
      have T1 := nxt (((Below.refl _ w).alloc (Nat.le_refl _) _).alloc (by simp) _) T1
      obtain ⟨A2, c2, rfl⟩ := own_shape hown
      have hfr : Av (· < w.heap.size + 2) d.length A2 := by have := own_fr hown; simpa using this
      have HB1 := Lib.hid (And.intro hfr (Bys.of_own hown))
      have b0' : (w1.setCell ⟨w.heap.size + 1, 2, none⟩ (.slice A2 d.length c2)).heap[w.heap.size]? = _ := (Below.heap_setCell w1 _ _ _ (by simp)).trans b0
      have b1' := heap_setCell_same w1 _ 2 _ _ (.slice A2 d.length c2) b1
      have hbB := HB1.out.2.off HB1.out.1 ((Off.refl (· < w.heap.size + 2) w1).setCell (p := ⟨w.heap.size + 1, 2, none⟩) (.inl (by simp)) (.slice A2 d.length c2))
      have HB2 := Lib.hid (And.intro hfr hbB)
      have HT1 := Lib.hid (T1.setCell (p := ⟨w.heap.size + 1, 2, none⟩) (by simp) (.slice A2 d.length c2))
      obtain ⟨c3, c4, c5, f3, f4, f5⟩ := row3 b1
      have b0s := Lib.hid b0'
      have b1s := Lib.hid b1'
      clear b0 b1 b0' b1' hown hfr hbB T1
      go_wp2_with (fail)
      refine (HR.out _ _ _).mono ?_
      rintro e w3 ⟨rfl, T3⟩
      have g0 := (T3.block _ (lt_row b0s.out)).trans b0s.out
      have g1 := (T3.block _ (lt_row b1s.out)).trans b1s.out
      obtain ⟨c6, c7, c8, f6, f7, f8⟩ := row3 g0
      have c9 := cell_of_row _ _ 0 _ _ _ g1
      have c10 := cell_of_row _ _ 1 _ _ _ g1
      have c11 := cell_of_row _ _ 2 _ _ _ g1
      simp at c9 c10 c11
      have G0 := Lib.hid g0
      have HT := Lib.hid ((((nxt HT1.out T3).setCell (p := ⟨w.heap.size, 0, none⟩) (Nat.le_refl _) (.int .i64 4)).setCell (p := ⟨w.heap.size, 1, none⟩) (Nat.le_refl _) (.int .i64 1)).setCell (p := ⟨w.heap.size, 2, none⟩) (Nat.le_refl _) (.slice A2 d.length c2))
      clear g0 g1 c3 c4 c5 f3 f4 f5
      go_wp2_with (fail)
      (try simp only [Exit.inBlock, Exit.then])
      refine bodyPost_ret (v := .tuple #[.agg #[.int .i64 4, .int .i64 1, .slice A2 d.length c2], .int .i64 0]) (res_cell_tmp rfl _ _ w.heap.size 24 #[.int .i64 4, .int .i64 1, .slice A2 d.length c2] (0, 0) _ _ rfl rfl (stored3 G0.out _ _ _) Try.underlying24 rfl (by kernel_rfl)) rfl ?_
      exact ⟨_, _, _, rfl, (HB2.out.2.below T3).off (X := (· = w.heap.size)) (HB2.out.1.imp (fun k hk => by omega)) (off3 w3 _ _ _ _), HT.out⟩
  · obtain rfl : (x.toNat : Int) = K := by rw [← hK]; unfold prKind; rw [if_neg (by omega), if_neg (by omega)]
    obtain rfl : 0 = L := by rw [← hL]; unfold prLabel; rw [if_neg (by omega), if_neg (by omega)]
    have hb : 0 ≤ (x.toNat : Int) ∧ (x.toNat : Int) < 3 := by omega
    clear hK hL hx hh
    generalize (x.toNat : Int) = hx0 at *
    have hw : wrap64 hx0 = hx0 := by unfold wrap64; omega
    have d4 : (hx0 == 4) = false := by simp; omega
    have d5 : (hx0 == 5) = false := by simp; omega
    have d6 : (hx0 == 6) = false := by simp; omega
    have d7 : (hx0 == 7) = false := by simp; omega
    have d2 : decide (2 < hx0) = false := by simp; omega
    cases R
    · clear hR
      go_enter Try.func12, Try.ntmps12
      go_wp2_with (fail)
      refine (HC.out _ (((Below.refl _ w).alloc (Nat.le_refl _) _).alloc (by simp) _)).mono ?_
      rintro e w1 ⟨v, rfl, hown, T1⟩
      obtain ⟨b0, b1⟩ := two_rows T1
      have T1 := nxt (((Below.refl _ w).alloc (Nat.le_refl _) _).alloc (by simp) _) T1
      obtain ⟨A2, c2, rfl⟩ := own_shape hown
      have hfr : Av (· < w.heap.size + 2) d.length A2 := by have := own_fr hown; simpa using this
      have HB1 := Lib.hid (And.intro hfr (Bys.of_own hown))
      have b0' : (w1.setCell ⟨w.heap.size + 1, 2, none⟩ (.slice A2 d.length c2)).heap[w.heap.size]? = _ := (Below.heap_setCell w1 _ _ _ (by simp)).trans b0
      have b1' := heap_setCell_same w1 _ 2 _ _ (.slice A2 d.length c2) b1
      have hbB := HB1.out.2.off HB1.out.1 ((Off.refl (· < w.heap.size + 2) w1).setCell (p := ⟨w.heap.size + 1, 2, none⟩) (.inl (by simp)) (.slice A2 d.length c2))
      have HB2 := Lib.hid (And.intro hfr hbB)
      have HT1 := Lib.hid (T1.setCell (p := ⟨w.heap.size + 1, 2, none⟩) (by simp) (.slice A2 d.length c2))
      obtain ⟨c3, c4, c5, f3, f4, f5⟩ := row3 b1
      have b0s := Lib.hid b0'
      have b1s := Lib.hid b1'
      clear b0 b1 b0' b1' hown hfr hbB T1
      go_wp2_with (fail)
      refine (HR.out _ _ _).mono ?_
      rintro e w3 ⟨rfl, T3⟩
      have g0 := (T3.block _ (lt_row b0s.out)).trans b0s.out
      have g1 := (T3.block _ (lt_row b1s.out)).trans b1s.out
      obtain ⟨c6, c7, c8, f6, f7, f8⟩ := row3 g0
      have c9 := cell_of_row _ _ 0 _ _ _ g1
      have c10 := cell_of_row _ _ 1 _ _ _ g1
      have c11 := cell_of_row _ _ 2 _ _ _ g1
      simp at c9 c10 c11
      have G0 := Lib.hid g0
      have HT := Lib.hid ((((nxt HT1.out T3).setCell (p := ⟨w.heap.size, 0, none⟩) (Nat.le_refl _) (.int .i64 0)).setCell (p := ⟨w.heap.size, 1, none⟩) (Nat.le_refl _) (.int .i64 0)).setCell (p := ⟨w.heap.size, 2, none⟩) (Nat.le_refl _) (.slice none 0 0))
      clear g0 g1 c3 c4 c5 f3 f4 f5
      go_wp2_with (fail)
      (try simp only [Exit.inBlock, Exit.then])
      refine bodyPost_ret (v := .tuple #[.agg #[.int .i64 0, .int .i64 0, .slice none 0 0], .int .i64 130]) (res_cell_tmp rfl _ _ w.heap.size 24 #[.int .i64 0, .int .i64 0, .slice none 0 0] (0, 0) _ _ rfl rfl (stored3 G0.out _ _ _) Try.underlying24 rfl (by kernel_rfl)) rfl ?_
      exact ⟨_, _, _, rfl, Bys.nil _, HT.out⟩
    · clear hR
      go_enter Try.func12, Try.ntmps12
      go_wp2_with (fail)
      refine (HC.out _ (((Below.refl _ w).alloc (Nat.le_refl _) _).alloc (by simp) _)).mono ?_
      rintro e w1 ⟨v, rfl, hown, T1⟩
      obtain ⟨b0, b1⟩ := two_rows T1
      have T1 := nxt (((Below.refl _ w).alloc (Nat.le_refl _) _).alloc (by simp) _) T1
      obtain ⟨A2, c2, rfl⟩ := own_shape hown
      have hfr : Av (· < w.heap.size + 2) d.length A2 := by have := own_fr hown; simpa using this
      have HB1 := Lib.hid (And.intro hfr (Bys.of_own hown))
      have b0' : (w1.setCell ⟨w.heap.size + 1, 2, none⟩ (.slice A2 d.length c2)).heap[w.heap.size]? = _ := (Below.heap_setCell w1 _ _ _ (by simp)).trans b0
      have b1' := heap_setCell_same w1 _ 2 _ _ (.slice A2 d.length c2) b1
      have hbB := HB1.out.2.off HB1.out.1 ((Off.refl (· < w.heap.size + 2) w1).setCell (p := ⟨w.heap.size + 1, 2, none⟩) (.inl (by simp)) (.slice A2 d.length c2))
      have HB2 := Lib.hid (And.intro hfr hbB)
      have HT1 := Lib.hid (T1.setCell (p := ⟨w.heap.size + 1, 2, none⟩) (by simp) (.slice A2 d.length c2))
      obtain ⟨c3, c4, c5, f3, f4, f5⟩ := row3 b1
      have b0s := Lib.hid b0'
      have b1s := Lib.hid b1'
      clear b0 b1 b0' b1' hown hfr hbB T1
      go_wp2_with (fail)
      refine (HR.out _ _ _).mono ?_
      rintro e w3 ⟨rfl, T3⟩
      have g0 := (T3.block _ (lt_row b0s.out)).trans b0s.out
      have g1 := (T3.block _ (lt_row b1s.out)).trans b1s.out
      obtain ⟨c6, c7, c8, f6, f7, f8⟩ := row3 g0
      have c9 := cell_of_row _ _ 0 _ _ _ g1
      have c10 := cell_of_row _ _ 1 _ _ _ g1
      have c11 := cell_of_row _ _ 2 _ _ _ g1
      simp at c9 c10 c11
      have G0 := Lib.hid g0
      have HT := Lib.hid ((((nxt HT1.out T3).setCell (p := ⟨w.heap.size, 0, none⟩) (Nat.le_refl _) (.int .i64 hx0)).setCell (p := ⟨w.heap.size, 1, none⟩) (Nat.le_refl _) (.int .i64 0)).setCell (p := ⟨w.heap.size, 2, none⟩) (Nat.le_refl _) (.slice A2 d.length c2))
      clear g0 g1 c3 c4 c5 f3 f4 f5
      go_wp2_with (fail)
      (try simp only [Exit.inBlock, Exit.then])
      refine bodyPost_ret (v := .tuple #[.agg #[.int .i64 hx0, .int .i64 0, .slice A2 d.length c2], .int .i64 0]) (res_cell_tmp rfl _ _ w.heap.size 24 #[.int .i64 hx0, .int .i64 0, .slice A2 d.length c2] (0, 0) _ _ rfl rfl (stored3 G0.out _ _ _) Try.underlying24 rfl (by kernel_rfl)) rfl ?_
      exact ⟨_, _, _, rfl, (HB2.out.2.below T3).off (X := (· = w.heap.size)) (HB2.out.1.imp (fun k hk => by omega)) (off3 w3 _ _ _ _), HT.out⟩
end Go.Proofs.Ytoaccikhklfeiaa
