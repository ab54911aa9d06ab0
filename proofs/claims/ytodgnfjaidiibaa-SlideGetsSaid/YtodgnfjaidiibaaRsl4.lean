/- What kedgeref14.Get answers of a packet with Data, and of any bytes; Same. -/
import Derived.Test.YtodgnfjaidiibaaRsl3
namespace Go.Proofs.Ytodgnfjaidiibaa
open Go.RowKit
set_option maxRecDepth 20000

set_option maxHeartbeats 16000000 in
theorem rslget_three (A : Option Addr) (n c : Nat) (y z : UInt8) (r : List UInt8) (m : Int) (w : World) (hm : 1 ≤ m ∧ m ≤ 65536) (hB : Bys w A n c (0 :: y :: z :: r)) (hn : n ≤ 140737488355328) (hr0 : r = []) (R : Bool) (hR : slRight false (numOf [y, z] : Int) 0 r.length m = R) :
    Calls Try.prog 12 #[.slice A n c, .int .i64 m] w (GivesSl w (if R then (false, numOf [y, z], 0, r) else slZero) (if R then 0 else 130)) := by
  have d1 : decide (m < 1) = false := by simp; omega
  have d2 : decide (65536 < m) = false := by simp; omega
  have hl := hB.len
  simp at hl
  subst hr0
  simp at hR
  obtain rfl : n = 3 := by simp at hl; omega
  obtain ⟨g, o, rfl, hg, hc⟩ := hB.at_ (by omega)
  have q1 : w.cell? ⟨g, o, none⟩ = some (.int .u8 0) := by have := hc 0 (by simp); simpa using this
  have hle := hB.le
  have hcap := hB.cap
  have hP := hB.part 1 3 (by omega) (by omega) (by omega)
  simp at hP
  have HN := Lib.hid (fun W (k : Below w.heap.size w W) => numB_of [y, z] (by simp) ▸ rnumber_any _ _ _ _ W (hP.below k))
  have hq : numOf [y, z] < 65536 := by have := numOf_bound [y, z]; simpa using this
  have HR := Lib.hid (fun W => rslright_any false (numOf [y, z] : Int) 0 none 0 0 m W)
  rw [hR] at HR
  generalize numOf [y, z] = s at *
  have hws : IntKind.i64.wrap (s : Int) = (s : Int) := IntWalk.i64_in _ (by omega)
  have hci : (3 : Int) ≤ (c : Int) := by omega
  have hcn : 3 ≤ c := by omega
  have hc1 : (c = 1) = False := by simp; omega
  clear hc hB hP hR hl
  have T0 : Below w.heap.size w (w.alloc (.cells #[.bool false, .int .i64 0, .int .u64 0, .slice none 0 0] 25)) := (Below.refl _ w).alloc (Nat.le_refl _) _
  have KA := Lib.hid T0.drew
  have KB : Hid (Below w.heap.size w ((w.alloc (.cells #[.bool false, .int .i64 0, .int .u64 0, .slice none 0 0] 25)).alloc (.cells #[.bool false, .int .i64 0, .int .u64 0, .slice none 0 0] 25)).drew) := (T0.alloc (by simp) _).drew
  have KQ : Hid ((w.alloc (.cells #[.bool false, .int .i64 0, .int .u64 0, .slice none 0 0] 25)).cell? ⟨g, o, none⟩ = some (.int .u8 0)) := (T0.cell hg).trans q1
  have KQ2 : Hid (((w.alloc (.cells #[.bool false, .int .i64 0, .int .u64 0, .slice none 0 0] 25)).alloc (.cells #[.bool false, .int .i64 0, .int .u64 0, .slice none 0 0] 25)).cell? ⟨g, o, none⟩ = some (.int .u8 0)) := ((T0.alloc (by simp) _).cell hg).trans q1
  have KQ3 : Hid (((w.alloc (.cells #[.bool false, .int .i64 0, .int .u64 0, .slice none 0 0] 25)).alloc (.cells #[.bool false, .int .i64 (s : Int), .int .u64 0, .slice none 0 0] 25)).cell? ⟨g, o, none⟩ = some (.int .u8 0)) := ((T0.alloc (by simp) _).cell hg).trans q1
  have KC : Hid (Below w.heap.size w ((w.alloc (.cells #[.bool false, .int .i64 0, .int .u64 0, .slice none 0 0] 25)).alloc (.cells #[.bool false, .int .i64 (s : Int), .int .u64 0, .slice none 0 0] 25)).drew) := (T0.alloc (by simp) _).drew
  clear T0
  cases R
  · go_enter Try.func12, Try.ntmps12
    go_wp2_with (fail)
    go_region_held3 (fun w' => w'.cell? ⟨g, o, none⟩ = some (.int .u8 0)) (first | exact KQ.out | exact KQ2.out | exact KQ3.out)
      (first
        | (go_at_call 22; (with_reducible refine (HN.out _ (by first | exact KA.out | exact KB.out)).mono ?_); rintro e w1 ⟨rfl, rfl⟩))
    all_goals
      go_wp2_with (fail)
      refine (HR.out _).mono ?_
      rintro e w1 ⟨rfl, T1⟩
      have T1 := undrew T1
      obtain ⟨b0, b1⟩ := two_rows T1
      have B0 := Lib.hid b0
      obtain ⟨⟨c0, c1, c2, c3⟩, f0, f1, f2, f3⟩ := row4 b0
      obtain ⟨⟨c4, c5, c6, c7⟩, _, _, _, _⟩ := row4 b1
      have T1 := nxt (((Below.refl _ w).alloc (Nat.le_refl _) _).alloc (by simp) _) T1
      clear b0 b1
      go_wp2_with (fail)
      (try simp only [Exit.inBlock, Exit.then])
      refine bodyPost_ret (v := .tuple #[.agg #[.bool false, .int .i64 0, .int .u64 0, .slice none 0 0], .int .i64 130]) (res_cell_tmp rfl _ _ w.heap.size 25 #[.bool false, .int .i64 0, .int .u64 0, .slice none 0 0] (0, 0) _ _ rfl rfl (stored4 B0.out _ _ _ _) Try.underlying25 rfl (by kernel_rfl)) rfl ?_
      exact ⟨_, _, _, rfl, Bys.nil _, below4 T1 (Nat.le_refl _) _ _ _ _⟩
  · go_enter Try.func12, Try.ntmps12
    go_wp2_with (fail)
    go_region_held3 (fun w' => w'.cell? ⟨g, o, none⟩ = some (.int .u8 0)) (first | exact KQ.out | exact KQ2.out | exact KQ3.out)
      (first
        | (go_at_call 22; (with_reducible refine (HN.out _ (by first | exact KA.out | exact KB.out)).mono ?_); rintro e w1 ⟨rfl, rfl⟩))
    all_goals
      go_wp2_with (fail)
      refine (HR.out _).mono ?_
      rintro e w1 ⟨rfl, T1⟩
      have T1 := undrew T1
      obtain ⟨b0, b1⟩ := two_rows T1
      have B0 := Lib.hid b0
      obtain ⟨⟨c0, c1, c2, c3⟩, f0, f1, f2, f3⟩ := row4 b0
      obtain ⟨⟨c4, c5, c6, c7⟩, _, _, _, _⟩ := row4 b1
      have T1 := nxt (((Below.refl _ w).alloc (Nat.le_refl _) _).alloc (by simp) _) T1
      clear b0 b1
      go_wp2_with (fail)
      (try simp only [Exit.inBlock, Exit.then])
      refine bodyPost_ret (v := .tuple #[.agg #[.bool false, .int .i64 (s : Int), .int .u64 0, .slice none 0 0], .int .i64 0]) (res_cell_tmp rfl _ _ w.heap.size 25 #[.bool false, .int .i64 (s : Int), .int .u64 0, .slice none 0 0] (0, 0) _ _ rfl rfl (stored4 B0.out _ _ _ _) Try.underlying25 rfl (by kernel_rfl)) rfl ?_
      exact ⟨_, _, _, rfl, Bys.nil _, below4 T1 (Nat.le_refl _) _ _ _ _⟩
set_option maxHeartbeats 16000000 in
theorem rslget_more (A : Option Addr) (n c : Nat) (y z : UInt8) (r : List UInt8) (m : Int) (w : World) (hm : 1 ≤ m ∧ m ≤ 65536) (hB : Bys w A n c (0 :: y :: z :: r)) (hn : n ≤ 140737488355328) (hr0 : 0 < r.length) (R : Bool) (hR : slRight false (numOf [y, z] : Int) 0 r.length m = R) :
    Calls Try.prog 12 #[.slice A n c, .int .i64 m] w (GivesSl w (if R then (false, numOf [y, z], 0, r) else slZero) (if R then 0 else 130)) := by
  have d1 : decide (m < 1) = false := by simp; omega
  have d2 : decide (65536 < m) = false := by simp; omega
  have hl := hB.len
  simp at hl
  obtain ⟨g, o, rfl, hg, hc⟩ := hB.at_ (by omega)
  have q1 : w.cell? ⟨g, o, none⟩ = some (.int .u8 0) := by have := hc 0 (by simp); simpa using this
  have hle := hB.le
  have hcap := hB.cap
  have hP := hB.part 1 3 (by omega) (by omega) (by omega)
  simp at hP
  have HN := Lib.hid (fun W (k : Below w.heap.size w W) => numB_of [y, z] (by simp) ▸ rnumber_any _ _ _ _ W (hP.below k))
  have hq : numOf [y, z] < 65536 := by have := numOf_bound [y, z]; simpa using this
  have hD := hB.part 3 n (by omega) (by omega) (by omega)
  have hDl : (List.take n (0 :: y :: z :: r)).drop 3 = r := by rw [List.take_of_length_le (by simp; omega)]; rfl
  rw [hDl] at hD
  have HC := Lib.hid (fun W (k : Below w.heap.size w W) => rcopy_any _ _ _ r W (hD.below k) (by omega))
  have HR := Lib.hid (fun W A c => rslright_any false (numOf [y, z] : Int) 0 A r.length c m W)
  have d3 : decide ((n : Int) < 3) = false := by simp; omega
  have d4 : decide (3 < (n : Int)) = true := by simp; omega
  have hn0 : 0 < n := by omega
  have hni : (3 : Int) ≤ (n : Int) := by omega
  have hnn : 3 ≤ n := by omega
  rw [hR] at HR
  generalize numOf [y, z] = s at *
  have hws : IntKind.i64.wrap (s : Int) = (s : Int) := IntWalk.i64_in _ (by omega)
  have hci : (3 : Int) ≤ (c : Int) := by omega
  have hcn : 3 ≤ c := by omega
  have hc1 : (c = 1) = False := by simp; omega
  have hc3 : (c = 3) = False := by simp; omega
  have hcm : (3 : Int) < (c : Int) := by omega
  clear hD hDl hn
  clear hc hB hP hR hl
  have T0 : Below w.heap.size w (w.alloc (.cells #[.bool false, .int .i64 0, .int .u64 0, .slice none 0 0] 25)) := (Below.refl _ w).alloc (Nat.le_refl _) _
  have KA := Lib.hid T0.drew
  have KB : Hid (Below w.heap.size w ((w.alloc (.cells #[.bool false, .int .i64 0, .int .u64 0, .slice none 0 0] 25)).alloc (.cells #[.bool false, .int .i64 0, .int .u64 0, .slice none 0 0] 25)).drew) := (T0.alloc (by simp) _).drew
  have KQ : Hid ((w.alloc (.cells #[.bool false, .int .i64 0, .int .u64 0, .slice none 0 0] 25)).cell? ⟨g, o, none⟩ = some (.int .u8 0)) := (T0.cell hg).trans q1
  have KQ2 : Hid (((w.alloc (.cells #[.bool false, .int .i64 0, .int .u64 0, .slice none 0 0] 25)).alloc (.cells #[.bool false, .int .i64 0, .int .u64 0, .slice none 0 0] 25)).cell? ⟨g, o, none⟩ = some (.int .u8 0)) := ((T0.alloc (by simp) _).cell hg).trans q1
  have KQ3 : Hid (((w.alloc (.cells #[.bool false, .int .i64 0, .int .u64 0, .slice none 0 0] 25)).alloc (.cells #[.bool false, .int .i64 (s : Int), .int .u64 0, .slice none 0 0] 25)).cell? ⟨g, o, none⟩ = some (.int .u8 0)) := ((T0.alloc (by simp) _).cell hg).trans q1
  have KC : Hid (Below w.heap.size w ((w.alloc (.cells #[.bool false, .int .i64 0, .int .u64 0, .slice none 0 0] 25)).alloc (.cells #[.bool false, .int .i64 (s : Int), .int .u64 0, .slice none 0 0] 25)).drew) := (T0.alloc (by simp) _).drew
  clear T0
  cases R
  · go_enter Try.func12, Try.ntmps12
    go_wp2_with (fail)
    go_region_held3 (fun w' => w'.cell? ⟨g, o, none⟩ = some (.int .u8 0)) (first | exact KQ.out | exact KQ2.out | exact KQ3.out)
      (first
        | (go_at_call 22; (with_reducible refine (HN.out _ (by first | exact KA.out | exact KB.out)).mono ?_); rintro e w1 ⟨rfl, rfl⟩))
    all_goals
      go_wp2_with (fail)
      refine (HC.out _ KC.out).mono ?_
      rintro e w1 ⟨v, rfl, hown, T1⟩
      have T1 := undrew T1
      obtain ⟨b0, b1⟩ := two_rows T1
      have T1 := nxt (((Below.refl _ w).alloc (Nat.le_refl _) _).alloc (by simp) _) T1
      obtain ⟨A2, c2, rfl⟩ := own_shape hown
      have hfr : Av (· < w.heap.size + 2) r.length A2 := by have := own_fr hown; simpa using this
      have HB1 := Lib.hid (And.intro hfr (Bys.of_own hown))
      have b0' : (w1.setCell ⟨w.heap.size + 1, 3, none⟩ (.slice A2 r.length c2)).heap[w.heap.size]? = _ := (Below.heap_setCell w1 _ _ _ (by simp)).trans b0
      have b1' := heap_setCell_same w1 _ 3 _ _ (.slice A2 r.length c2) b1
      have hbB := HB1.out.2.off HB1.out.1 ((Off.refl (· < w.heap.size + 2) w1).setCell (p := ⟨w.heap.size + 1, 3, none⟩) (.inl (by simp)) (.slice A2 r.length c2))
      have HB2 := Lib.hid (And.intro hfr hbB)
      have HT1 := Lib.hid (T1.setCell (p := ⟨w.heap.size + 1, 3, none⟩) (by simp) (.slice A2 r.length c2))
      obtain ⟨⟨c3, c4, c5, c6⟩, f3, f4, f5, f6⟩ := row4 b1
      have b0s := Lib.hid b0'
      have b1s := Lib.hid b1'
      clear b0 b1 b0' b1' hown hfr hbB T1
      go_wp2_with (fail)
      refine (HR.out _ _ _).mono ?_
      rintro e w3 ⟨rfl, T3⟩
      have g0 := (T3.block _ (lt_row b0s.out)).trans b0s.out
      have g1 := (T3.block _ (lt_row b1s.out)).trans b1s.out
      obtain ⟨⟨c7, c8, c9, c10⟩, f7, f8, f9, f10⟩ := row4 g0
      have c11 := cell_of_row _ _ 0 _ _ _ g1
      have c12 := cell_of_row _ _ 1 _ _ _ g1
      have c13 := cell_of_row _ _ 2 _ _ _ g1
      have c14 := cell_of_row _ _ 3 _ _ _ g1
      simp at c11 c12 c13 c14
      have G0 := Lib.hid g0
      have HT := Lib.hid (nxt HT1.out T3)
      clear g0 g1 c3 c4 c5 c6 f3 f4 f5 f6
      go_wp2_with (fail)
      (try simp only [Exit.inBlock, Exit.then])
      refine bodyPost_ret (v := .tuple #[.agg #[.bool false, .int .i64 0, .int .u64 0, .slice none 0 0], .int .i64 130]) (res_cell_tmp rfl _ _ w.heap.size 25 #[.bool false, .int .i64 0, .int .u64 0, .slice none 0 0] (0, 0) _ _ rfl rfl (stored4 G0.out _ _ _ _) Try.underlying25 rfl (by kernel_rfl)) rfl ?_
      exact ⟨_, _, _, rfl, Bys.nil _, below4 HT.out (Nat.le_refl _) _ _ _ _⟩
  · go_enter Try.func12, Try.ntmps12
    go_wp2_with (fail)
    go_region_held3 (fun w' => w'.cell? ⟨g, o, none⟩ = some (.int .u8 0)) (first | exact KQ.out | exact KQ2.out | exact KQ3.out)
      (first
        | (go_at_call 22; (with_reducible refine (HN.out _ (by first | exact KA.out | exact KB.out)).mono ?_); rintro e w1 ⟨rfl, rfl⟩))
    all_goals
      go_wp2_with (fail)
      refine (HC.out _ KC.out).mono ?_
      rintro e w1 ⟨v, rfl, hown, T1⟩
      have T1 := undrew T1
      obtain ⟨b0, b1⟩ := two_rows T1
      have T1 := nxt (((Below.refl _ w).alloc (Nat.le_refl _) _).alloc (by simp) _) T1
      obtain ⟨A2, c2, rfl⟩ := own_shape hown
      have hfr : Av (· < w.heap.size + 2) r.length A2 := by have := own_fr hown; simpa using this
      have HB1 := Lib.hid (And.intro hfr (Bys.of_own hown))
      have b0' : (w1.setCell ⟨w.heap.size + 1, 3, none⟩ (.slice A2 r.length c2)).heap[w.heap.size]? = _ := (Below.heap_setCell w1 _ _ _ (by simp)).trans b0
      have b1' := heap_setCell_same w1 _ 3 _ _ (.slice A2 r.length c2) b1
      have hbB := HB1.out.2.off HB1.out.1 ((Off.refl (· < w.heap.size + 2) w1).setCell (p := ⟨w.heap.size + 1, 3, none⟩) (.inl (by simp)) (.slice A2 r.length c2))
      have HB2 := Lib.hid (And.intro hfr hbB)
      have HT1 := Lib.hid (T1.setCell (p := ⟨w.heap.size + 1, 3, none⟩) (by simp) (.slice A2 r.length c2))
      obtain ⟨⟨c3, c4, c5, c6⟩, f3, f4, f5, f6⟩ := row4 b1
      have b0s := Lib.hid b0'
      have b1s := Lib.hid b1'
      clear b0 b1 b0' b1' hown hfr hbB T1
      go_wp2_with (fail)
      refine (HR.out _ _ _).mono ?_
      rintro e w3 ⟨rfl, T3⟩
      have g0 := (T3.block _ (lt_row b0s.out)).trans b0s.out
      have g1 := (T3.block _ (lt_row b1s.out)).trans b1s.out
      obtain ⟨⟨c7, c8, c9, c10⟩, f7, f8, f9, f10⟩ := row4 g0
      have c11 := cell_of_row _ _ 0 _ _ _ g1
      have c12 := cell_of_row _ _ 1 _ _ _ g1
      have c13 := cell_of_row _ _ 2 _ _ _ g1
      have c14 := cell_of_row _ _ 3 _ _ _ g1
      simp at c11 c12 c13 c14
      have G0 := Lib.hid g0
      have HT := Lib.hid (nxt HT1.out T3)
      clear g0 g1 c3 c4 c5 c6 f3 f4 f5 f6
      go_wp2_with (fail)
      (try simp only [Exit.inBlock, Exit.then])
      refine bodyPost_ret (v := .tuple #[.agg #[.bool false, .int .i64 (s : Int), .int .u64 0, .slice A2 r.length c2], .int .i64 0]) (res_cell_tmp rfl _ _ w.heap.size 25 #[.bool false, .int .i64 (s : Int), .int .u64 0, .slice A2 r.length c2] (0, 0) _ _ rfl rfl (stored4 G0.out _ _ _ _) Try.underlying25 rfl (by kernel_rfl)) rfl ?_
      exact ⟨_, _, _, rfl, (HB2.out.2.below T3).off (X := (· = w.heap.size)) (HB2.out.1.imp (fun k hk => by omega)) (off4 w3 _ _ _ _ _), below4 HT.out (Nat.le_refl _) _ _ _ _⟩
/-- what Get answers, the zero packet where there is none -/
def slV (b : List UInt8) (m : Int) : Bool × Nat × Nat × List UInt8 := (slGet b m).getD slZero
theorem slV_none {b : List UInt8} {m : Int} (h : slGet b m = none) : slV b m = slZero := by unfold slV; rw [h]; rfl
theorem slV_some {b : List UInt8} {m : Int} {v : Bool × Nat × Nat × List UInt8} (h : slGet b m = some v) : slV b m = v := by unfold slV; rw [h]; rfl
theorem slGet_raw {b : List UInt8} {m : Int} {a : Bool} {s u : Nat} {d : List UInt8} (hm : 1 ≤ m ∧ m ≤ 65536) (h : slRaw b = some (a, s, u, d)) : slV b m = (if slRight a s u d.length m then (a, s, u, d) else slZero) ∧ slGetE b m = (if slRight a s u d.length m then 0 else 130) := by
  have e : slGet b m = if slErr a s u d.length m = 0 then some (a, s, u, d) else none := by unfold slGet; rw [h]
  have h0 : ¬ (m < 1 ∨ 65536 < m) := by omega
  unfold slErr at e
  rw [if_neg h0] at e
  unfold slV slGetE
  rw [if_neg h0, e]
  cases slRight a s u d.length m <;> exact ⟨rfl, rfl⟩
theorem slGet_bad {b : List UInt8} {m : Int} (hm : 1 ≤ m ∧ m ≤ 65536) (h : slRaw b = none) : slV b m = slZero ∧ slGetE b m = 130 := by
  have e : slGet b m = none := by unfold slGet; rw [h]
  unfold slV slGetE
  rw [if_neg (by omega), e]
  exact ⟨rfl, rfl⟩
theorem rslget_any (A : Option Addr) (n c : Nat) (b : List UInt8) (m : Int) (w : World) (hB : Bys w A n c b) (hn : n ≤ 140737488355328) :
    Calls Try.prog 12 #[.slice A n c, .int .i64 m] w (GivesSl w (slV b m) (slGetE b m)) := by
  have hl := hB.len
  by_cases hm : 1 ≤ m ∧ m ≤ 65536
  · by_cases h3 : n < 3
    · have hb : slRaw b = none := by
        match b, hl with
        | [], _ => rfl
        | [_], _ => rfl
        | [_, _], _ => rfl
        | _ :: _ :: _ :: _, hl => simp at hl; omega
      obtain ⟨e1, e2⟩ := slGet_bad hm hb
      rw [e1, e2]
      exact rslget_short A n c m w hm h3
    · match b, hB, hl with
      | [], _, hl => simp at hl; omega
      | [_], _, hl => simp at hl; omega
      | [_, _], _, hl => simp at hl; omega
      | x :: y :: z :: r, hB, hl =>
        simp at hl
        by_cases hx : 1 < x.toNat ∨ x.toNat = 1 ∧ n ≠ 11
        · have hb : slRaw (x :: y :: z :: r) = none := by
            rw [slRaw_three]
            unfold slRaw3
            rcases hx with hx | ⟨hx, h11⟩
            · rw [if_pos hx]
            · rw [if_neg (by omega), if_pos hx, if_neg (by omega)]
          obtain ⟨e1, e2⟩ := slGet_bad hm hb
          rw [e1, e2]
          exact rslget_head A n c x (y :: z :: r) m w hm hB (by omega) hx
        · by_cases hx1 : x.toNat = 1
          · obtain rfl : x = 1 := UInt8.toNat_inj.1 (by rw [hx1]; rfl)
            have hr8 : r.length = 8 := by omega
            have hb : slRaw (1 :: y :: z :: r) = some (true, numOf [y, z], numOf r, []) := by
              rw [slRaw_three]
              unfold slRaw3
              rw [if_neg (by decide), if_pos (by decide), if_pos hr8]
            obtain ⟨e1, e2⟩ := slGet_raw hm hb
            rw [e1, e2]
            exact rslget_ack A n c y z r m w hm hB hr8 _ rfl
          · obtain rfl : x = 0 := UInt8.toNat_inj.1 (by show x.toNat = 0; omega)
            have hb : slRaw (0 :: y :: z :: r) = some (false, numOf [y, z], 0, r) := by
              rw [slRaw_three]
              unfold slRaw3
              rw [if_neg (by decide), if_neg (by decide)]
            obtain ⟨e1, e2⟩ := slGet_raw hm hb
            rw [e1, e2]
            by_cases hr : r = []
            · exact rslget_three A n c y z r m w hm hB hn hr _ rfl
            · exact rslget_more A n c y z r m w hm hB hn (List.length_pos_iff.2 hr) _ rfl
  · have e : slV b m = slZero ∧ slGetE b m = 1 := by
      constructor
      · apply slV_none
        unfold slGet
        match slRaw b with
        | none => rfl
        | some (a, s, u, d) =>
          show (if slErr a s u d.length m = 0 then _ else _) = _
          unfold slErr
          rw [if_pos (show m < 1 ∨ 65536 < m by omega), if_neg (by decide)]
      · unfold slGetE
        rw [if_pos (by omega)]
    rw [e.1, e.2]
    exact rslget_mod A n c m w (by omega)
/-- whether two packets are the same -/
def slSame (a : Bool) (s : Int) (u : Nat) (d : List UInt8) (a' : Bool) (s' : Int) (u' : Nat) (d' : List UInt8) : Bool := decide (a = a' ∧ s = s' ∧ u = u' ∧ d = d')
theorem slSame_self (a : Bool) (s : Int) (u : Nat) (d : List UInt8) : slSame a s u d a s u d = true := by simp [slSame]
set_option maxHeartbeats 4000000 in
theorem rslsame_any (a : Bool) (s : Int) (u : Nat) (A : Option Addr) (n c : Nat) (d : List UInt8) (a' : Bool) (s' : Int) (u' : Nat) (A' : Option Addr) (n' c' : Nat) (d' : List UInt8) (w : World) (hB : Bys w A n c d) (hB' : Bys w A' n' c' d') :
    Calls Try.prog 13 #[.agg #[.bool a, .int .i64 s, .int .u64 (u : Int), .slice A n c], .agg #[.bool a', .int .i64 s', .int .u64 (u' : Int), .slice A' n' c']] w fun e w' => e = .returned (.bool (slSame a s u d a' s' u' d')) ∧ Below w.heap.size w w' := by
  have T0 : Below w.heap.size w ((w.alloc (.cells #[.bool a, .int .i64 s, .int .u64 (u : Int), .slice A n c] 25)).alloc (.cells #[.bool a', .int .i64 s', .int .u64 (u' : Int), .slice A' n' c'] 25)) := ((Below.refl _ w).alloc (Nat.le_refl _) _).alloc (by simp) _
  by_cases h1 : a = a'
  · subst h1
    have e1 : (a == a) = true := by simp
    by_cases h2 : s = s'
    · subst h2
      have e2 : (s == s) = true := by simp
      by_cases h3 : u = u'
      · subst h3
        have e3 : ((u : Int) == (u : Int)) = true := by simp
        have HS := Lib.hid (fun W (h : Below w.heap.size w W) => same_any A A' n c n' c' d d' W (hB.below h) (hB'.below h))
        have hr : slSame a s u d a s u d' = sameB d d' := by unfold slSame sameB; simp
        rw [hr]
        have HT := Lib.hid T0
        clear hB hB' hr T0
        go_enter Try.func13, Try.ntmps13
        go_wp2_with (fail)
        refine (HS.out _ HT.out).mono ?_
        rintro e w1 ⟨rfl, q, rfl⟩
        go_wp2
        go_ret
        exact ⟨rfl, below_drewN' HT.out _⟩
      · have e3 : ((u : Int) == (u' : Int)) = false := by simp; omega
        have hr : slSame a s u d a s u' d' = false := by unfold slSame; simp [h3]
        rw [hr]
        clear hB hB' hr
        go_enter Try.func13, Try.ntmps13
        go_wp2
        go_ret
        exact ⟨rfl, T0⟩
    · have e2 : (s == s') = false := by simpa using h2
      have hr : slSame a s u d a s' u' d' = false := by unfold slSame; simp [h2]
      rw [hr]
      clear hB hB' hr
      go_enter Try.func13, Try.ntmps13
      go_wp2
      go_ret
      exact ⟨rfl, T0⟩
  · have e1 : (a == a') = false := by simpa using h1
    have hr : slSame a s u d a' s' u' d' = false := by unfold slSame; simp [h1]
    rw [hr]
    clear hB hB' hr
    go_enter Try.func13, Try.ntmps13
    go_wp2
    go_ret
    exact ⟨rfl, T0⟩
end Go.Proofs.Ytodgnfjaidiibaa
