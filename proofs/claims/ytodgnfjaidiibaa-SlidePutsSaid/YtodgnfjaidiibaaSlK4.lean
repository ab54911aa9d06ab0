/- What slide.Get answers, and all contracts of package slide (landed code at 7086a58). -/
import Derived.Test.YtodgnfjaidiibaaSlK3
import Derived.Test.YtodgnfjaidiibaaSlC
namespace Go.Proofs.Ytodgnfjaidiibaa
open Go.RowKit
set_option maxRecDepth 20000

set_option maxHeartbeats 8000000 in
theorem slget_mod (A : Option Addr) (n c : Nat) (m : Int) (w : World) (h : ¬ (1 ≤ m ∧ m ≤ 65536)) :
    Calls Try.prog 11 #[.slice A n c, .int .i64 m] w (GivesSl w slZero 1) := by
  have HM := Lib.hid (fun W => slmod_any m W)
  rw [decide_eq_false h] at HM
  clear h
  go_enter Try.func11, Try.ntmps11
  go_wp2_with (fail)
  refine (HM.out _).mono ?_
  rintro e w1 ⟨rfl, rfl⟩
  go_wp2
  (try simp only [Exit.inBlock, Exit.then])
  refine bodyPost_ret (v := .tuple #[.agg #[.bool false, .int .i64 0, .int .u64 0, .slice none 0 0], .int .i64 1]) (res_cell_tmp rfl _ _ w.heap.size 25 #[.bool false, .int .i64 0, .int .u64 0, .slice none 0 0] (0, 0) _ _ rfl rfl (heap_alloc_new w _) Try.underlying25 rfl (by kernel_rfl)) rfl ?_
  exact ⟨_, _, _, rfl, Bys.nil _, (Below.refl _ _).alloc (Nat.le_refl _) _⟩
set_option maxHeartbeats 8000000 in
theorem slget_of (A : Option Addr) (n c : Nat) (a : Bool) (s u : Nat) (d : List UInt8) (ok : Bool) (m : Int) (w : World) (hm : 1 ≤ m ∧ m ≤ 65536) (hT : ∀ W, Below w.heap.size w W → Calls Try.prog 21 #[.slice A n c] W (GivesTo W ((a, s, u, d), ok))) (R : Bool) (hR : slRight a (s : Int) u d.length m = R) (hd : d.length ≤ 140737488355328) :
    Calls Try.prog 11 #[.slice A n c, .int .i64 m] w (GivesSl w (if (ok && R) = true then (a, s, u, d) else slZero) (if (ok && R) = true then 0 else 130)) := by
  have HM := Lib.hid (fun W => slmod_any m W)
  rw [decide_eq_true hm] at HM
  have HT := Lib.hid (hT _ ((Below.refl _ w).alloc (Nat.le_refl _) (.cells #[.bool false, .int .i64 0, .int .u64 0, .slice none 0 0] 25)))
  clear hm hT
  cases ok with
  | false =>
    rw [Bool.false_and, if_neg (by decide), if_neg (by decide)]
    go_enter Try.func11, Try.ntmps11
    go_wp2_with (fail)
    refine (HM.out _).mono ?_
    rintro e w1 ⟨rfl, rfl⟩
    go_wp2_with (fail)
    refine HT.out.mono ?_
    rintro e w1 ⟨A2, n2, c2, rfl, B2, T1⟩
    have b0 := one_row T1
    have z1 := lt_row b0
    have T1 := nxt ((Below.refl _ w).alloc (Nat.le_refl _) _) T1
    have G0 := Lib.hid b0
    obtain ⟨⟨c7, c8, c9, c10⟩, f7, f8, f9, f10⟩ := row4 b0
    clear b0
    go_wp2_with (fail)
    (try simp only [Exit.inBlock, Exit.then])
    refine bodyPost_ret (v := .tuple #[.agg #[.bool false, .int .i64 0, .int .u64 0, .slice none 0 0], .int .i64 130]) (res_cell_tmp rfl _ _ w.heap.size 25 #[.bool false, .int .i64 0, .int .u64 0, .slice none 0 0] (0, 0) _ _ rfl rfl (hp_old (stored4 G0.out _ _ _ _) _) Try.underlying25 rfl (by kernel_rfl)) rfl ?_
    exact ⟨_, _, _, rfl, Bys.nil _, (below4 T1 (Nat.le_refl _) _ _ _ _).alloc (by have := T1.size; simpa using this) _⟩
  | true =>
    have HR := Lib.hid (fun W A c => slright_any a (s : Int) u A d.length c m W)
    rw [hR] at HR
    clear hR
    cases R with
    | false =>
      rw [Bool.and_false, if_neg (by decide), if_neg (by decide)]
      go_enter Try.func11, Try.ntmps11
      go_wp2_with (fail)
      refine (HM.out _).mono ?_
      rintro e w1 ⟨rfl, rfl⟩
      go_wp2_with (fail)
      refine HT.out.mono ?_
      rintro e w1 ⟨A2, n2, c2, rfl, B2, T1⟩
      obtain rfl : d.length = n2 := B2.len
      have b0 := one_row T1
      have z1 := lt_row b0
      have b0 := hp_old b0 (.cells #[.bool a, .int .i64 (s : Int), .int .u64 (u : Int), .slice A2 d.length c2] 25)
      have T1 := nxt ((Below.refl _ w).alloc (Nat.le_refl _) _) T1
      have T1 := T1.alloc T1.size (.cells #[.bool a, .int .i64 (s : Int), .int .u64 (u : Int), .slice A2 d.length c2] 25)
      have G0 := Lib.hid b0
      clear b0
      go_wp2_with (fail)
      refine (HR.out _ _ _).mono ?_
      rintro e w2 ⟨rfl, T2⟩
      have b0 := (T2.block _ (lt_row G0.out)).trans G0.out
      have G0 := Lib.hid b0
      obtain ⟨⟨c7, c8, c9, c10⟩, f7, f8, f9, f10⟩ := row4 b0
      have T2 := nxt T1 T2
      clear b0
      go_wp2_with (fail)
      (try simp only [Exit.inBlock, Exit.then])
      refine bodyPost_ret (v := .tuple #[.agg #[.bool false, .int .i64 0, .int .u64 0, .slice none 0 0], .int .i64 130]) (res_cell_tmp rfl _ _ w.heap.size 25 #[.bool false, .int .i64 0, .int .u64 0, .slice none 0 0] (0, 0) _ _ rfl rfl (stored4 G0.out _ _ _ _) Try.underlying25 rfl (by kernel_rfl)) rfl ?_
      exact ⟨_, _, _, rfl, Bys.nil _, below4 T2 (Nat.le_refl _) _ _ _ _⟩
    | true =>
      rw [Bool.and_true, if_pos rfl, if_pos rfl]
      go_enter Try.func11, Try.ntmps11
      go_wp2_with (fail)
      refine (HM.out _).mono ?_
      rintro e w1 ⟨rfl, rfl⟩
      go_wp2_with (fail)
      refine HT.out.mono ?_
      rintro e w1 ⟨A2, n2, c2, rfl, B2, T1⟩
      obtain rfl : d.length = n2 := B2.len
      have b0 := one_row T1
      have z1 := lt_row b0
      have b0 := hp_old b0 (.cells #[.bool a, .int .i64 (s : Int), .int .u64 (u : Int), .slice A2 d.length c2] 25)
      have b1 := heap_alloc_new w1 (.cells #[.bool a, .int .i64 (s : Int), .int .u64 (u : Int), .slice A2 d.length c2] 25)
      have T1 := nxt ((Below.refl _ w).alloc (Nat.le_refl _) _) T1
      have T1 := T1.alloc T1.size (.cells #[.bool a, .int .i64 (s : Int), .int .u64 (u : Int), .slice A2 d.length c2] 25)
      have B2 := B2.alloc (.cells #[.bool a, .int .i64 (s : Int), .int .u64 (u : Int), .slice A2 d.length c2] 25)
      have G0 := Lib.hid b0
      have G1 := Lib.hid b1
      clear b0 b1
      go_wp2_with (fail)
      refine (HR.out _ _ _).mono ?_
      rintro e w2 ⟨rfl, T2⟩
      have b0 := (T2.block _ (lt_row G0.out)).trans G0.out
      have b1 := (T2.block _ (lt_row G1.out)).trans G1.out
      have hB2 := Lib.hid (B2.below T2)
      have B0 := Lib.hid b0
      have B1 := Lib.hid b1
      obtain ⟨⟨c3, c4, c5, c6⟩, f3, f4, f5, f6⟩ := row4 b1
      have T2 := nxt T1 T2
      have HT2 := Lib.hid T2
      have zw := Lib.hid (show w1.heap.size < w2.heap.size from lt_row b1)
      clear b0 b1 B2
      go_wp2_with ((with_reducible refine app_bys _ rfl (.const (.slice none 0 0)) (.tmp 27) rfl w2.heap.size (.slice none 0 0) 0 [] rfl ?_ A2 d.length c2 d rfl ?_ ?_ ?_ ?_); (exact World.ownsRow_nil _ _ _ _); (exact hB2.out); (omega); (exact Nat.le_refl _); intro v3 w3 hown3 hgrow3 hwhere3; obtain ⟨A3, k3, rfl⟩ := own_shape hown3; simp only [Nat.zero_add, List.nil_append] at hown3 hgrow3 hwhere3 ⊢; have hT3 := Lib.hid (show Below w2.heap.size w2 w3 from (Below.refl _ w2).grown hgrow3 (Nat.le_refl _) (by intro k hk; simp [Value.ownBlock] at hk)); have hO3 := Lib.hid hown3; have b1' := Lib.hid ((hT3.out.block _ (lt_row B1.out)).trans B1.out); have b0' := Lib.hid ((hT3.out.block _ (lt_row B0.out)).trans B0.out); obtain ⟨⟨c7, c8, c9, cD⟩, f7, f8, f9, fD⟩ := row4 b1'.out; obtain ⟨⟨cA, cB, cC, cE⟩, fA, fB, fC, fE⟩ := row4 b0'.out; clear hown3 hgrow3 hwhere3 c3 c4 c5 c6 f3 f4 f5 f6)
      (try simp only [Exit.inBlock, Exit.then])
      have hfr : Av (· < w2.heap.size) d.length A3 := own_fr hO3.out
      have hlt := lt_row B1.out
      have hlt0 := lt_row B0.out
      have g0 : (w3.setCell ⟨w1.heap.size, 3, none⟩ (.slice A3 d.length k3)).heap[w.heap.size]? = _ := (Below.heap_setCell w3 _ _ _ (by simp; omega)).trans b0'.out
      refine bodyPost_ret (v := .tuple #[.agg #[.bool a, .int .i64 (s : Int), .int .u64 (u : Int), .slice A3 d.length k3], .int .i64 0]) (res_cell_tmp rfl _ _ w.heap.size 25 #[.bool a, .int .i64 (s : Int), .int .u64 (u : Int), .slice A3 d.length k3] (0, 0) _ _ rfl rfl (stored4 g0 _ _ _ _) Try.underlying25 rfl (by kernel_rfl)) rfl ?_
      refine ⟨_, _, _, rfl, ?_, below4 ((nxt HT2.out hT3.out).setCell (p := ⟨w1.heap.size, 3, none⟩) (by show w.heap.size ≤ w1.heap.size; omega) _) (Nat.le_refl _) _ _ _ _⟩
      have k1 : Off (· < w2.heap.size) w3 (w3.setCell ⟨w1.heap.size, 3, none⟩ (.slice A3 d.length k3)) := (Off.refl _ _).setCell (.inl hlt) _
      have k2 := (((k1.setCell (p := ⟨w.heap.size, 0, none⟩) (.inl (by show w.heap.size < w2.heap.size; omega)) (.bool a)).setCell (p := ⟨w.heap.size, 1, none⟩) (.inl (by show w.heap.size < w2.heap.size; omega)) (.int .i64 (s : Int))).setCell (p := ⟨w.heap.size, 2, none⟩) (.inl (by show w.heap.size < w2.heap.size; omega)) (.int .u64 (u : Int))).setCell (p := ⟨w.heap.size, 3, none⟩) (.inl (by show w.heap.size < w2.heap.size; omega)) (.slice A3 d.length k3)
      exact (Bys.of_own hO3.out).off hfr k2
theorem slraw_told (b : List UInt8) : slRaw b = if (slTold b).2 = true then some (slTold b).1 else none := by
  match b with
  | [] => rfl
  | [_] => rfl
  | [_, _] => rfl
  | x :: y :: z :: r =>
    rw [slRaw_three]
    unfold slRaw3 slTold
    by_cases h1 : x = 1
    · subst h1
      rw [if_neg (by decide), if_pos (by decide)]
      by_cases h8 : r.length = 8
      · rw [if_pos h8]; simp [h8, numB]
      · rw [if_neg h8]; simp [h8]
    · have h1' : x.toNat ≠ 1 := fun h => h1 (UInt8.toNat_inj.1 h)
      by_cases h0 : x = 0
      · subst h0
        rfl
      · have h0' : x.toNat ≠ 0 := fun h => h0 (UInt8.toNat_inj.1 h)
        rw [if_pos (by omega)]
        simp [h1, h0]
theorem sltold_any (A : Option Addr) (n c : Nat) (b : List UInt8) (w : World) (hB : Bys w A n c b) : Calls Try.prog 21 #[.slice A n c] w (GivesTo w (slTold b)) := by
  match b, hB with
  | [], hB => exact sltold_short A n c w (by have := hB.len; simp at this; omega)
  | [_], hB => exact sltold_short A n c w (by have := hB.len; simp at this; omega)
  | [_, _], hB => exact sltold_short A n c w (by have := hB.len; simp at this; omega)
  | x :: y :: z :: r, hB => exact sltold_three A n c x y z r w hB
theorem slTold_len (b : List UInt8) : (slTold b).1.2.2.2.length ≤ b.length := by
  match b with
  | [] => simp [slTold, slZero]
  | [_] => simp [slTold, slZero]
  | [_, _] => simp [slTold, slZero]
  | x :: y :: z :: r =>
    unfold slTold
    simp only
    split
    · simp
    · split
      · simp; omega
      · simp [slZero]
theorem slget_any (A : Option Addr) (n c : Nat) (b : List UInt8) (m : Int) (w : World) (hB : Bys w A n c b) (hn : n ≤ 140737488355328) :
    Calls Try.prog 11 #[.slice A n c, .int .i64 m] w (GivesSl w (slV b m) (slGetE b m)) := by
  have hl := hB.len
  by_cases hm : 1 ≤ m ∧ m ≤ 65536
  · have hr := slraw_told b
    have ht := fun W (k : Below w.heap.size w W) => sltold_any A n c b W (hB.below k)
    have hd := slTold_len b
    generalize slTold b = t at *
    obtain ⟨⟨a, s, u, d⟩, ok⟩ := t
    have h := slget_of A n c a s u d ok m w hm ht _ rfl (by simp at hd; omega)
    cases ok with
    | false =>
      obtain ⟨e1, e2⟩ := slGet_bad hm (show slRaw b = none from hr)
      rw [e1, e2]
      exact h
    | true =>
      obtain ⟨e1, e2⟩ := slGet_raw hm (show slRaw b = some (a, s, u, d) from hr)
      rw [e1, e2]
      exact h
  · have e : slV b m = slZero ∧ slGetE b m = 1 := by
      constructor
      · apply slV_none
        unfold slGet
        match slRaw b with
        | none => rfl
        | some (a, s, u, d) =>
          show (if slErr a s u d.length m = 0 then _ else _) = _
          unfold slErr
          rw [if_pos (show m < 1 ∨ 65536 < m by omega), if_neg (by decide)]
      · unfold slGetE
        rw [if_pos (by omega)]
    rw [e.1, e.2]
    exact slget_mod A n c m w hm
theorem slC : SlC where
  put := fun a s u A n c d m w _ hu _ hB => slput_any a s u A n c d m w hu hB
  get := fun A n c b m w _ hB hn => slget_any A n c b m w hB hn
  same := slsame_any
end Go.Proofs.Ytodgnfjaidiibaa
