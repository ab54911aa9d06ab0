/- What the landed token's Get answers (at ac8f435); all contracts of package token. -/
import Derived.Test.YtabackggnkplhaaDoorTkK2
import Derived.Test.YtabackggnkplhaaDoorTkK3
import Derived.Test.YtabackggnkplhaaDoorTkK4
import Derived.Test.YtabackggnkplhaaDoorTkC
namespace Go.Proofs.YtabackggnkplhaaDoor
open Go.RowKit
set_option maxRecDepth 20000

set_option maxHeartbeats 8000000 in
theorem tkget_of (A : Option Addr) (n c : Nat) (q x y z : Nat) (d : List UInt8) (ok : Bool) (w : World) (hT0 : Tab15 w) (hT : ∀ W, Below w.heap.size w W → Calls Tryd.prog 20 #[.slice A n c] W (GivesTd W ((q, x, y, z, d), ok))) (R : Bool) (hR : tkRight (q : Int) y z d.length = R) (hd : d.length ≤ 140737488355328) :
    Calls Tryd.prog 11 #[.slice A n c] w (GivesTk w (if (ok && R) = true then (q, x, y, z, d) else tkZero) (if (ok && R) = true then 0 else 130)) := by
  have HT := Lib.hid (hT _ ((Below.refl _ w).alloc (Nat.le_refl _) (.cells #[.int .i64 0, .int .u64 0, .int .u64 0, .int .u64 0, .slice none 0 0] 25)))
  clear hT
  cases ok with
  | false =>
    rw [Bool.false_and, if_neg (by decide), if_neg (by decide)]
    clear hT0 hR
    go_enter Tryd.func11, Tryd.ntmps11
    go_wp2_with (fail)
    refine HT.out.mono ?_
    rintro e w1 ⟨A2, n2, c2, rfl, B2, T1⟩
    have b0 := one_row T1
    have z1 := lt_row b0
    have T1 := nxt ((Below.refl _ w).alloc (Nat.le_refl _) _) T1
    have G0 := Lib.hid b0
    obtain ⟨⟨c7, c8, c9, c10, c11⟩, f7, f8, f9, f10, f11⟩ := row5 b0
    clear b0
    go_wp2_with (fail)
    (try simp only [Exit.inBlock, Exit.then])
    refine bodyPost_ret (v := .tuple #[.agg #[.int .i64 0, .int .u64 0, .int .u64 0, .int .u64 0, .slice none 0 0], .int .i64 130]) (res_cell_tmp rfl _ _ w.heap.size 25 #[.int .i64 0, .int .u64 0, .int .u64 0, .int .u64 0, .slice none 0 0] (0, 0) _ _ rfl rfl (hp_old (stored5 G0.out _ _ _ _ _) _) Tryd.underlying25 rfl (by kernel_rfl)) rfl ?_
    exact ⟨_, _, _, rfl, Bys.nil _, (below5 T1 (Nat.le_refl _) _ _ _ _ _).alloc (by have := T1.size; simpa using this) _⟩
  | true =>
    have HR := Lib.hid (fun W (k : Below w.heap.size w W) A c => hR ▸ tkright_any (q : Int) x y z A d.length c W (tab15_keep _ _ hT0 k))
    clear hR hT0
    cases R with
    | false =>
      rw [Bool.and_false, if_neg (by decide), if_neg (by decide)]
      go_enter Tryd.func11, Tryd.ntmps11
      go_wp2_with (fail)
      refine HT.out.mono ?_
      rintro e w1 ⟨A2, n2, c2, rfl, B2, T1⟩
      obtain rfl : d.length = n2 := B2.len
      have b0 := one_row T1
      have z1 := lt_row b0
      have b0 := hp_old b0 (.cells #[.int .i64 (q : Int), .int .u64 (x : Int), .int .u64 (y : Int), .int .u64 (z : Int), .slice A2 d.length c2] 25)
      have T1 := nxt ((Below.refl _ w).alloc (Nat.le_refl _) _) T1
      have T1 := T1.alloc T1.size (.cells #[.int .i64 (q : Int), .int .u64 (x : Int), .int .u64 (y : Int), .int .u64 (z : Int), .slice A2 d.length c2] 25)
      have G0 := Lib.hid b0
      clear b0
      go_wp2_with (fail)
      refine (HR.out _ T1 _ _).mono ?_
      rintro e w2 ⟨rfl, T2⟩
      have b0 := (T2.block _ (lt_row G0.out)).trans G0.out
      have G0 := Lib.hid b0
      obtain ⟨⟨c7, c8, c9, c10, c11⟩, f7, f8, f9, f10, f11⟩ := row5 b0
      have T2 := nxt T1 T2
      clear b0
      go_wp2_with (fail)
      (try simp only [Exit.inBlock, Exit.then])
      refine bodyPost_ret (v := .tuple #[.agg #[.int .i64 0, .int .u64 0, .int .u64 0, .int .u64 0, .slice none 0 0], .int .i64 130]) (res_cell_tmp rfl _ _ w.heap.size 25 #[.int .i64 0, .int .u64 0, .int .u64 0, .int .u64 0, .slice none 0 0] (0, 0) _ _ rfl rfl (stored5 G0.out _ _ _ _ _) Tryd.underlying25 rfl (by kernel_rfl)) rfl ?_
      exact ⟨_, _, _, rfl, Bys.nil _, below5 T2 (Nat.le_refl _) _ _ _ _ _⟩
    | true =>
      rw [Bool.and_true, if_pos rfl, if_pos rfl]
      go_enter Tryd.func11, Tryd.ntmps11
      go_wp2_with (fail)
      refine HT.out.mono ?_
      rintro e w1 ⟨A2, n2, c2, rfl, B2, T1⟩
      obtain rfl : d.length = n2 := B2.len
      have b0 := one_row T1
      have z1 := lt_row b0
      have b0 := hp_old b0 (.cells #[.int .i64 (q : Int), .int .u64 (x : Int), .int .u64 (y : Int), .int .u64 (z : Int), .slice A2 d.length c2] 25)
      have b1 := heap_alloc_new w1 (.cells #[.int .i64 (q : Int), .int .u64 (x : Int), .int .u64 (y : Int), .int .u64 (z : Int), .slice A2 d.length c2] 25)
      have T1 := nxt ((Below.refl _ w).alloc (Nat.le_refl _) _) T1
      have T1 := T1.alloc T1.size (.cells #[.int .i64 (q : Int), .int .u64 (x : Int), .int .u64 (y : Int), .int .u64 (z : Int), .slice A2 d.length c2] 25)
      have B2 := B2.alloc (.cells #[.int .i64 (q : Int), .int .u64 (x : Int), .int .u64 (y : Int), .int .u64 (z : Int), .slice A2 d.length c2] 25)
      have G0 := Lib.hid b0
      have G1 := Lib.hid b1
      clear b0 b1
      go_wp2_with (fail)
      refine (HR.out _ T1 _ _).mono ?_
      rintro e w2 ⟨rfl, T2⟩
      have b0 := (T2.block _ (lt_row G0.out)).trans G0.out
      have b1 := (T2.block _ (lt_row G1.out)).trans G1.out
      have hB2 := Lib.hid (B2.below T2)
      have B0 := Lib.hid b0
      have B1 := Lib.hid b1
      obtain ⟨⟨c3, c4, c5, c6, c7⟩, f3, f4, f5, f6, f7⟩ := row5 b1
      have T2 := nxt T1 T2
      have HT2 := Lib.hid T2
      have zw := Lib.hid (show w1.heap.size < w2.heap.size from lt_row b1)
      clear b0 b1 B2
      go_wp2_with ((with_reducible refine app_bys _ rfl (.const (.slice none 0 0)) (.tmp 20) rfl w2.heap.size (.slice none 0 0) 0 [] rfl ?_ A2 d.length c2 d rfl ?_ ?_ ?_ ?_); (exact World.ownsRow_nil _ _ _ _); (exact hB2.out); (omega); (exact Nat.le_refl _); intro v3 w3 hown3 hgrow3 hwhere3; obtain ⟨A3, k3, rfl⟩ := own_shape hown3; simp only [Nat.zero_add, List.nil_append] at hown3 hgrow3 hwhere3 ⊢; have hT3 := Lib.hid (show Below w2.heap.size w2 w3 from (Below.refl _ w2).grown hgrow3 (Nat.le_refl _) (by intro k hk; simp [Value.ownBlock] at hk)); have hO3 := Lib.hid hown3; have b1' := Lib.hid ((hT3.out.block _ (lt_row B1.out)).trans B1.out); have b0' := Lib.hid ((hT3.out.block _ (lt_row B0.out)).trans B0.out); obtain ⟨⟨c7', c8, c9, cD, cF⟩, f7', f8, f9, fD, fF⟩ := row5 b1'.out; obtain ⟨⟨cA, cB, cC, cE, cG⟩, fA, fB, fC, fE, fG⟩ := row5 b0'.out; clear hown3 hgrow3 hwhere3 c3 c4 c5 c6 c7 f3 f4 f5 f6 f7)
      (try simp only [Exit.inBlock, Exit.then])
      have hfr : Av (· < w2.heap.size) d.length A3 := own_fr hO3.out
      have hlt := lt_row B1.out
      have hlt0 := lt_row B0.out
      have g0 : (w3.setCell ⟨w1.heap.size, 4, none⟩ (.slice A3 d.length k3)).heap[w.heap.size]? = _ := (Below.heap_setCell w3 _ _ _ (by simp; omega)).trans b0'.out
      refine bodyPost_ret (v := .tuple #[.agg #[.int .i64 (q : Int), .int .u64 (x : Int), .int .u64 (y : Int), .int .u64 (z : Int), .slice A3 d.length k3], .int .i64 0]) (res_cell_tmp rfl _ _ w.heap.size 25 #[.int .i64 (q : Int), .int .u64 (x : Int), .int .u64 (y : Int), .int .u64 (z : Int), .slice A3 d.length k3] (0, 0) _ _ rfl rfl (stored5 g0 _ _ _ _ _) Tryd.underlying25 rfl (by kernel_rfl)) rfl ?_
      refine ⟨_, _, _, rfl, ?_, below5 ((nxt HT2.out hT3.out).setCell (p := ⟨w1.heap.size, 4, none⟩) (by show w.heap.size ≤ w1.heap.size; omega) _) (Nat.le_refl _) _ _ _ _ _⟩
      have k1 : Off (· < w2.heap.size) w3 (w3.setCell ⟨w1.heap.size, 4, none⟩ (.slice A3 d.length k3)) := (Off.refl _ _).setCell (.inl hlt) _
      have k2 := ((((k1.setCell (p := ⟨w.heap.size, 0, none⟩) (.inl (by show w.heap.size < w2.heap.size; omega)) (.int .i64 (q : Int))).setCell (p := ⟨w.heap.size, 1, none⟩) (.inl (by show w.heap.size < w2.heap.size; omega)) (.int .u64 (x : Int))).setCell (p := ⟨w.heap.size, 2, none⟩) (.inl (by show w.heap.size < w2.heap.size; omega)) (.int .u64 (y : Int))).setCell (p := ⟨w.heap.size, 3, none⟩) (.inl (by show w.heap.size < w2.heap.size; omega)) (.int .u64 (z : Int))).setCell (p := ⟨w.heap.size, 4, none⟩) (.inl (by show w.heap.size < w2.heap.size; omega)) (.slice A3 d.length k3)
      exact (Bys.of_own hO3.out).off hfr k2
theorem tktold_any (A : Option Addr) (n c : Nat) (b : List UInt8) (w : World) (hT : Tab15 w) (hB : Bys w A n c b) : Calls Tryd.prog 20 #[.slice A n c] w (GivesTd w (tkTold b)) := by
  match b, hB with
  | [], hB =>
    obtain rfl : n = 0 := by have := hB.len; simpa using this.symm
    exact tktold_nil A c w
  | x :: l, hB =>
    by_cases hb : x.toNat < 4
    · exact tktold_yes A n c x l w hT hB hb
    · have e : tkTold (x :: l) = (tkZero, false) := by simp only [tkTold]; rw [if_neg hb]
      rw [e]
      exact tktold_no A n c x l w hB (by omega)
theorem tkraw_told (b : List UInt8) : tkRaw b = if (tkTold b).2 = true then some (tkTold b).1 else none := by
  match b with
  | [] => rfl
  | k :: l =>
    rw [tkRaw_cons]
    simp only [tkTold]
    by_cases hk : k.toNat < 4
    · rw [if_pos hk]
      generalize k.toNat = q at *
      rcases (show q = 0 ∨ q = 1 ∨ q = 2 ∨ q = 3 by omega) with rfl | rfl | rfl | rfl
      · by_cases h8 : l.length < 8 <;> simp [tkRawK, tkRaw0, tkTake, tkHas, h8]
      · by_cases h8 : l.length < 8
        · simp [tkRawK, tkRaw1, tkTake, tkHas, h8, show l.length < 24 by omega]
        · by_cases h16 : l.length < 16
          · simp [tkRawK, tkRaw1, tkTake, tkHas, h8, show l.length < 24 by omega, show l.length - 8 < 8 by omega]
          · by_cases h24 : l.length < 24
            · simp [tkRawK, tkRaw1, tkTake, tkHas, h8, h24, show ¬ l.length - 8 < 8 by omega, show l.length - (8 + 8) < 8 by omega]
            · simp [tkRawK, tkRaw1, tkTake, tkHas, h8, h24, show ¬ l.length - 8 < 8 by omega, show ¬ l.length - (8 + 8) < 8 by omega]
      · by_cases h8 : l.length < 8
        · simp [tkRawK, tkRaw2, tkTake, tkHas, h8, show l.length < 16 by omega]
        · by_cases h16 : l.length < 16
          · simp [tkRawK, tkRaw2, tkTake, tkHas, h8, h16, show l.length - 8 < 8 by omega]
          · simp [tkRawK, tkRaw2, tkTake, tkHas, h8, h16, show ¬ l.length - 8 < 8 by omega]
      · by_cases h8 : l.length < 8
        · simp [tkRawK, tkRaw3, tkTake, tkHas, h8, show l.length < 16 by omega]
        · by_cases h16 : l.length < 16
          · simp [tkRawK, tkRaw3, tkTake, tkHas, h8, h16, show l.length - 8 < 8 by omega]
          · simp [tkRawK, tkRaw3, tkTake, tkHas, h8, h16, show ¬ l.length - 8 < 8 by omega]
    · rw [if_neg hk]
      have : tkRawK k.toNat l = none := by
        unfold tkRawK
        rw [if_neg (by omega), if_neg (by omega), if_neg (by omega), if_neg (by omega)]
      rw [this]
      rfl
theorem tkTake_len (h : Bool) (l : List UInt8) (ok : Bool) : (tkTake h l ok).2.1.length ≤ l.length := by
  unfold tkTake
  split
  · exact Nat.le_refl _
  · split
    · exact Nat.le_refl _
    · simp
theorem tkTold_len (b : List UInt8) : (tkTold b).1.2.2.2.2.length ≤ b.length := by
  match b with
  | [] => exact Nat.le_refl _
  | k :: l =>
    simp only [tkTold]
    split
    · have h0 := tkTake_len (tkHas k.toNat 0) l true
      generalize tkTake (tkHas k.toNat 0) l true = r0 at *
      have h1 := tkTake_len (tkHas k.toNat 1) r0.2.1 r0.2.2
      generalize tkTake (tkHas k.toNat 1) r0.2.1 r0.2.2 = r1 at *
      have h2 := tkTake_len (tkHas k.toNat 2) r1.2.1 r1.2.2
      show (tkTake (tkHas k.toNat 2) r1.2.1 r1.2.2).2.1.length ≤ (k :: l).length
      simp
      omega
    · simp [tkZero]
theorem tkget_any (A : Option Addr) (n c : Nat) (b : List UInt8) (w : World) (hT : Tab15 w) (hB : Bys w A n c b) (hn : n ≤ 140737488355328) :
    Calls Tryd.prog 11 #[.slice A n c] w (GivesTk w (tkV b) (tkGetE b)) := by
  have hl := hB.len
  have hr := tkraw_told b
  have ht := fun W (k : Below w.heap.size w W) => tktold_any A n c b W (tab15_keep _ _ hT k) (hB.below k)
  have hd := tkTold_len b
  generalize tkTold b = t at *
  obtain ⟨⟨q, x, y, z, d⟩, ok⟩ := t
  have h := tkget_of A n c q x y z d ok w hT ht _ rfl (by simp at hd; omega)
  cases ok with
  | false =>
    obtain ⟨e1, e2⟩ := tkGet_bad (show tkRaw b = none from hr)
    rw [e1, e2]
    exact h
  | true =>
    obtain ⟨e1, e2⟩ := tkGet_raw (show tkRaw b = some (q, x, y, z, d) from hr)
    rw [e1, e2]
    exact h
theorem tkC : TkC Tab15 where
  keep := tab15_keep
  put := fun k x y z A n c d w _ hx hy hz hB hT => tkput_any k x y z A n c d w hT hx hy hz hB
  get := fun A n c b w hB hn hT => tkget_any A n c b w hT hB hn
  same := tksame_any
end Go.Proofs.YtabackggnkplhaaDoor
