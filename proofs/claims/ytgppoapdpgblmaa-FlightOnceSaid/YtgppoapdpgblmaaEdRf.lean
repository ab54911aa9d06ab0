/- (with the memory of the result told) What kedgeref06.One and kedgeref06.Do answer. -/
import Derived.Test.YtgppoapdpgblmaaEdV
import Derived.Test.YtgppoapdpgblmaaRcopy
import Derived.Deep.RegionHeld3
namespace Go.Proofs.Ytgppoapdpgblmaa
open Go.RowKit
set_option maxRecDepth 20000
/-- what is told is what was handed in, or lies in memory of its own -/
def GivesEd (w : World) (A0 : Option Addr) (n0 : Nat) (l : List UInt8) (e : Ending) (w' : World) : Prop := ∃ A n c, e = .returned (.slice A n c) ∧ Bys w' A n c l ∧ ((A = A0 ∧ n = n0) ∨ Av (· < w.heap.size) n A) ∧ Below w.heap.size w w'

theorem fown_empty (W : World) (B E : Nat) (h : W.heap[E]? = some (.cells #[] 5 (0, 0))) (hB : B ≤ E) : W.ownsRow B 5 1 (.slice (some ⟨E, 0, none⟩) 0 0) 0 [] :=
  ⟨rfl, .inr ⟨E, 0, #[], rfl, hB, h, Nat.le_refl _, Nat.zero_le _, rfl, rfl⟩⟩
theorem fbys_one (W : World) (L : Nat) (x : UInt8) (h : W.heap[L]? = some (.cells #[.int .u8 (x.toNat : Int)] 5 (0, 0))) : Bys W (some ⟨L, 0, none⟩) 1 1 [x] := by
  refine ⟨rfl, Nat.le_refl _, by unfold maxLen; omega, fun _ => ⟨L, 0, rfl, lt_of_block h, fun j hj => ?_⟩⟩
  obtain rfl : j = 0 := by simpa using hj
  exact cell_of_row _ _ _ _ _ _ h

theorem fh_new (W : World) (o : Obj) (g : Nat) (hg : W.heap.size = g) : (W.alloc o).heap[g]? = some o := by subst hg; exact heap_alloc_new W o
theorem fh_old (W : World) (o o' : Obj) (g : Nat) (h : W.heap[g]? = some o') : (W.alloc o).heap[g]? = some o' := (((Below.refl _ _).alloc (Nat.le_refl _) o).block g (lt_of_block h)).trans h

set_option maxHeartbeats 1000000 in
theorem fone_no (A : Option Addr) (n c : Nat) (b : List UInt8) (k a : Int) (x : UInt8) (w : World) (hB : Bys w A n c b) (hf : edFits k a n = false) :
    Calls Try.prog 38 #[.slice A n c, .agg #[.int .i64 k, .int .i64 a, .int .u8 (x.toNat : Int)]] w (GivesEd w A n b) := by
  have hf := of_decide_eq_false hf
  have HB := Lib.hid hB
  clear hB
  by_cases a0 : a < 0
  · have d0 : decide (a < 0) = true := by simpa using a0
    clear hf
    go_enter Try.func38, Try.ntmps38
    go_wp2
    go_ret
    exact ⟨_, _, _, rfl, HB.out.alloc _, .inl ⟨rfl, rfl⟩, (Below.refl _ _).alloc (Nat.le_refl _) _⟩
  · have d0 : decide (a < 0) = false := by simpa using a0
    by_cases a1 : (n : Int) < a
    · have d1 : decide ((n : Int) < a) = true := by simpa using a1
      clear hf
      go_enter Try.func38, Try.ntmps38
      go_wp2
      go_ret
      exact ⟨_, _, _, rfl, HB.out.alloc _, .inl ⟨rfl, rfl⟩, (Below.refl _ _).alloc (Nat.le_refl _) _⟩
    · have d1 : decide ((n : Int) < a) = false := by simpa using a1
      by_cases k0 : k = 0
      · subst k0
        obtain rfl : a = n := by omega
        clear hf
        go_enter Try.func38, Try.ntmps38
        go_wp2
        go_ret
        exact ⟨_, _, _, rfl, HB.out.alloc _, .inl ⟨rfl, rfl⟩, (Below.refl _ _).alloc (Nat.le_refl _) _⟩
      · have e0 : (k == 0) = false := by simpa using k0
        by_cases k1 : k = 1
        · subst k1
          have d2 : decide ((n : Int) < 512) = false := by simp; omega
          clear hf
          go_enter Try.func38, Try.ntmps38
          go_wp2
          go_ret
          exact ⟨_, _, _, rfl, HB.out.alloc _, .inl ⟨rfl, rfl⟩, (Below.refl _ _).alloc (Nat.le_refl _) _⟩
        · have e1 : (k == 1) = false := by simpa using k1
          by_cases k2 : k = 2
          · subst k2
            obtain rfl : a = n := by omega
            clear hf
            go_enter Try.func38, Try.ntmps38
            go_wp2
            go_ret
            exact ⟨_, _, _, rfl, HB.out.alloc _, .inl ⟨rfl, rfl⟩, (Below.refl _ _).alloc (Nat.le_refl _) _⟩
          · have e2 : (k == 2) = false := by simpa using k2
            have e3 : (k == 3) = false := by simp; omega
            clear hf
            go_enter Try.func38, Try.ntmps38
            go_wp2
            go_ret
            exact ⟨_, _, _, rfl, HB.out.alloc _, .inl ⟨rfl, rfl⟩, (Below.refl _ _).alloc (Nat.le_refl _) _⟩

set_option maxHeartbeats 1000000 in
theorem fone_put (A : Option Addr) (n c m : Nat) (b : List UInt8) (x : UInt8) (w : World) (hB : Bys w A n c b) (hm : m < n) (hn : n ≤ 1000000) :
    Calls Try.prog 38 #[.slice A n c, .agg #[.int .i64 0, .int .i64 m, .int .u8 (x.toNat : Int)]] w (GivesEd w A n (b.set m x)) := by
  have d0 : decide ((m : Int) < 0) = false := by simp
  have d1 : decide ((n : Int) < (m : Int)) = false := by simp; omega
  have HC : Hid (∀ W, Below w.heap.size w W → Calls Try.prog 19 #[.slice A n c] W (GivesW W b)) := fun W h => rcopy_any A n c b W (hB.below h) (by omega)
  have hbl := Lib.hid hB.len
  clear hB
  go_enter Try.func38, Try.ntmps38
  go_wp2_with (fail)
  refine (HC.out _ ((Below.refl _ _).alloc (Nat.le_refl _) _)).mono ?_
  rintro e w2 ⟨v, rfl, hown, T2⟩
  have hbl := hbl.out
  have hbl' := Lib.hid hbl
  obtain ⟨g, cap, rfl, hBg, hg⟩ := hown.form (by omega)
  have c1 := hown.cellAt m (by omega)
  rw [bvs_get b m (by omega)] at c1
  have f1 := hown.frozenAt m
  have b1 : w2.cell? ⟨w.heap.size, 1, none⟩ = some (.int .i64 m) := (T2.cell (p := ⟨w.heap.size, 1, none⟩) (by simp)).trans (cell_of_row _ _ _ _ _ _ (heap_alloc_new w _))
  have b2 : w2.cell? ⟨w.heap.size, 2, none⟩ = some (.int .u8 (x.toNat : Int)) := (T2.cell (p := ⟨w.heap.size, 2, none⟩) (by simp)).trans (cell_of_row _ _ _ _ _ _ (heap_alloc_new w _))
  have HO := Lib.hid hown
  clear hown
  simp at hBg
  go_wp2
  go_ret
  refine ⟨_, _, _, rfl, ?_, .inr (fun _ p e hy => by injection e with e; subst e; have hy : g < w.heap.size := hy; omega), (((Below.refl w.heap.size w).alloc (Nat.le_refl _) _).trans (T2.mono (by simp))).setCell (by show w.heap.size ≤ g; omega) _⟩
  have h := (HO.out.stored m (bv x)).1
  rw [← bvs_set] at h
  rw [show b.length = n from hbl'.out] at h
  exact Bys.of_own h

set_option maxHeartbeats 1000000 in
theorem fone_cut (A : Option Addr) (n c m : Nat) (b : List UInt8) (x : UInt8) (w : World) (hB : Bys w A n c b) (hm : m ≤ n) (hn : n ≤ 1000000) :
    Calls Try.prog 38 #[.slice A n c, .agg #[.int .i64 3, .int .i64 m, .int .u8 (x.toNat : Int)]] w (GivesEd w A n (b.take m)) := by
  have d0 : decide ((m : Int) < 0) = false := by simp
  have d1 : decide ((n : Int) < (m : Int)) = false := by simp; omega
  obtain ⟨s1, hb1⟩ := cut_hi hB m hm
  have HC : Hid (∀ W, Below w.heap.size w W → Calls Try.prog 19 #[.slice A m c] W (GivesW W (b.take m))) := fun W h => rcopy_any A m c _ W (hb1.below h) (by omega)
  have hlen : Hid ((b.take m).length = m) := by show _ = _; rw [List.length_take, hB.len]; omega
  clear hB hb1
  go_enter Try.func38, Try.ntmps38
  go_wp2_with (fail)
  refine (HC.out _ ((Below.refl _ _).alloc (Nat.le_refl _) _)).mono ?_
  rintro e w2 ⟨v, rfl, hown, T2⟩
  rw [hlen.out] at hown
  obtain ⟨A2, c2, rfl⟩ := own_shape hown
  have HO := Lib.hid hown
  clear hown
  go_wp2
  go_ret
  exact ⟨_, _, _, rfl, Bys.of_own HO.out, .inr ((own_fr HO.out).imp (fun k hk => by simp at hk ⊢; omega)), ((Below.refl w.heap.size w).alloc (Nat.le_refl _) _).trans (T2.mono (by simp))⟩

end Go.Proofs.Ytgppoapdpgblmaa
