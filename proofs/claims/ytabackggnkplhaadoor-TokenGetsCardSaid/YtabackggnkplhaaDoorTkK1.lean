/- Contracts of the landed token (at ac8f435): kind, numbersOf, right. -/
import Derived.Test.YtabackggnkplhaaDoorTkT
import Derived.Test.YtabackggnkplhaaDoorResD
namespace Go.Proofs.YtabackggnkplhaaDoor
open Go.RowKit
set_option maxRecDepth 20000

def tkKind (k : Int) : Bool := decide (0 ≤ k ∧ k < 4)
theorem tkkind_any (k : Int) (w : World) : Calls Tryd.prog 24 #[.int .i64 k] w fun e w' => e = .returned (.bool (tkKind k)) ∧ w = w' := by
  by_cases h0 : k < 0
  · have d1 : decide (0 ≤ k) = false := by simp; omega
    rw [show tkKind k = false by unfold tkKind; simp; omega]
    clear h0
    go_enter Tryd.func24, Tryd.ntmps24
    go_wp2
    go_ret
    exact ⟨rfl, rfl⟩
  · have d1 : decide (0 ≤ k) = true := by simp; omega
    by_cases h4 : k < 4
    · have d2 : decide (k < 4) = true := by simp; omega
      rw [show tkKind k = true by unfold tkKind; simp; omega]
      clear h0 h4
      go_enter Tryd.func24, Tryd.ntmps24
      go_wp2
      go_ret
      exact ⟨rfl, rfl⟩
    · have d2 : decide (k < 4) = false := by simp; omega
      rw [show tkKind k = false by unfold tkKind; simp; omega]
      clear h0 h4
      go_enter Tryd.func24, Tryd.ntmps24
      go_wp2
      go_ret
      exact ⟨rfl, rfl⟩
theorem tknums_any (k : Int) (x y z : Nat) (A : Option Addr) (n c : Nat) (w : World) :
    Calls Tryd.prog 17 #[.agg #[.int .i64 k, .int .u64 (x : Int), .int .u64 (y : Int), .int .u64 (z : Int), .slice A n c]] w fun e w' => e = .returned (.agg #[.int .u64 (x : Int), .int .u64 (y : Int), .int .u64 (z : Int)]) ∧ Below w.heap.size w w' := by
  go_enter Tryd.func17, Tryd.ntmps17
  go_wp2
  (try simp only [Exit.inBlock, Exit.then])
  refine bodyPost_ret (v := .agg #[.int .u64 (x : Int), .int .u64 (y : Int), .int .u64 (z : Int)]) (results_cell_row rfl _ _ (w.heap.size + 1) 43 #[.int .u64 (x : Int), .int .u64 (y : Int), .int .u64 (z : Int)] (0, 0) _ rfl (two_rows (Below.refl _ _)).2 Tryd.underlying43 rfl (by kernel_rfl)) rfl ?_
  exact ⟨rfl, ((Below.refl _ w).alloc (Nat.le_refl _) _).alloc (by simp) _⟩
/-- a packet's numbers, by place; that a packet of kind k has those that are not 0 -/
def tkNum (x y z i : Nat) : Nat := ([x, y, z] : List Nat).getD i 0
theorem tk_look (x y z j : Nat) (hj : j < 3) (w : World) : (Instr.index 43 (.agg #[.int .u64 (x : Int), .int .u64 (y : Int), .int .u64 (z : Int)]) (.int .i64 (j : Int))).run Tryd.prog w = .ok (.int .u64 (tkNum x y z j : Int)) w := by
  rcases (show j = 0 ∨ j = 1 ∨ j = 2 by omega) with rfl | rfl | rfl
  · rfl
  · rfl
  · rfl
theorem tkHas0 : ∀ k : Fin 4, tkHas k.val 0 = true := by decide
/-- what Right asks of a packet of a kind that there is -/
theorem tkRight_has (k : Nat) (hk : k < 4) (x y z n : Nat) : tkRight (k : Int) y z n = true ↔ ((∀ j, j < 3 → tkNum x y z j = 0 ∨ tkHas k j = true) ∧ (n : Int) ≤ tkMost k) := by
  have h3 : (∀ j, j < 3 → tkNum x y z j = 0 ∨ tkHas k j = true) ↔ ((x = 0 ∨ tkHas k 0 = true) ∧ (y = 0 ∨ tkHas k 1 = true) ∧ (z = 0 ∨ tkHas k 2 = true)) := by
    constructor
    · intro h
      exact ⟨h 0 (by decide), h 1 (by decide), h 2 (by decide)⟩
    · rintro ⟨h0, h1, h2⟩ j hj
      rcases (show j = 0 ∨ j = 1 ∨ j = 2 by omega) with rfl | rfl | rfl
      · exact h0
      · exact h1
      · exact h2
  rw [h3]
  rcases (show k = 0 ∨ k = 1 ∨ k = 2 ∨ k = 3 by omega) with rfl | rfl | rfl | rfl <;> simp [tkRight, tkHas, tkMost] <;> omega
set_option maxHeartbeats 4000000 in
theorem tkright_any (k : Int) (x y z : Nat) (A : Option Addr) (n c : Nat) (w : World) (hT : Tab15 w) :
    Calls Tryd.prog 15 #[.agg #[.int .i64 k, .int .u64 (x : Int), .int .u64 (y : Int), .int .u64 (z : Int), .slice A n c]] w fun e w' => e = .returned (.bool (tkRight k y z n)) ∧ Below w.heap.size w w' := by
  have HK := Lib.hid (fun W => tkkind_any k W)
  by_cases hk : 0 ≤ k ∧ k < 4
  · rw [show tkKind k = true by unfold tkKind; simp; omega] at HK
    obtain ⟨q, rfl⟩ := Int.eq_ofNat_of_zero_le hk.1
    have hq : q < 4 := by omega
    have HN := Lib.hid (fun W => tknums_any (q : Int) x y z A n c W)
    have HR := Lib.hid (tkRight_has q hq x y z n)
    generalize tkRight (q : Int) y z n = r at *
    have hq4 : decide ((q : Int) < 4) = true := by simp; omega
    obtain ⟨hg, ht⟩ := hT
    have HT := Lib.hid (ht q hq)
    clear ht hk
    have look := Lib.hid (tk_look x y z)
    go_enter Tryd.func15, Tryd.ntmps15
    go_wp2_with (fail)
    refine (HK.out _).mono ?_
    rintro e w1 ⟨rfl, rfl⟩
    go_wp2_with (fail)
    refine (HN.out _).mono ?_
    rintro e w1 ⟨rfl, T1⟩
    have b0 := one_row T1
    obtain ⟨⟨c0, c1, c2, c3, c4⟩, _, _, _, _, _⟩ := row5 b0
    have T1 := nxt ((Below.refl _ w).alloc (Nat.le_refl _) _) T1
    have HTab := Lib.hid (show (∀ j, j < 3 → w1.cell? ⟨0, q * 4 + j, none⟩ = some (.bool (tkHas q j))) ∧ w1.cell? ⟨0, q * 4 + 3, none⟩ = some (.int .i64 (tkMost q)) from
      ⟨fun j hj => (T1.cell (p := ⟨0, q * 4 + j, none⟩) hg).trans (HT.out.1 j hj), (T1.cell (p := ⟨0, q * 4 + 3, none⟩) hg).trans HT.out.2⟩)
    go_wp2_with (fail)
    go_loopw [11] (fun i wr => ∃ j : Nat, j ≤ 3 ∧ i = .int .i64 (j : Int) ∧ (∀ i, i < j → tkNum x y z i = 0 ∨ tkHas q i = true) ∧ wr = w1) (fun i _ => 3 - (intOf i).toNat)
    case atStart => exact ⟨0, by decide, rfl, fun _ h => absurd h (by omega), rfl⟩
    case round =>
      obtain ⟨j, hj, rfl, hso, rfl⟩ := hrel
      have HS := Lib.hid hso
      clear hso
      by_cases hlt : j < 3
      · have d1 : decide ((j : Int) < 3) = true := by simp; omega
        have lk := look.out j hlt
        have ca := HTab.out.1 j hlt
        have HNx : Hid (tkNum x y z j = 0 ∨ tkHas q j = true → ∀ i, i < j + 1 → tkNum x y z i = 0 ∨ tkHas q i = true) := fun h i hi => by
          rcases Nat.lt_or_ge i j with h1 | h1
          · exact HS.out i h1
          · obtain rfl : i = j := by omega
            exact h
        have HNo : Hid (¬ (tkNum x y z j = 0 ∨ tkHas q j = true) → r = false) := fun h => by
          cases hr : r with
          | false => rfl
          | true => exact absurd ((HR.out.1 hr).1 j hlt) h
        generalize tkNum x y z j = v at *
        generalize tkHas q j = b at *
        by_cases hv : v = 0
        · subst hv
          go_wp2_with (fail)
          go_roundw
          case rel => exact ⟨j + 1, by omega, by go_num, HNx.out (.inl rfl), trivial⟩
          case measure => simp [intOf]; omega
        · have dv : ((v : Int) != 0) = true := by simp; omega
          cases b with
          | true =>
            go_wp2_with (fail)
            go_roundw
            case rel => exact ⟨j + 1, by omega, by go_num, HNx.out (.inr rfl), trivial⟩
            case measure => simp [intOf]; omega
          | false =>
            have e := HNo.out (by simp [hv])
            subst e
            go_wp2
            go_ret
            exact ⟨rfl, T1⟩
      · have d1 : decide ((j : Int) < 3) = false := by simp; omega
        have cm := HTab.out.2
        have HE : Hid (r = decide ((n : Int) ≤ tkMost q)) := by
          show _ = _
          rw [Bool.eq_iff_iff, HR.out, decide_eq_true_eq]
          exact ⟨fun h => h.2, fun h => ⟨fun i hi => HS.out i (by omega), h⟩⟩
        generalize tkMost q = m at *
        go_wp2_with (fail)
        go_region
        go_wp2
        go_ret
        exact ⟨by rw [HE.out]; rfl, below_drewN' T1 1⟩
  · rw [show tkKind k = false by unfold tkKind; simp; omega] at HK
    have hr : tkRight k y z n = false := by
      cases h : tkRight k y z n with
      | false => rfl
      | true => have := tkRight_kind h; omega
    rw [hr]
    clear hr hk hT
    go_enter Tryd.func15, Tryd.ntmps15
    go_wp2_with (fail)
    refine (HK.out _).mono ?_
    rintro e w1 ⟨rfl, rfl⟩
    go_wp2
    go_ret
    exact ⟨rfl, (Below.refl _ _).alloc (Nat.le_refl _) _⟩
end Go.Proofs.YtabackggnkplhaaDoor
