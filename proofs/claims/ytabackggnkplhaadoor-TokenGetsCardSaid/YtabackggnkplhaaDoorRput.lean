/- What kedgeref01.Put answers. -/
import Derived.Test.YtabackggnkplhaaDoorPut
namespace Go.Proofs.YtabackggnkplhaaDoor
open Go.RowKit
set_option maxRecDepth 20000

set_option maxHeartbeats 1000000 in
theorem rput_no (n x : Int) (w : World) (h : x < 1 ∨ 8 < x) :
    Calls Tryd.prog 19 #[.int .u64 n, .int .i64 x] w fun e w' => e = .returned (.slice none 0 0) ∧ w' = w := by
  rcases h with h | h
  · have hd : decide (x < 1) = true := by simpa using h
    go_enter Tryd.func19, Tryd.ntmps19
    go_wp2
    go_ret
    exact ⟨rfl, rfl⟩
  · have hd : decide (x < 1) = false := by simp; omega
    go_enter Tryd.func19, Tryd.ntmps19
    go_wp2
    go_ret
    exact ⟨rfl, rfl⟩

theorem rput_byte (n k : Nat) : Value.int IntKind.u8 (((n : Int) / 256 ^ k).tmod 256 % 256) = bv (UInt8.ofNat (n / 256 ^ k)) := by
  unfold bv
  congr 1
  have e : ((256 : Int) ^ k) = ((256 ^ k : Nat) : Int) := by simp
  rw [e]
  have := UInt8.toNat_ofNat' (n := n / 256 ^ k)
  have e2 : (n : Int) / ((256 ^ k : Nat) : Int) = ((n / 256 ^ k : Nat) : Int) := (Int.natCast_ediv _ _).symm
  rw [this, e2, Int.tmod_eq_emod_of_nonneg (Int.natCast_nonneg _)]
  omega
theorem rput_div (n k : Nat) (hn : n < 18446744073709551616) : IntKind.u64.wrap (((n : Int) / 256 ^ k).tdiv 256) = ((n / 256 ^ (k + 1) : Nat) : Int) := by
  have e : ((256 : Int) ^ k) = ((256 ^ k : Nat) : Int) := by simp
  have h : n / 256 ^ k ≤ n := Nat.div_le_self _ _
  have e2 : (n : Int) / ((256 ^ k : Nat) : Int) = ((n / 256 ^ k : Nat) : Int) := (Int.natCast_ediv _ _).symm
  rw [e, e2, Nat.pow_succ, ← Nat.div_div_eq_div_mul]
  generalize n / 256 ^ k = q at *
  rw [IntWalk.u64_quo _ _ (by omega)]
  omega
theorem bvs_cons (b : UInt8) (l : List UInt8) : bvs (b :: l) = bv b :: bvs l := rfl
theorem below_of_grown {B : Nat} {a w1 w' : World} {row : Option Nat} (h : Below B a w1) (hg : w1.grownBy w' row) (hB : B ≤ w1.heap.size) (hr : ∀ k, row = some k → B ≤ k) : Below B a w' := h.grown hg hB hr

set_option maxHeartbeats 1000000 in
theorem rput_yes (n wide : Nat) (w : World) (hn : n < 18446744073709551616) (h1 : 1 ≤ wide) (h8 : wide ≤ 8) :
    Calls Tryd.prog 19 #[.int .u64 n, .int .i64 wide] w (GivesB w (putB n wide)) := by
  have hd : decide ((wide : Int) < 1) = false := by simp; omega
  obtain ⟨i0, hi, hz0, hz1, hz2⟩ := info_parts Tryd.info5
  go_enter Tryd.func19, Tryd.ntmps19
  go_wp2
  go_loopw [0, 5, 6] (fun x v i wr => ∃ k : Nat, k ≤ wide ∧ i = .int .i64 k ∧ x = .int .u64 ((n / 256 ^ k : Nat) : Int) ∧ ∃ A c, v = .slice A k c ∧ Bys wr A k c (putB n k) ∧ Below w.heap.size w wr) (fun _ _ i _ => wide - (intOf i).toNat)
  case atStart => exact ⟨0, Nat.zero_le _, rfl, by simp, none, 0, rfl, Bys.nil _, Below.refl _ _⟩
  case round =>
    obtain ⟨k, hk, rfl, rfl, A, c, rfl, hB, hbel⟩ := hrel
    by_cases hlt : k < wide
    · have hlen := putB_length n k
      have hq := Lib.hid (rput_byte n k)
      clear hlen
      go_wp2_with ((with_reducible refine app_bys _ rfl (.tmp 21) (.tmp 22) rfl w.heap.size (.slice (some ⟨wr.heap.size, 0, none⟩) 1 1) 1 [.int .u8 (((n : Int) / 256 ^ k).tmod 256 % 256)] rfl ?c1 A k c (putB n k) rfl (hB.alloc _) ?c2 ?c3 ?_); rotate_right; intro v1 w1 hown1 hgrow1 hwhere1)
      case c1 => exact World.ownsRow_lit (base := w.heap.size) (e := 5) (size := 1) wr #[_] 1 hbel.size (by unfold maxLen; omega) (by simp)
      case c2 => omega
      case c3 => have := hbel.size; simp; omega
      go_roundw
      case rel =>
        rw [hq.out, List.singleton_append, ← bvs_cons, Nat.add_comm 1 k] at hown1
        obtain ⟨A1, c1, rfl⟩ := own_shape hown1
        refine ⟨k + 1, by omega, by go_num, by rw [rput_div n k hn], _, _, rfl, Bys.of_own hown1, ?_⟩
        exact (hbel.alloc hbel.size _).grown hgrow1 (by have := hbel.size; simp; omega) (by intro g hg; simp [Value.ownBlock] at hg; have := hbel.size; omega)
      case measure => simp [intOf]; omega
    · go_wp2
      go_ret
      obtain rfl : k = wide := by omega
      exact ⟨_, _, _, rfl, hB, hbel⟩

theorem rput_any (n : Nat) (x : Int) (w : World) (hn : n < 18446744073709551616) :
    Calls Tryd.prog 19 #[.int .u64 n, .int .i64 x] w (GivesB w (putOf n x)) := by
  by_cases h : x < 1 ∨ 8 < x
  · refine (rput_no n x w h).mono fun e w' ⟨he, hw⟩ => ?_
    subst hw
    rw [putOf_no n x h]
    exact ⟨_, _, _, he, Bys.nil _, Below.refl _ _⟩
  · obtain ⟨k, rfl⟩ := Int.eq_ofNat_of_zero_le (show 0 ≤ x by omega)
    rw [putOf, if_neg h]
    exact rput_yes n k w hn (by omega) (by omega)
end Go.Proofs.YtabackggnkplhaaDoor
