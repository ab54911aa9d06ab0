/- What the landed package weave answers: may, across, Place, order, bit, put, Do, Undo; the whole package by its contracts. -/
import Derived.Test.YtenbaljjncepeaaWePM
import Derived.Test.YtenbaljjncepeaaWeC
import Derived.Laws.BitsLemmas
import Derived.Laws.BitsAllLaws
namespace Go.Proofs.Ytenbaljjncepeaa
open Go.RowKit
set_option maxRecDepth 20000

set_option maxHeartbeats 1000000 in
theorem may11_any (n rows : Int) (w : World) :
    Calls Try.prog 15 #[.int .i64 n, .int .i64 rows] w fun e w' => e = .returned (.bool (decide (0 ≤ n ∧ n ≤ 65536 ∧ 1 ≤ rows ∧ rows ≤ 64))) ∧ w = w' := by
  obtain ⟨t1, d1⟩ : ∃ t, decide (0 ≤ n) = t := ⟨_, rfl⟩
  obtain ⟨t2, d2⟩ : ∃ t, decide (n ≤ 65536) = t := ⟨_, rfl⟩
  obtain ⟨t3, d3⟩ : ∃ t, decide (1 ≤ rows) = t := ⟨_, rfl⟩
  obtain ⟨t4, d4⟩ : ∃ t, decide (rows ≤ 64) = t := ⟨_, rfl⟩
  have HR : Hid (decide (0 ≤ n ∧ n ≤ 65536 ∧ 1 ≤ rows ∧ rows ≤ 64) = (t1 && (t2 && (t3 && t4)))) := by
    show _ = _
    rw [← d1, ← d2, ← d3, ← d4, Bool.decide_and, Bool.decide_and, Bool.decide_and]
  generalize decide (0 ≤ n ∧ n ≤ 65536 ∧ 1 ≤ rows ∧ rows ≤ 64) = R at *
  cases t1 <;> cases t2 <;> cases t3 <;> cases t4
  all_goals
    have HR := HR
    go_enter Try.func15, Try.ntmps15
    go_wp2
    go_ret
    exact ⟨by rw [HR.out]; rfl, rfl⟩
set_option maxHeartbeats 1000000 in
theorem across11_any (n rows : Nat) (w : World) (hn : n ≤ 65536) (hr : 1 ≤ rows) (hr2 : rows ≤ 64) :
    Calls Try.prog 16 #[.int .i64 (n : Int), .int .i64 (rows : Int)] w fun e w' => e = .returned (.int .i64 (colsN n rows : Int)) ∧ w = w' := by
  obtain ⟨C, hC⟩ : ∃ C, colsN n rows = C := ⟨_, rfl⟩
  have hC0 : (n + rows - 1) / rows = C := hC
  have hC3 : C ≤ 65536 := by have := colsN_le n rows hr; omega
  rw [hC]
  obtain ⟨s, hs⟩ : ∃ s, n + rows - 1 = s := ⟨_, rfl⟩
  rw [hs] at hC0
  have e1 : (n : Int) + (rows : Int) - 1 = (s : Int) := by omega
  have e2 : (s : Int) / (rows : Int) = (C : Int) := by rw [← hC0]; push_cast; rfl
  have e3 : Int.tdiv (s : Int) (rows : Int) = (C : Int) := by rw [← e2]; exact Int.tdiv_eq_ediv_of_nonneg (by omega)
  clear hC hC0 hs
  go_enter Try.func16, Try.ntmps16
  go_wp2
  go_ret
  exact ⟨rfl, rfl⟩
theorem low11 : ∀ k : Fin 256, bits .and .u8 (k.val : Int) 1 = ((k.val % 2 : Nat) : Int) := by decide +kernel
theorem bit_of (x s : Nat) (hx : x < 256) : bits .and .u8 ((x : Int) / 2 ^ s) 1 = ((x / 2 ^ s % 2 : Nat) : Int) := by
  have e : (x : Int) / 2 ^ s = ((x / 2 ^ s : Nat) : Int) := by push_cast; rfl
  rw [e]
  exact low11 ⟨x / 2 ^ s, Nat.lt_of_le_of_lt (Nat.div_le_self _ _) hx⟩
set_option maxHeartbeats 1000000 in
theorem bit11_any (A : Option Addr) (n c : Nat) (b : List UInt8) (q : Nat) (w : World) (hB : Bys w A n c b) (hn : n ≤ 8192) (hq : q < 8 * n) :
    Calls Try.prog 21 #[.slice A n c, .int .i64 (q : Int)] w fun e w' => e = .returned (.int .u8 (((bitsW b).getD q 0 : Nat) : Int)) ∧ w = w' := by
  obtain ⟨d, hd⟩ : ∃ d, q / 8 = d := ⟨_, rfl⟩
  obtain ⟨t, ht⟩ : ∃ t, q % 8 = t := ⟨_, rfl⟩
  have hqe : q = 8 * d + t := by omega
  have hdn : d < n := by omega
  have ht8 : t < 8 := by omega
  have hl := hB.len
  have hnc := hB.le
  have hcm := hB.cap
  have hat := bitsW_at b d t (by omega) ht8
  rw [← hqe] at hat
  obtain ⟨g, o, rfl, hg, hc⟩ := hB.at_ (by omega)
  have c1 := hc d (by omega)
  have hx := (b[d]'(by omega)).toNat_lt
  generalize (b[d]'(by omega)).toNat = x at *
  obtain ⟨s, hs⟩ : ∃ s, 7 - t = s := ⟨_, rfl⟩
  rw [hs] at hat
  have hb := bit_of x s hx
  rw [← hat] at hb
  have e1 : (q : Int) / 8 = (d : Int) := by omega
  have e2 : (q : Int) % 8 = (t : Int) := by omega
  have e3 : (7 : Int) - (t : Int) = (s : Int) := by omega
  have hs8 : s < 8 := by omega
  clear hc hB hat hd ht hqe hs
  generalize (bitsW b).getD q 0 = z at *
  go_enter Try.func21, Try.ntmps21
  go_wp2
  go_ret
  exact ⟨rfl, rfl⟩
theorem or11 (a b : Nat) (ha : a < 256) (hb : b < 256) : bits .or .u8 (a : Int) (b : Int) = ((a ||| b : Nat) : Int) := by
  have hx : a ||| b < 2 ^ 8 := Nat.or_lt_two_pow ha hb
  have e : ∀ a : Nat, a < 256 → (BitVec.ofInt 8 (a : Int)).toNat = a := fun a ha => by rw [BitVec.toNat_ofInt]; omega
  show IntKind.u8.wrap ((BitVec.ofInt 8 (a : Int) ||| BitVec.ofInt 8 (b : Int)).toNat : Nat) = _
  rw [BitVec.toNat_or, e a ha, e b hb]
  exact IntWalk.u8_in _ (by omega)
/-- n bytes of bits that the call itself laid -/
abbrev OwnT (w : World) (B g n : Nat) (l : List Nat) : Prop := w.ownsRow B 5 1 (.slice (some ⟨g, 0, none⟩) n n) n (bvs (textW l))
set_option maxHeartbeats 2000000 in
theorem put11_any (B g n : Nat) (l : List Nat) (q z : Nat) (w : World) (hown : OwnT w B g n l) (hBg : B ≤ g) (hl : l.length = 8 * n) (h1 : ∀ y ∈ l, y ≤ 1) (hn : n ≤ 8192) (hq : q < 8 * n) (hz : z < 2) (h0 : l.getD q 0 = 0) :
    Calls Try.prog 20 #[.slice (some ⟨g, 0, none⟩) n n, .int .i64 (q : Int), .int .u8 (z : Int)] w fun e w' => e = .returned (.tuple #[]) ∧ OwnT w' B g n (l.set q z) ∧ Below B w w' := by
  obtain ⟨d, hd⟩ : ∃ d, q / 8 = d := ⟨_, rfl⟩
  obtain ⟨t, ht⟩ : ∃ t, q % 8 = t := ⟨_, rfl⟩
  have hqe : q = 8 * d + t := by omega
  have hdn : d < n := by omega
  have ht8 : t < 8 := by omega
  have hdl : d < l.length / 8 := by omega
  obtain ⟨a1, a2, a3⟩ := eight_bits l h1 d hdl
  have hset := textW_set l d t z ht8 hdl
  rw [← hqe] at hset
  have hg0 : ((l.drop (8 * d)).take 8).getD t 0 = 0 := by
    rw [List.getD_eq_getElem?_getD, List.getElem?_take, if_pos ht8, List.getElem?_drop, ← hqe, ← List.getD_eq_getElem?_getD]
    exact h0
  have hns := num_set _ a1 a2 t z ht8 hz hg0
  have hat := textW_at l d hdl
  generalize (l.drop (8 * d)).take 8 = a at *
  obtain ⟨s, hs⟩ : ∃ s, 7 - t = s := ⟨_, rfl⟩
  rw [hs] at hns
  have ho := or11 (numBt a) (z * 2 ^ s % 256) a3 (Nat.mod_lt _ (by decide))
  rw [← hns] at ho
  have hp : ((z * 2 ^ s % 256 : Nat) : Int) = (z : Int) * 2 ^ s % 256 := by push_cast; rfl
  rw [hp] at ho
  have hy : numBt (a.set t z) < 256 := by
    rw [hns]
    exact Nat.or_lt_two_pow (n := 8) a3 (Nat.mod_lt _ (by decide))
  have c1 : w.cell? ⟨g, d, none⟩ = some (.int .u8 ((numBt a : Nat) : Int)) := by
    rw [hown.cellAt _ (by omega)]
    unfold bvs bv
    rw [List.getElem?_map, hat, Option.map_some, UInt8.toNat_ofNat', Nat.mod_eq_of_lt a3]
  have f1 := hown.frozenAt d
  have hnc := hown.lt g rfl
  have hncap : n ≤ 9223372036854775807 := by omega
  have HON := Lib.hid hown
  have HSET : Hid (bvs (textW (l.set q z)) = (bvs (textW l)).set d (.int .u8 ((numBt (a.set t z) : Nat) : Int))) := by
    show _ = _
    rw [hset]
    unfold bvs
    rw [List.map_set]
    congr 1
    show Value.int .u8 ((UInt8.ofNat _).toNat : Int) = _
    rw [UInt8.toNat_ofNat', Nat.mod_eq_of_lt hy]
  have e1 : (q : Int) / 8 = (d : Int) := by omega
  have e2 : (q : Int) % 8 = (t : Int) := by omega
  have e3 : (7 : Int) - (t : Int) = (s : Int) := by omega
  have hs8 : s < 8 := by omega
  clear hown hset hns hat hg0 a1 a2 h0 h1 hqe hd ht hs hp hl hdl
  generalize numBt (a.set t z) = y at *
  generalize numBt a = v at *
  go_enter Try.func20, Try.ntmps20
  go_wp2_with (fail)
  go_region
  go_wp2
  go_end0
  refine ⟨rfl, ?_, (below_drewN' (Below.refl _ _) 1).setCell hBg _⟩
  show World.ownsRow _ _ _ _ _ _ _
  rw [HSET.out]
  exact (HON.out.stored d (.int .u8 ((y : Nat) : Int))).1
theorem nat_i64 (p : Nat) (h : p ≤ 4611686018427387904) : IntKind.i64.wrap (p : Int) = (p : Int) ∧ wrap64 (p : Int) = (p : Int) := ⟨IntWalk.i64_in _ (by omega), IntWalk.wrap64_in _ (by omega)⟩
end Go.Proofs.Ytenbaljjncepeaa
