/- What slide.told answers (landed code at 7086a58). -/
import Derived.Test.YtodgnfjaidiibaaSlK2
import Derived.Test.YtodgnfjaidiibaaNum
import Derived.Test.YtodgnfjaidiibaaCutB
namespace Go.Proofs.Ytodgnfjaidiibaa
open Go.RowKit
set_option maxRecDepth 20000

/-- what bytes tell, whether right or not, and whether they tell anything -/
def slTold (b : List UInt8) : (Bool × Nat × Nat × List UInt8) × Bool :=
  match b with
  | x :: y :: z :: r => if x = 1 then ((true, numOf [y, z], numB r, []), decide (r.length = 8)) else if x = 0 then ((false, numOf [y, z], 0, r), true) else (slZero, false)
  | _ => (slZero, false)
theorem int_eq_nat8 (k : Nat) : ((k : Int) == 8) = decide (k = 8) := by
  by_cases h : k = 8
  · subst h; rfl
  · rw [decide_eq_false h]; simp; omega
def GivesTo (w : World) (v : (Bool × Nat × Nat × List UInt8) × Bool) (e : Ending) (w' : World) : Prop :=
  ∃ A n c, e = .returned (.tuple #[.agg #[.bool v.1.1, .int .i64 (v.1.2.1 : Int), .int .u64 (v.1.2.2.1 : Int), .slice A n c], .bool v.2]) ∧ Bys w' A n c v.1.2.2.2 ∧ Below w.heap.size w w'
theorem slto_zero {w W : World} (T : Below w.heap.size w W) : GivesTo w (slZero, false) (.returned (.tuple #[.agg #[.bool false, .int .i64 0, .int .u64 0, .slice none 0 0], .bool false])) W :=
  ⟨none, 0, 0, rfl, Bys.nil _, T⟩
set_option maxHeartbeats 4000000 in
theorem sltold_short (A : Option Addr) (n c : Nat) (w : World) (hn : n < 3) :
    Calls Try.prog 21 #[.slice A n c] w (GivesTo w (slZero, false)) := by
  have d3 : decide ((n : Int) < 3) = true := by simp; omega
  go_enter Try.func21, Try.ntmps21
  go_wp2
  (try simp only [Exit.inBlock, Exit.then])
  refine bodyPost_ret (v := .tuple #[.agg #[.bool false, .int .i64 0, .int .u64 0, .slice none 0 0], .bool false]) (res_cell_tmp rfl _ _ w.heap.size 25 #[.bool false, .int .i64 0, .int .u64 0, .slice none 0 0] (0, 0) _ _ rfl rfl (heap_alloc_new w _) Try.underlying25 rfl (by kernel_rfl)) rfl ?_
  exact ⟨_, _, _, rfl, Bys.nil _, (Below.refl _ _).alloc (Nat.le_refl _) _⟩
set_option maxHeartbeats 8000000 in
theorem sltold_three (A : Option Addr) (n c : Nat) (x y z : UInt8) (r : List UInt8) (w : World) (hB : Bys w A n c (x :: y :: z :: r)) :
    Calls Try.prog 21 #[.slice A n c] w (GivesTo w (slTold (x :: y :: z :: r))) := by
  have hl := hB.len
  simp at hl
  obtain ⟨g, o, rfl, hg, hc⟩ := hB.at_ (by omega)
  have q1 := hc 0 (by simp)
  simp only [List.getElem_cons_zero, Nat.add_zero] at q1
  have hle := hB.le
  have hcap := hB.cap
  have hn3 : 3 ≤ n := by omega
  have hP := hB.part 1 3 (by omega) (by omega) (by omega)
  simp at hP
  obtain ⟨A2, s1, hD⟩ := cut_lo hB 3 (by omega)
  simp only [List.drop_succ_cons, List.drop_zero] at hD
  have HN := Lib.hid (fun W (k : Below w.heap.size w W) => numB_of [y, z] (by simp) ▸ number_any _ _ _ _ W (hP.below k))
  have HN2 := Lib.hid (fun W (k : Below w.heap.size w W) => number_any _ _ _ _ W (hD.below k))
  have HD := Lib.hid hD
  have hq : numOf [y, z] < 65536 := by have := numOf_bound [y, z]; simpa using this
  have hT : slTold (x :: y :: z :: r) = if x = 1 then ((true, numOf [y, z], numB r, []), decide (r.length = 8)) else if x = 0 then ((false, numOf [y, z], 0, r), true) else (slZero, false) := rfl
  rw [hT]
  generalize numOf [y, z] = s at *
  generalize numB r = u at *
  have hrl : n - 3 = r.length := by omega
  rw [hrl] at hD HN2 HD
  have s2 : ∀ W, (Instr.sliceAt 23 (.slice (some ⟨g, o, none⟩) n c) (some (.int .i64 3)) none none).run Try.prog W = .ok (.slice A2 r.length (c - 3)) W := by rw [← hrl]; exact s1
  have d3 : decide ((n : Int) < 3) = false := by simp; omega
  have hws : IntKind.i64.wrap (s : Int) = (s : Int) := IntWalk.i64_in _ (by omega)
  have hci : (3 : Int) ≤ (c : Int) := by omega
  have hcn : 3 ≤ c := by omega
  have hc1 : (c = 1) = False := by simp; omega
  have hn0 : 0 < n := by omega
  have T0 : Below w.heap.size w (w.alloc (.cells #[.bool false, .int .i64 0, .int .u64 0, .slice none 0 0] 25)) := (Below.refl _ w).alloc (Nat.le_refl _) _
  have HT0 := Lib.hid T0
  generalize c - 3 = c2 at *
  have HL := Lib.hid hl
  clear hc hB hP hD hl hrl s1 T0 hT
  have q2 : ∀ W, Below w.heap.size w W → W.cell? ⟨g, o, none⟩ = some (.int .u8 (x.toNat : Int)) := fun W k => (k.cell hg).trans q1
  have Q2 := Lib.hid q2
  clear q2 q1
  have KB : Hid (Below w.heap.size w ((w.alloc (.cells #[.bool false, .int .i64 0, .int .u64 0, .slice none 0 0] 25)).alloc (.cells #[.bool false, .int .i64 (s : Int), .int .u64 0, .slice none 0 0] 25))) := HT0.out.alloc (by simp) _
  by_cases h1 : x = 1
  · subst h1
    rw [if_pos rfl]
    have q1 : ((w.alloc (.cells #[.bool false, .int .i64 0, .int .u64 0, .slice none 0 0] 25)).alloc (.cells #[.bool false, .int .i64 (s : Int), .int .u64 0, .slice none 0 0] 25)).cell? ⟨g, o, none⟩ = some (.int .u8 1) := Q2.out _ KB.out
    go_enter Try.func21, Try.ntmps21
    go_wp2_with (fail)
    refine (HN.out _ HT0.out).mono ?_
    rintro e w1 ⟨rfl, rfl⟩
    go_wp2_with (fail)
    refine (HN2.out _ KB.out).mono ?_
    rintro e w1 ⟨rfl, rfl⟩
    go_wp2
    (try simp only [Exit.inBlock, Exit.then])
    refine bodyPost_ret (v := .tuple #[.agg #[.bool true, .int .i64 (s : Int), .int .u64 (u : Int), .slice none 0 0], .bool ((r.length : Int) == 8)]) (res_cell_tmp rfl _ _ w.heap.size 25 #[.bool true, .int .i64 (s : Int), .int .u64 (u : Int), .slice none 0 0] (0, 0) _ _ rfl rfl (hp_old (heap_alloc_new w _) _) Try.underlying25 rfl (by kernel_rfl)) rfl ?_
    exact ⟨_, _, _, by simp only [int_eq_nat8], Bys.nil _, (((Below.refl _ w).alloc (Nat.le_refl _) _).alloc (by simp) _)⟩
  rw [if_neg h1]
  by_cases h0 : x = 0
  · subst h0
    rw [if_pos rfl]
    have B := Lib.hid (HD.out.below (HT0.out.alloc (by simp) (.cells #[.bool false, .int .i64 (s : Int), .int .u64 0, .slice none 0 0] 25)))
    have q1 : ((w.alloc (.cells #[.bool false, .int .i64 0, .int .u64 0, .slice none 0 0] 25)).alloc (.cells #[.bool false, .int .i64 (s : Int), .int .u64 0, .slice none 0 0] 25)).cell? ⟨g, o, none⟩ = some (.int .u8 0) := Q2.out _ KB.out
    go_enter Try.func21, Try.ntmps21
    go_wp2_with (fail)
    refine (HN.out _ HT0.out).mono ?_
    rintro e w1 ⟨rfl, rfl⟩
    go_wp2
    (try simp only [Exit.inBlock, Exit.then])
    refine bodyPost_ret (v := .tuple #[.agg #[.bool false, .int .i64 (s : Int), .int .u64 0, .slice A2 r.length c2], .bool true]) (res_cell_tmp rfl _ _ w.heap.size 25 #[.bool false, .int .i64 (s : Int), .int .u64 0, .slice A2 r.length c2] (0, 0) _ _ rfl rfl (hp_old (heap_alloc_new w _) _) Try.underlying25 rfl (by kernel_rfl)) rfl ?_
    exact ⟨_, _, _, rfl, HD.out.below (((Below.refl _ w).alloc (Nat.le_refl _) _).alloc (by simp) _), (((Below.refl _ w).alloc (Nat.le_refl _) _).alloc (by simp) _)⟩
  · rw [if_neg h0]
    have e1 : ((x.toNat : Int) == 1) = false := by
      have : x.toNat ≠ 1 := fun h => h1 (UInt8.toNat_inj.1 h)
      simp; omega
    have e0 : ((x.toNat : Int) == 0) = false := by
      have : x.toNat ≠ 0 := fun h => h0 (UInt8.toNat_inj.1 h)
      simp; omega
    clear h1 h0
    have q1 : ((w.alloc (.cells #[.bool false, .int .i64 0, .int .u64 0, .slice none 0 0] 25)).alloc (.cells #[.bool false, .int .i64 (s : Int), .int .u64 0, .slice none 0 0] 25)).cell? ⟨g, o, none⟩ = some (.int .u8 (x.toNat : Int)) := Q2.out _ KB.out
    go_enter Try.func21, Try.ntmps21
    go_wp2_with (fail)
    refine (HN.out _ HT0.out).mono ?_
    rintro e w1 ⟨rfl, rfl⟩
    go_wp2
    (try simp only [Exit.inBlock, Exit.then])
    refine bodyPost_ret (v := .tuple #[.agg #[.bool false, .int .i64 0, .int .u64 0, .slice none 0 0], .bool false]) (res_cell_tmp rfl _ _ w.heap.size 25 #[.bool false, .int .i64 0, .int .u64 0, .slice none 0 0] (0, 0) _ _ rfl rfl (hp_old (heap_alloc_new w _) _) Try.underlying25 rfl (by kernel_rfl)) rfl ?_
    exact slto_zero (((Below.refl _ w).alloc (Nat.le_refl _) _).alloc (by simp) _)
end Go.Proofs.Ytodgnfjaidiibaa
