/- What edit.done makes of the call's own row of bytes. -/
import Derived.Test.YtgppoapdpgblmaaEdV
import Derived.Deep.RegionLaw
namespace Go.Proofs.Ytgppoapdpgblmaa
open Go.RowKit
set_option maxRecDepth 20000

/-- A call's end that hands back the row of bytes that it worked in. -/
def GivesR (w : World) (B : Nat) (l : List UInt8) (e : Ending) (w' : World) : Prop :=
  ∃ v, e = .returned v ∧ w'.ownsRow B 5 1 v l.length (bvs l) ∧ Below B w w'

set_option maxHeartbeats 1000000 in
theorem done_put (v : Value) (n m : Nat) (l : List UInt8) (x : UInt8) (B : Nat) (w : World) (hown : w.ownsRow B 5 1 v n (bvs l)) (hl : l.length = n) (hm : m < n) (hB : B ≤ w.heap.size) :
    Calls Try.prog 37 #[v, .agg #[.int .i64 0, .int .i64 m, .int .u8 (x.toNat : Int)]] w (GivesR w B (l.set m x)) := by
  obtain ⟨g, cap, rfl, hBg, hg⟩ := hown.form (by omega)
  have c1 := hown.cellAt m (by omega)
  rw [bvs_get l m (by omega)] at c1
  have f1 := hown.frozenAt m
  have HO : Hid (∀ W, Below w.heap.size w W → W.ownsRow B 5 1 (.slice (some ⟨g, 0, none⟩) n cap) n (bvs l)) := fun W k => own_below hown k
  clear hown
  go_enter Try.func37, Try.ntmps37
  go_wp2
  go_ret
  refine ⟨_, rfl, ?_, ((Below.refl B w).setCell hBg _).alloc (by simp; exact hB) _⟩
  rw [List.length_set, hl, bvs_set]
  exact own_below ((HO.out w (Below.refl _ _)).stored m (bv x)).1 ((Below.refl _ _).alloc (Nat.le_refl _) _)

set_option maxHeartbeats 1000000 in
theorem done_cut (v : Value) (n m : Nat) (l : List UInt8) (x : UInt8) (B : Nat) (w : World) (hown : w.ownsRow B 5 1 v n (bvs l)) (hl : l.length = n) (hm : m ≤ n) (hB : B ≤ w.heap.size) :
    Calls Try.prog 37 #[v, .agg #[.int .i64 3, .int .i64 m, .int .u8 (x.toNat : Int)]] w (GivesR w B (l.take m)) := by
  obtain ⟨A, c, rfl⟩ := own_shape hown
  have hb := Bys.of_own hown
  obtain ⟨s1, -⟩ := cut_hi hb m hm
  have hO : Hid (∀ W, Below w.heap.size w W → W.ownsRow B 5 1 (.slice A m c) m (bvs (l.take m))) := fun W k => by
    have h := own_below hown k
    rcases h.2 with ⟨hv, hn⟩ | ⟨g, cap, cur, hv, hbg, hg, hnc, hcm, hcs, ht⟩
    · obtain rfl : m = 0 := by omega
      injection hv with h1 h2 h3
      subst h1; subst h3
      exact ⟨by simp [bvs], .inl ⟨rfl, rfl⟩⟩
    · injection hv with h1 h2 h3
      subst h1; subst h3
      refine ⟨by simp [bvs]; omega, .inr ⟨g, _, cur, rfl, hbg, hg, by omega, hcm, hcs, ?_⟩⟩
      rw [bvs_take, ← ht, List.take_take]
      congr 1
      omega
  clear hown hb
  go_enter Try.func37, Try.ntmps37
  go_wp2
  go_ret
  refine ⟨_, rfl, ?_, (Below.refl B w).alloc hB _⟩
  rw [show (l.take m).length = m by simp; omega]
  exact hO.out _ ((Below.refl _ _).alloc (Nat.le_refl _) _)

theorem cell_box (w : World) (o : Obj) (vs : Array Value) (t : TypeId) (j : Nat) : ((w.alloc (.cells vs t)).alloc o).cell? ⟨w.heap.size, j, none⟩ = vs[j]? := by
  have h : ((w.alloc (.cells vs t)).alloc o).heap[w.heap.size]? = some (.cells vs t) := by
    have := ((Below.refl (w.heap.size + 1) (w.alloc (.cells vs t))).alloc (by simp) o).block w.heap.size (by omega)
    rw [this]
    exact heap_alloc_new w _
  exact cell_of_row _ _ _ _ _ _ h

set_option maxHeartbeats 2000000 in
theorem done_ins (v : Value) (n m : Nat) (l : List UInt8) (x : UInt8) (B : Nat) (w : World) (hown : w.ownsRow B 5 1 v n (bvs l)) (hl : l.length = n) (hm : m ≤ n) (hn : n < 512) (hB : B ≤ w.heap.size) :
    Calls Try.prog 37 #[v, .agg #[.int .i64 1, .int .i64 m, .int .u8 (x.toNat : Int)]] w (GivesR w B (l.take m ++ x :: l.drop m)) := by
  have hvb : ∀ k, v.ownBlock = some k → B ≤ k ∧ k < w.heap.size := fun k hk => hown.lt k hk
  have HV := Lib.hid hvb
  have HO : Hid (∀ W, Below w.heap.size w W → W.ownsRow B 5 1 v n (bvs l)) := fun W k => own_below hown k
  have HLit : Hid (∀ (W : World) (g : Nat), W.heap.size = g → Bys (W.alloc (.cells #[.int .u8 0] 5)) (some ⟨g, 0, none⟩) 1 1 [0]) := fun W g h => by subst h; exact Bys.lit W [0] (by decide)
  have hl := Lib.hid hl
  have hB := Lib.hid hB
  clear hown hvb
  go_enter Try.func37, Try.ntmps37
  go_wp2_with ((refine app_bys _ rfl (.tmp 15) (.tmp 16) rfl B v n (bvs l) rfl ?_ (some ⟨w.heap.size + 1, 0, none⟩) 1 1 [0] rfl ?_ ?_ ?_ ?_); (exact HO.out _ (((Below.refl _ _).alloc (Nat.le_refl _) _).alloc (by simp) _)); (exact HLit.out _ _ (by simp)); (omega); (have := hB.out; simp; omega); intro v1 w1 hown1 hgrow1 hwhere1; obtain ⟨g, cap, rfl, hBg, hg⟩ := hown1.form (by omega); have HA := Lib.hid (And.intro hown1 (And.intro hgrow1 (And.intro hwhere1 hBg))); clear hown1 hgrow1 hwhere1 hBg)
  obtain ⟨hown1, hgrow1, hwhere1, hBg⟩ := HA.out
  have hl := hl.out
  obtain ⟨cur, -, hgl, hrow, hnc, hcm, hcl, hct⟩ := row_whole hown1
  have hne : g ≠ w.heap.size := by
    intro e
    rcases hwhere1 with h | h
    · have : g < w.heap.size := (HV.out _ h.symm).2
      omega
    · injection h with h
      simp at h
      omega
  have hbx : ∀ j, w1.cell? ⟨w.heap.size, j, none⟩ = (#[.int .i64 1, .int .i64 m, .int .u8 (x.toNat : Int)] : Array Value)[j]? := fun j =>
    (hgrow1.cell_far ⟨w.heap.size, j, none⟩ (by simp; omega) (fun e => by have : w.heap.size < w.heap.size := (HV.out _ e.symm).2; omega)).trans (cell_box w _ _ _ j)
  have b1 : w1.cell? ⟨w.heap.size, 1, none⟩ = some (.int .i64 m) := hbx 1
  have b2 : w1.cell? ⟨w.heap.size, 2, none⟩ = some (.int .u8 (x.toNat : Int)) := hbx 2
  have hbz : w.heap.size < w1.heap.size := by have := hgrow1.size; simp at this; omega
  obtain ⟨A1, s1, p1⟩ := cut_row g (n + 1) cap (m + 1) (by omega) hnc
  obtain ⟨A2, s2, p2⟩ := cut_row g (n + 1) cap m (by omega) hnc
  have s1 : ∀ W, (Instr.sliceAt 33 (.slice (some ⟨g, 0, none⟩) (n + 1) cap) (some (.int .i64 ((m : Int) + 1))) none none).run Try.prog W = .ok (.slice A1 (n - m) (cap - (m + 1))) W := fun W => by rw [show n - m = n + 1 - (m + 1) by omega]; exact s1 W
  have hw : IntKind.i64.wrap ((m : Int) + 1) = (m : Int) + 1 := IntWalk.i64_in _ (by omega)
  have hcs : ∀ j u, (bvs (l.drop m))[j]? = some u → w1.cell? ((⟨g, m, none⟩ : Addr).add j) = some u := by
    intro j u hu
    have hj : j < (bvs (l.drop m)).length := (List.getElem?_eq_some_iff.1 hu).1
    simp [bvs] at hj
    have e : (⟨g, m, none⟩ : Addr).add j = ⟨g, m + j, none⟩ := by unfold Addr.add; split <;> simp_all
    rw [e, hown1.cellAt (m + j) (by omega), List.getElem?_append_left (by simp [bvs]; omega), ← hu, bvs_drop, List.getElem?_drop]
  have P1 := Lib.hid p1
  have P2 := Lib.hid p2
  have HCS := Lib.hid hcs
  have HR := Lib.hid hrow
  have HT := Lib.hid hct
  have HL := Lib.hid hl
  have HBg := Lib.hid hBg
  have HG := Lib.hid hgrow1
  have HCL := Lib.hid hcl
  clear hown1 hgrow1 hwhere1 hrow hct p1 p2 hcs hbx hl HA hBg hcl
  go_region_law ((refine step_copy_off rfl (.tmp 22) (.tmp 26) 33 33 rfl 5 Try.underlying33 ?_ A1 A2 (n - m) (cap - (m + 1)) (n + 1 - m) (cap - m) rfl rfl g (m + 1) cur 5 ?_ (bvs (l.drop m)) ?_ ?_ ?_ ?_ ?_); (kernel_rfl); (exact HR.out); (have := HL.out; show _ = min _ _; rw [bvs_length, List.length_drop]; omega); (intro h; have := HL.out; simp [bvs] at h; exact ⟨P1.out (by omega), _, P2.out (by omega), HCS.out⟩); (have := HL.out; have := HCL.out; rw [bvs_length, List.length_drop]; omega); (exact bvs_one _); intro w2 hrow2 hoff2)
  all_goals
    have e1 := (hoff2.cell (p := ⟨w.heap.size, 1, none⟩) hbz (by show ¬ (w.heap.size = g); omega)).trans b1
    have e2 := (hoff2.cell (p := ⟨w.heap.size, 2, none⟩) hbz (by show ¬ (w.heap.size = g); omega)).trans b2
    have f1 : w2.frozen? ⟨g, m, none⟩ = false := frozen_of_row w2 g m _ _ hrow2.out
    have hsl := length_splice cur (m + 1) (bvs (l.drop m)) (by have := HL.out; have := HCL.out; rw [bvs_length, List.length_drop]; omega)
    obtain ⟨u, hu⟩ : ∃ u, w2.cell? ⟨g, m, none⟩ = some u := by
      rw [cell_of_row _ _ _ _ _ _ hrow2.out, List.getElem?_toArray]
      exact ⟨_, List.getElem?_eq_getElem (by have := HCL.out; omega)⟩
    have HSL := Lib.hid hsl
    clear hsl b1 b2
    go_wp2
    go_ret
    have hl := HL.out
    refine ⟨_, rfl, ?_, ?_⟩
    · rw [show (l.take m ++ x :: l.drop m).length = n + 1 by simp; omega]
      have hh := heap_setCell_same w2 g m _ _ (bv x) hrow2.out
      rw [List.setIfInBounds_toArray] at hh
      refine row_mk HBg.out hh hnc hcm (by rw [List.length_set, HSL.out]; exact HCL.out) ?_
      subst hl
      exact splice_ins cur l _ m x hm HT.out
    · have T0 : Below B w _ := (((Below.refl B w).alloc hB.out _).alloc (by have := hB.out; simp; omega) _).grown HG.out (by have := hB.out; simp; omega) (fun k hk => (HV.out k hk).1)
      have T1 := T0.drew.trans (hoff2.below (fun k hk => by have hk : k = g := hk; have := HBg.out; omega) (by have := hB.out; show B ≤ w1.heap.size; omega))
      exact T1.setCell HBg.out _

set_option maxHeartbeats 2000000 in
theorem done_del (v : Value) (n m : Nat) (l : List UInt8) (x : UInt8) (B : Nat) (w : World) (hown : w.ownsRow B 5 1 v n (bvs l)) (hl : l.length = n) (hm : m < n) (hn : n ≤ 4611686018427387904) (hB : B ≤ w.heap.size) :
    Calls Try.prog 37 #[v, .agg #[.int .i64 2, .int .i64 m, .int .u8 (x.toNat : Int)]] w (GivesR w B (l.take m ++ l.drop (m + 1))) := by
  obtain ⟨g, cap, rfl, hBg, hg⟩ := hown.form (by omega)
  have hown := own_below hown ((Below.refl w.heap.size w).alloc (Nat.le_refl _) (.cells #[.int .i64 2, .int .i64 m, .int .u8 (x.toNat : Int)] 80))
  have hcs : ∀ j u, (bvs (l.drop (m + 1)))[j]? = some u → (w.alloc (.cells #[.int .i64 2, .int .i64 m, .int .u8 (x.toNat : Int)] 80)).cell? ((⟨g, m + 1, none⟩ : Addr).add j) = some u := by
    intro j u hu
    have hj : j < (bvs (l.drop (m + 1))).length := (List.getElem?_eq_some_iff.1 hu).1
    simp [bvs] at hj
    have e : (⟨g, m + 1, none⟩ : Addr).add j = ⟨g, m + 1 + j, none⟩ := by unfold Addr.add; split <;> simp_all
    rw [e, hown.cellAt (m + 1 + j) (by omega), ← hu, bvs_drop, List.getElem?_drop]
  obtain ⟨cur, -, -, hrow, hnc, hcm, hcl, hct⟩ := row_whole hown
  obtain ⟨A1, s1, p1⟩ := cut_row g n cap m (by omega) hnc
  obtain ⟨A2, s2, p2⟩ := cut_row g n cap (m + 1) (by omega) hnc
  have s2 : ∀ W, (Instr.sliceAt 33 (.slice (some ⟨g, 0, none⟩) n cap) (some (.int .i64 ((m : Int) + 1))) none none).run Try.prog W = .ok (.slice A2 (n - (m + 1)) (cap - (m + 1))) W := s2
  have hw : IntKind.i64.wrap ((m : Int) + 1) = (m : Int) + 1 := IntWalk.i64_in _ (by unfold maxLen at hcm; omega)
  have b1 : (w.alloc (.cells #[.int .i64 2, .int .i64 m, .int .u8 (x.toNat : Int)] 80)).cell? ⟨w.heap.size, 1, none⟩ = some (.int .i64 m) := (cell_of_row _ _ _ _ _ _ (heap_alloc_new w _)).trans rfl
  have P1 := Lib.hid p1
  have P2 := Lib.hid p2
  have HCS := Lib.hid hcs
  have HR := Lib.hid hrow
  have HT := Lib.hid hct
  have HL := Lib.hid hl
  have HBg := Lib.hid hBg
  have HCL := Lib.hid hcl
  have hB := Lib.hid hB
  have HB1 := Lib.hid b1
  clear hown hrow hct p1 p2 hcs hl hBg hcl b1
  go_enter Try.func37, Try.ntmps37
  go_wp2_with (fail)
  go_region_law ((refine step_copy_off rfl (.tmp 37) (.tmp 42) 33 33 rfl 5 Try.underlying33 ?_ A1 A2 (n - m) (cap - m) (n - (m + 1)) (cap - (m + 1)) rfl rfl g m cur 5 ?_ (bvs (l.drop (m + 1))) ?_ ?_ ?_ ?_ ?_); (kernel_rfl); (exact HR.out); (have := HL.out; show _ = min _ _; rw [bvs_length, List.length_drop]; omega); (intro h; have := HL.out; simp [bvs] at h; exact ⟨P1.out (by omega), _, P2.out (by omega), HCS.out⟩); (have := HL.out; have := HCL.out; rw [bvs_length, List.length_drop]; omega); (exact bvs_one _); intro w2 hrow2 hoff2)
  all_goals
    have hgz : w.heap.size < (w.alloc (.cells #[.int .i64 2, .int .i64 m, .int .u8 (x.toNat : Int)] 80)).heap.size := by simp
    have e1 := (hoff2.cell (p := ⟨w.heap.size, 1, none⟩) hgz (by show ¬ (w.heap.size = g); omega)).trans HB1.out
    have f1 : w2.frozen? ⟨w.heap.size, 1, none⟩ = false := frozen_of_row w2 w.heap.size 1 _ _ ((hoff2.block w.heap.size hgz (by show ¬ (w.heap.size = g); omega)).trans (heap_alloc_new w _))
    have hsl := length_splice cur m (bvs (l.drop (m + 1))) (by have := HL.out; have := HCL.out; rw [bvs_length, List.length_drop]; omega)
    have HSL := Lib.hid hsl
    clear hsl
    go_wp2
    go_ret
    have hl := HL.out
    refine ⟨_, rfl, ?_, ?_⟩
    · rw [show (l.take m ++ l.drop (m + 1)).length = n - 1 by simp; omega]
      have hh := (heap_setCell_other w2 ⟨w.heap.size, 1, none⟩ g (.int .i64 ((n : Int) - 1)) (by show g ≠ w.heap.size; omega)).trans hrow2.out
      refine row_mk HBg.out hh (by omega) hcm (by rw [HSL.out]; exact HCL.out) ?_
      subst hl
      exact splice_del cur l m hm HT.out
    · have T1 := ((Below.refl B w).alloc hB.out _).drew.trans (hoff2.below (fun k hk => by have hk : k = g := hk; have := HBg.out; omega) (by have := hB.out; simp; omega))
      exact T1.setCell (show B ≤ w.heap.size from hB.out) _
end Go.Proofs.Ytgppoapdpgblmaa
