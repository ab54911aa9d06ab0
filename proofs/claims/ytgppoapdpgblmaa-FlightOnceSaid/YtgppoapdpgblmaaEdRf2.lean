/- What kedgeref06.One answers of a deletion, of an insertion, of any edit; kedgeref06.Do. -/
import Derived.Test.YtgppoapdpgblmaaEdRf
namespace Go.Proofs.Ytgppoapdpgblmaa
open Go.RowKit

/-- what an append onto the call's own new row leaves of the blocks that the call had made ahead -/
theorem fgrew {w X w1 : World} (E : Nat) (hg : X.grownBy w1 (some E)) (hT : Below w.heap.size w X) (hE : w.heap.size ≤ E) : Below w.heap.size w w1 :=
  hT.grown hg hT.size (fun k hk => by injection hk with hk; omega)
theorem fgrew_at {X w1 : World} (E : Nat) {k : Nat} {o : Obj} (hg : X.grownBy w1 (some E)) (h : X.heap[k]? = some o) (hk : k ≠ E) : w1.heap[k]? = some o :=
  (hg.block k (lt_of_block h) (fun e => hk (by injection e))).trans h
/-- .. of one that may lie elsewhere by now, but not below block B -/
theorem fgrew2 {w w1 w2 : World} {B : Nat} {v : Value} {e : TypeId} {n : Nat} {xs : List Value} (hg : w1.grownBy w2 v.ownBlock) (ho : w1.ownsRow B e 1 v n xs) (hT : Below w.heap.size w w1) (hB : w.heap.size ≤ B) : Below w.heap.size w w2 :=
  hT.grown hg hT.size (fun k hk => by have := (ho.lt k hk).1; omega)
theorem fgrew2_at {w1 w2 : World} {B : Nat} {v : Value} {e : TypeId} {n : Nat} {xs : List Value} {k : Nat} {o : Obj} (hg : w1.grownBy w2 v.ownBlock) (ho : w1.ownsRow B e 1 v n xs) (h : w1.heap[k]? = some o) (hk : k < B) : w2.heap[k]? = some o :=
  (hg.block k (lt_of_block h) (fun e => by have := (ho.lt k e.symm).1; omega)).trans h

set_option maxHeartbeats 4000000 in
theorem fone_del (A : Option Addr) (n c m : Nat) (b : List UInt8) (x : UInt8) (w : World) (hB : Bys w A n c b) (hm : m < n) (hn : n ≤ 1000000) :
    Calls Try.prog 38 #[.slice A n c, .agg #[.int .i64 2, .int .i64 m, .int .u8 (x.toNat : Int)]] w (GivesEd w A n (b.take m ++ b.drop (m + 1))) := by
  have d0 : decide ((m : Int) < 0) = false := by simp
  have d1 : decide ((n : Int) < (m : Int)) = false := by simp; omega
  have hw : IntKind.i64.wrap ((m : Int) + 1) = (m : Int) + 1 := IntWalk.i64_in _ (by omega)
  obtain ⟨s1, hb1⟩ := cut_hi hB m (by omega)
  obtain ⟨A2, s2, hb2⟩ := cut_lo hB (m + 1) (by omega)
  have s2 : ∀ W, (Instr.sliceAt 33 (.slice A n c) (some (.int .i64 ((m : Int) + 1))) none none).run Try.prog W = .ok (.slice A2 (n - (m + 1)) (c - (m + 1))) W := s2
  have T0 : Below w.heap.size w ((w.alloc (.cells #[.int .i64 2, .int .i64 m, .int .u8 (x.toNat : Int)] 80)).alloc (.cells #[] 5)) := ((Below.refl _ _).alloc (Nat.le_refl _) _).alloc (by simp) _
  have hbx : ((w.alloc (.cells #[.int .i64 2, .int .i64 m, .int .u8 (x.toNat : Int)] 80)).alloc (.cells #[] 5)).heap[w.heap.size]? = some (.cells #[.int .i64 2, .int .i64 m, .int .u8 (x.toNat : Int)] 80) := fh_old _ _ _ _ (fh_new w _ _ rfl)
  have hzz : w.heap.size + 1 ≤ ((w.alloc (.cells #[.int .i64 2, .int .i64 m, .int .u8 (x.toNat : Int)] 80)).alloc (.cells #[] 5)).heap.size := by simp
  have HT0 := Lib.hid T0
  have HBX := Lib.hid hbx
  have HZZ := Lib.hid hzz
  have HE : Hid (((w.alloc (.cells #[.int .i64 2, .int .i64 m, .int .u8 (x.toNat : Int)] 80)).alloc (.cells #[] 5)).ownsRow (w.heap.size + 1) 5 1 (.slice (some ⟨w.heap.size + 1, 0, none⟩) 0 0) 0 []) := fown_empty _ _ _ (fh_new _ _ _ (by simp)) (by omega)
  have H1 : Hid (∀ W, Below w.heap.size w W → Bys W A m c (b.take m)) := fun W h => hb1.below h
  have H2 : Hid (∀ W, Below w.heap.size w W → Bys W A2 (n - (m + 1)) (c - (m + 1)) (b.drop (m + 1))) := fun W h => hb2.below h
  clear hB hb1 hb2 T0 hbx hzz
  go_enter Try.func38, Try.ntmps38
  go_wp2_with (fail)
  go_region_held3 (fun w' => w'.cell? ⟨w.heap.size, 1, none⟩ = some (.int .i64 (m : Int))) (first | exact cell_of_row _ _ _ _ _ _ q2 | exact cell_of_row _ _ _ _ _ _ q1 | (simp; done))
    (first
      | ((refine step_bys _ rfl (.tmp 71) (.tmp 75) rfl (w.heap.size + 1) (.slice (some ⟨w.heap.size + 1, 0, none⟩) 0 0) 0 [] rfl ?_ A m c (b.take m) rfl ?_ ?_ ?_ ?_); (exact HE.out); (exact H1.out _ HT0.out.drew); (omega); (exact HZZ.out); intro v1 w1 hown1 hgrow1 hwhere1; have T1 := fgrew (w.heap.size + 1) hgrow1 HT0.out.drew (by omega); have q1 := fgrew_at (w.heap.size + 1) hgrow1 HBX.out (by omega); have z1 : w.heap.size + 1 ≤ w1.heap.size := Nat.le_trans HZZ.out hgrow1.size)
      | ((refine step_bys _ rfl (.tmp 76) (.tmp 81) rfl (w.heap.size + 1) v1 (0 + m) ([] ++ bvs (b.take m)) rfl ?_ A2 (n - (m + 1)) (c - (m + 1)) (b.drop (m + 1)) rfl ?_ ?_ ?_ ?_); (exact hown1); (exact H2.out _ T1); (omega); (exact z1); intro v2 w2 hown2 hgrow2 hwhere2; have q2 := fgrew2_at hgrow2 hown1 q1 (by omega); have T2 := fgrew2 hgrow2 hown1 T1 (by omega)))
  all_goals
    obtain ⟨A3, c3, rfl⟩ := own_shape hown2
    simp only [List.nil_append, ← bvs_append] at hown2
    have HV := Lib.hid ((own_fr hown2).imp (fun k (hk : k < w.heap.size) => (Nat.lt_succ_of_lt hk : k < w.heap.size + 1)))
    have HO := Lib.hid (Bys.of_own hown2)
    clear hown2 hown1
    go_wp2
    go_ret
    exact ⟨_, _, _, rfl, HO.out, .inr HV.out, T2⟩

set_option maxHeartbeats 8000000 in
set_option maxRecDepth 100000 in
theorem fone_ins (A : Option Addr) (n c m : Nat) (b : List UInt8) (x : UInt8) (w : World) (hB : Bys w A n c b) (hm : m ≤ n) (hn : n < 512) :
    Calls Try.prog 38 #[.slice A n c, .agg #[.int .i64 1, .int .i64 m, .int .u8 (x.toNat : Int)]] w (GivesEd w A n (b.take m ++ x :: b.drop m)) := by
  have d0 : decide ((m : Int) < 0) = false := by simp
  have d1 : decide ((n : Int) < (m : Int)) = false := by simp; omega
  have d2 : decide ((n : Int) < 512) = true := by simp; omega
  obtain ⟨s1, hb1⟩ := cut_hi hB m (by omega)
  obtain ⟨A2, s2, hb2⟩ := cut_lo hB m (by omega)
  have T0 : Below w.heap.size w ((w.alloc (.cells #[.int .i64 1, .int .i64 m, .int .u8 (x.toNat : Int)] 80)).alloc (.cells #[] 5)) := ((Below.refl _ _).alloc (Nat.le_refl _) _).alloc (by simp) _
  have T0b : Below w.heap.size w (((w.alloc (.cells #[.int .i64 1, .int .i64 m, .int .u8 (x.toNat : Int)] 80)).alloc (.cells #[] 5)).alloc (.cells #[.int .u8 (x.toNat : Int)] 5)) := T0.alloc (by simp; omega) _
  have T0c : Below w.heap.size w (((w.alloc (.cells #[.int .i64 1, .int .i64 m, .int .u8 (x.toNat : Int)] 80)).alloc (.cells #[.int .u8 (x.toNat : Int)] 5)).alloc (.cells #[] 5)) := (((Below.refl _ _).alloc (Nat.le_refl _) _).alloc (by simp) _).alloc (by simp; omega) _
  have hbx : ((w.alloc (.cells #[.int .i64 1, .int .i64 m, .int .u8 (x.toNat : Int)] 80)).alloc (.cells #[] 5)).heap[w.heap.size]? = some (.cells #[.int .i64 1, .int .i64 m, .int .u8 (x.toNat : Int)] 80) := fh_old _ _ _ _ (fh_new w _ _ rfl)
  have hbxb : (((w.alloc (.cells #[.int .i64 1, .int .i64 m, .int .u8 (x.toNat : Int)] 80)).alloc (.cells #[] 5)).alloc (.cells #[.int .u8 (x.toNat : Int)] 5)).heap[w.heap.size]? = some (.cells #[.int .i64 1, .int .i64 m, .int .u8 (x.toNat : Int)] 80) := fh_old _ _ _ _ hbx
  have hbxc : (((w.alloc (.cells #[.int .i64 1, .int .i64 m, .int .u8 (x.toNat : Int)] 80)).alloc (.cells #[.int .u8 (x.toNat : Int)] 5)).alloc (.cells #[] 5)).heap[w.heap.size]? = some (.cells #[.int .i64 1, .int .i64 m, .int .u8 (x.toNat : Int)] 80) := fh_old _ _ _ _ (fh_old _ _ _ _ (fh_new w _ _ rfl))
  have hlb : (((w.alloc (.cells #[.int .i64 1, .int .i64 m, .int .u8 (x.toNat : Int)] 80)).alloc (.cells #[] 5)).alloc (.cells #[.int .u8 (x.toNat : Int)] 5)).heap[w.heap.size + 2]? = some (.cells #[.int .u8 (x.toNat : Int)] 5) := fh_new _ _ _ (by simp)
  have hlc : (((w.alloc (.cells #[.int .i64 1, .int .i64 m, .int .u8 (x.toNat : Int)] 80)).alloc (.cells #[.int .u8 (x.toNat : Int)] 5)).alloc (.cells #[] 5)).heap[w.heap.size + 1]? = some (.cells #[.int .u8 (x.toNat : Int)] 5) := fh_old _ _ _ _ (fh_new _ _ _ (by simp))
  have hzz : w.heap.size + 1 ≤ ((w.alloc (.cells #[.int .i64 1, .int .i64 m, .int .u8 (x.toNat : Int)] 80)).alloc (.cells #[] 5)).heap.size := by simp
  have hzzb : w.heap.size + 1 ≤ (((w.alloc (.cells #[.int .i64 1, .int .i64 m, .int .u8 (x.toNat : Int)] 80)).alloc (.cells #[] 5)).alloc (.cells #[.int .u8 (x.toNat : Int)] 5)).heap.size := by simp
  have hzzc : w.heap.size + 1 ≤ (((w.alloc (.cells #[.int .i64 1, .int .i64 m, .int .u8 (x.toNat : Int)] 80)).alloc (.cells #[.int .u8 (x.toNat : Int)] 5)).alloc (.cells #[] 5)).heap.size := by simp
  have hE : ((w.alloc (.cells #[.int .i64 1, .int .i64 m, .int .u8 (x.toNat : Int)] 80)).alloc (.cells #[] 5)).ownsRow (w.heap.size + 1) 5 1 (.slice (some ⟨w.heap.size + 1, 0, none⟩) 0 0) 0 [] := fown_empty _ _ _ (fh_new _ _ _ (by simp)) (by omega)
  have hEb : (((w.alloc (.cells #[.int .i64 1, .int .i64 m, .int .u8 (x.toNat : Int)] 80)).alloc (.cells #[] 5)).alloc (.cells #[.int .u8 (x.toNat : Int)] 5)).ownsRow (w.heap.size + 1) 5 1 (.slice (some ⟨w.heap.size + 1, 0, none⟩) 0 0) 0 [] := fown_empty _ _ _ (fh_old _ _ _ _ (fh_new _ _ _ (by simp))) (by omega)
  have hEc : (((w.alloc (.cells #[.int .i64 1, .int .i64 m, .int .u8 (x.toNat : Int)] 80)).alloc (.cells #[.int .u8 (x.toNat : Int)] 5)).alloc (.cells #[] 5)).ownsRow (w.heap.size + 1) 5 1 (.slice (some ⟨w.heap.size + 2, 0, none⟩) 0 0) 0 [] := fown_empty _ _ _ (fh_new _ _ _ (by simp)) (by omega)
  have Ka := Lib.hid (And.intro T0 (And.intro hbx (And.intro hzz hE)))
  have Kb := Lib.hid (And.intro T0b (And.intro hbxb (And.intro hzzb (And.intro hEb hlb))))
  have Kc := Lib.hid (And.intro T0c (And.intro hbxc (And.intro hzzc (And.intro hEc hlc))))
  have H1 : Hid (∀ W, Below w.heap.size w W → Bys W A m c (b.take m)) := fun W h => hb1.below h
  have H2 : Hid (∀ W, Below w.heap.size w W → Bys W A2 (n - m) (c - m) (b.drop m)) := fun W h => hb2.below h
  clear hB hb1 hb2 T0 T0b T0c hbx hbxb hbxc hlb hlc hzz hzzb hzzc hE hEb hEc
  go_enter Try.func38, Try.ntmps38
  go_wp2_with (fail)
  go_region_held3 (fun w' => w'.cell? ⟨w.heap.size, 1, none⟩ = some (.int .i64 (m : Int)) ∧ w'.cell? ⟨w.heap.size, 2, none⟩ = some (.int .u8 (x.toNat : Int))) (first | exact ⟨cell_of_row _ _ _ _ _ _ q3, cell_of_row _ _ _ _ _ _ q3⟩ | exact ⟨cell_of_row _ _ _ _ _ _ q2, cell_of_row _ _ _ _ _ _ q2⟩ | exact ⟨cell_of_row _ _ _ _ _ _ q1, cell_of_row _ _ _ _ _ _ q1⟩ | exact ⟨cell_of_row _ _ _ _ _ _ (fh_old _ _ _ _ q1), cell_of_row _ _ _ _ _ _ (fh_old _ _ _ _ q1)⟩ | (simp; done) | exact ⟨cell_of_row _ _ _ _ _ _ Kb.out.2.1, cell_of_row _ _ _ _ _ _ Kb.out.2.1⟩ | exact ⟨cell_of_row _ _ _ _ _ _ Kc.out.2.1, cell_of_row _ _ _ _ _ _ Kc.out.2.1⟩)
    (first
      | ((refine step_bys _ rfl (.tmp 46) (.tmp 50) rfl (w.heap.size + 1) (.slice (some ⟨w.heap.size + 1, 0, none⟩) 0 0) 0 [] rfl ?_ A m c (b.take m) rfl ?_ ?_ ?_ ?_); (exact Ka.out.2.2.2); (exact H1.out _ Ka.out.1.drew); (omega); (exact Ka.out.2.2.1); intro v1 w1 hown1 hgrow1 hwhere1; have T1 := fgrew (w.heap.size + 1) hgrow1 Ka.out.1.drew (by omega); have q1 := fgrew_at (w.heap.size + 1) hgrow1 Ka.out.2.1 (by omega); have z1 : w.heap.size + 1 ≤ w1.heap.size := Nat.le_trans Ka.out.2.2.1 hgrow1.size)
      | ((refine step_bys _ rfl (.tmp 46) (.tmp 50) rfl (w.heap.size + 1) (.slice (some ⟨w.heap.size + 1, 0, none⟩) 0 0) 0 [] rfl ?_ A m c (b.take m) rfl ?_ ?_ ?_ ?_); (exact Kb.out.2.2.2.1); (exact H1.out _ Kb.out.1.drew); (omega); (exact Kb.out.2.2.1); intro v1 w1 hown1 hgrow1 hwhere1; have T1 := fgrew (w.heap.size + 1) hgrow1 Kb.out.1.drew (by omega); have q1 := fgrew_at (w.heap.size + 1) hgrow1 Kb.out.2.1 (by omega); have z1 : w.heap.size + 1 ≤ w1.heap.size := Nat.le_trans Kb.out.2.2.1 hgrow1.size; have lit1 := fgrew_at (w.heap.size + 1) hgrow1 Kb.out.2.2.2.2 (by omega))
      | ((refine step_bys _ rfl (.tmp 46) (.tmp 50) rfl (w.heap.size + 1) (.slice (some ⟨w.heap.size + 2, 0, none⟩) 0 0) 0 [] rfl ?_ A m c (b.take m) rfl ?_ ?_ ?_ ?_); (exact Kc.out.2.2.2.1); (exact H1.out _ Kc.out.1.drew); (omega); (exact Kc.out.2.2.1); intro v1 w1 hown1 hgrow1 hwhere1; have T1 := fgrew (w.heap.size + 2) hgrow1 Kc.out.1.drew (by omega); have q1 := fgrew_at (w.heap.size + 2) hgrow1 Kc.out.2.1 (by omega); have z1 : w.heap.size + 1 ≤ w1.heap.size := Nat.le_trans Kc.out.2.2.1 hgrow1.size; have lit1 := fgrew_at (w.heap.size + 2) hgrow1 Kc.out.2.2.2.2 (by omega))
      | ((refine step_bys _ rfl (.tmp 51) (.tmp 54) rfl (w.heap.size + 1) v1 (0 + m) ([] ++ bvs (b.take m)) rfl ?_ (some ⟨w.heap.size + 2, 0, none⟩) 1 1 [x] rfl ?_ ?_ ?_ ?_); (exact hown1); (exact fbys_one _ _ _ lit1); (omega); (exact z1); intro v2 w2 hown2 hgrow2 hwhere2; have q2 := fgrew2_at hgrow2 hown1 q1 (by omega); have T2 := fgrew2 hgrow2 hown1 T1 (by omega); have z2 : w.heap.size + 1 ≤ w2.heap.size := Nat.le_trans z1 hgrow2.size)
      | ((refine step_bys _ rfl (.tmp 51) (.tmp 54) rfl (w.heap.size + 1) v1 (0 + m) ([] ++ bvs (b.take m)) rfl ?_ (some ⟨w.heap.size + 1, 0, none⟩) 1 1 [x] rfl ?_ ?_ ?_ ?_); (exact hown1); (exact fbys_one _ _ _ lit1); (omega); (exact z1); intro v2 w2 hown2 hgrow2 hwhere2; have q2 := fgrew2_at hgrow2 hown1 q1 (by omega); have T2 := fgrew2 hgrow2 hown1 T1 (by omega); have z2 : w.heap.size + 1 ≤ w2.heap.size := Nat.le_trans z1 hgrow2.size)
      | ((refine step_bys _ rfl (.tmp 51) (.tmp 54) rfl (w.heap.size + 1) v1 (0 + m) ([] ++ bvs (b.take m)) rfl ?_ (some ⟨w1.heap.size, 0, none⟩) 1 1 [x] rfl ?_ ?_ ?_ ?_); (exact own_below hown1 ((Below.refl _ _).alloc (Nat.le_refl _) _)); (exact fbys_one _ _ _ (fh_new w1 _ _ rfl)); (omega); (exact Nat.le_trans z1 (by simp)); intro v2 w2 hown2 hgrow2 hwhere2; have q2 := fgrew2_at hgrow2 (own_below hown1 ((Below.refl _ _).alloc (Nat.le_refl _) (.cells #[.int .u8 (x.toNat : Int)] 5))) (fh_old _ _ _ _ q1) (by omega); have T2 := fgrew2 hgrow2 (own_below hown1 ((Below.refl _ _).alloc (Nat.le_refl _) (.cells #[.int .u8 (x.toNat : Int)] 5))) (T1.alloc T1.size (.cells #[.int .u8 (x.toNat : Int)] 5)) (by omega); have z2 : w.heap.size + 1 ≤ w2.heap.size := Nat.le_trans (Nat.le_trans z1 (by simp)) hgrow2.size)
      | ((refine step_bys _ rfl (.tmp 55) (.tmp 59) rfl (w.heap.size + 1) v2 (0 + m + 1) ([] ++ bvs (b.take m) ++ bvs [x]) rfl ?_ A2 (n - m) (c - m) (b.drop m) rfl ?_ ?_ ?_ ?_); (exact hown2); (exact H2.out _ T2); (omega); (exact z2); intro v3 w3 hown3 hgrow3 hwhere3; have q3 := fgrew2_at hgrow3 hown2 q2 (by omega); have T3 := fgrew2 hgrow3 hown2 T2 (by omega)))
  all_goals
    obtain ⟨A3, c3, rfl⟩ := own_shape hown3
    simp only [List.nil_append, ← bvs_append, List.append_assoc, List.cons_append] at hown3
    have HV := Lib.hid ((own_fr hown3).imp (fun k (hk : k < w.heap.size) => (Nat.lt_succ_of_lt hk : k < w.heap.size + 1)))
    have HO := Lib.hid (Bys.of_own hown3)
    clear hown3 hown2 hown1
    go_wp2
    go_ret
    exact ⟨_, _, _, rfl, HO.out, .inr HV.out, T3⟩

theorem fone_any (A : Option Addr) (n c : Nat) (b : List UInt8) (k a : Int) (x : UInt8) (w : World) (hB : Bys w A n c b) (hn : n ≤ 1000000) :
    Calls Try.prog 38 #[.slice A n c, .agg #[.int .i64 k, .int .i64 a, .int .u8 (x.toNat : Int)]] w (GivesEd w A n (edOne b ⟨k, a, x⟩)) := by
  have hl := hB.len
  cases hf : edFits k a n with
  | false =>
    rw [edOne_unfit b ⟨k, a, x⟩ (by rw [hl]; exact hf)]
    exact fone_no A n c b k a x w hB hf
  | true =>
    have hf := of_decide_eq_true hf
    obtain ⟨m, rfl⟩ : ∃ m : Nat, a = m := ⟨a.toNat, by omega⟩
    rcases hf.2 with ⟨rfl | rfl, h2⟩ | ⟨⟨rfl, h1⟩ | rfl, h2⟩
    · rw [edOne_put b m x (by omega)]
      exact fone_put A n c m b x w hB (by omega) hn
    · rw [edOne_del b m x (by omega)]
      exact fone_del A n c m b x w hB (by omega) hn
    · rw [edOne_ins b m x (by omega) (by omega)]
      exact fone_ins A n c m b x w hB (by omega) h1
    · rw [edOne_cut b m x (by omega)]
      exact fone_cut A n c m b x w hB (by omega) hn

set_option maxHeartbeats 2000000 in
theorem frdo_any (A : Option Addr) (n c : Nat) (b : List UInt8) (A2 : Option Addr) (n2 c2 : Nat) (l : List Ed) (w : World) (hB : Bys w A n c b) (hE : Eds w A2 n2 c2 l) (hn : n ≤ 500000) (hn2 : n2 ≤ 500000) :
    Calls Try.prog 31 #[.slice A n c, .slice A2 n2 c2] w (GivesBf w (edDo b l)) := by
  have hbl := hB.len
  have HC := Lib.hid (rcopy_any A n c b w hB (by omega))
  obtain ⟨hl, hnc, hcm, hcell⟩ := hE
  unfold maxLen at hcm
  subst hl
  have HE := Lib.hid hcell
  clear hcell hB
  go_enter Try.func31, Try.ntmps31
  go_wp2_with (fail)
  refine HC.out.mono ?_
  rintro e w1 ⟨v1, rfl, hown1, T1⟩
  rw [hbl] at hown1
  obtain ⟨A1, d1, rfl⟩ := own_shape hown1
  have hb1 := Bys.of_own hown1
  have HV1 := Lib.hid (own_fr hown1)
  have HB1 := Lib.hid hb1
  clear hown1 hb1
  go_wp2_with (fail)
  go_loopw [5, 6] (fun v i wr => ∃ k : Nat, k ≤ l.length ∧ i = .int .i64 k ∧ ∃ (A3 : Option Addr) (n3 c3 : Nat), v = .slice A3 n3 c3 ∧ Bys wr A3 n3 c3 (edDo b (l.take k)) ∧ Av (· < w.heap.size) n3 A3 ∧ Below w.heap.size w wr) (fun _ i _ => l.length - (intOf i).toNat)
  case atStart => exact ⟨0, Nat.zero_le _, rfl, _, _, _, rfl, HB1.out, HV1.out, T1⟩
  case round =>
    obtain ⟨k, hk, rfl, A3, n3, c3, rfl, hb3, hav3, hbel⟩ := hrel
    have HV3 := Lib.hid hav3
    clear hav3
    by_cases hlt : k < l.length
    · obtain ⟨g, o, rfl, hg, hc⟩ := HE.out (by omega)
      obtain ⟨e1, e2, e3⟩ := hc k hlt
      have e1 := (hbel.cell (p := ⟨g, o + k * 3, none⟩) hg).trans e1
      have e2 := (hbel.cell (p := ⟨g, o + k * 3 + 1, none⟩) hg).trans e2
      have e3 := (hbel.cell (p := ⟨g, o + k * 3 + 2, none⟩) hg).trans e3
      have hlen := edDo_len b l k
      have hst := edDo_take b l k hlt
      generalize l[k] = x at *
      obtain ⟨xk, xa, xb⟩ := x
      simp only at e1 e2 e3
      have hl3 := hb3.len
      generalize edDo b (l.take k) = cur at *
      have HD := Lib.hid (fone_any A3 n3 c3 cur xk xa xb wr hb3 (by omega))
      have HST := Lib.hid hst
      clear hst hb3 hlen hc hl3
      go_wp2_with (fail)
      refine HD.out.mono ?_
      rintro e w2 ⟨A4, n4, c4, rfl, hb4, hav4, T4⟩
      have HB4 := Lib.hid hb4
      have HV4 : Hid (Av (· < w.heap.size) n4 A4) := by
        show Av _ _ _
        rcases hav4 with ⟨rfl, rfl⟩ | h
        · exact HV3.out
        · exact h.imp (fun k hk => Nat.lt_of_lt_of_le hk hbel.size)
      clear hb4 hav4
      go_wp2
      go_roundw
      case rel =>
        refine ⟨k + 1, by omega, by go_num, _, _, _, rfl, ?_, HV4.out, nxt hbel T4⟩
        rw [HST.out]
        exact HB4.out
      case measure => simp [intOf]; omega
    · obtain rfl : k = l.length := by omega
      rw [List.take_length] at hb3
      have HB3 := Lib.hid hb3
      clear hb3
      go_wp2
      go_ret
      exact ⟨_, _, _, rfl, HB3.out, HV3.out, hbel⟩
end Go.Proofs.Ytgppoapdpgblmaa
