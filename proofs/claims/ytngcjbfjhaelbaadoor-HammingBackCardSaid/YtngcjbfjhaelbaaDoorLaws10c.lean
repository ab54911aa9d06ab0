/- The walk of layer 10's HammingBack, over the contracts of hamming. -/
import Derived.Test.YtngcjbfjhaelbaaDoorLaws10b
import Derived.Test.YtngcjbfjhaelbaaDoorArgsI
import Derived.StillTailTactics
namespace Go.Proofs.YtngcjbfjhaelbaaDoor
open Go.RowKit

theorem turnsL_len (l : List UInt8) : ∀ ts, (turnsL l ts).length = l.length := by
  induction l with
  | nil => intro ts; cases ts <;> rfl
  | cons x r ih => intro ts; match ts with
    | [] => rfl
    | t :: ts => simp [turnsL, ih ts]
theorem turnsL_nil (l : List UInt8) : turnsL l [] = l := by cases l <;> rfl
theorem cntL_nil (l : List UInt8) : cntL l [] = 0 := by cases l <;> rfl
theorem turnsL_step (l : List UInt8) : ∀ (ts : List Int) (j : Nat) (h : j < l.length) (h' : j < ts.length),
    turnsL l (ts.take (j + 1)) = (turnsL l (ts.take j)).set j (turn1 l[j] ts[j]) ∧ (turnsL l (ts.take j))[j]? = some l[j] ∧ cntL l (ts.take (j + 1)) = cntL l (ts.take j) + cnt1 ts[j] := by
  induction l with
  | nil => intro ts j h; cases h
  | cons x r ih =>
    intro ts j h h'
    match ts, j, h' with
    | t :: ts, 0, _ => simp [turnsL, cntL, turnsL_nil, cntL_nil]
    | t :: ts, j + 1, h' =>
      obtain ⟨i1, i2, i3⟩ := ih ts j (by simpa using h) (by simpa using h')
      simp only [List.take_succ_cons, turnsL, cntL, List.getElem_cons_succ, List.set_cons_succ, List.getElem?_cons_succ]
      exact ⟨by rw [i1], i2, by rw [i3]; omega⟩
theorem turnsL_end (l : List UInt8) : ∀ (ts : List Int) (j : Nat), l.length ≤ j ∨ ts.length ≤ j → turnsL l (ts.take j) = turnsL l ts ∧ cntL l (ts.take j) = cntL l ts := by
  induction l with
  | nil => intro ts j _; cases ts <;> cases j <;> exact ⟨rfl, rfl⟩
  | cons x r ih =>
    intro ts j h
    match ts, j with
    | [], j => simp [turnsL_nil]
    | t :: ts, 0 => simp at h
    | t :: ts, j + 1 =>
      obtain ⟨i1, i2⟩ := ih ts j (by simpa using h)
      simp only [List.take_succ_cons, turnsL, cntL]
      exact ⟨by rw [i1], by rw [i2]⟩
theorem cnt1_le (t : Int) : cnt1 t ≤ 1 := by unfold cnt1; split <;> omega
theorem cntL_le (l : List UInt8) : ∀ ts, cntL l ts ≤ l.length := by
  induction l with
  | nil => intro ts; cases ts <;> exact Nat.le_refl _
  | cons x r ih =>
    intro ts
    match ts with
    | [] => exact Nat.zero_le _
    | t :: ts =>
      have := ih ts
      have := cnt1_le t
      simp only [cntL, List.length_cons]
      omega
set_option maxHeartbeats 8000000 in
theorem walk_HammingBack {Tab : World → Prop} (C : HaC Tab) (A : Option Addr) (n c : Nat) (b : List UInt8) (B : Option Addr) (m d : Nat) (ts : List Int) (w : World) (hA : Bys w A n c b) (hB : Ints w B m d ts) (hT : Tab w) :
    Calls Tryd.prog 6 #[.slice A n c, .slice B m d] w fun e w' => e = .returned (.bool true) ∧ Below w.heap.size w w' := by
  have HL := Lib.hid (fun W (k : Below w.heap.size w W) => live10_any C W (C.keep _ _ hT k))
  have HN := Lib.hid num10_any
  have HPK := Lib.hid (C.pack A n c b w hA hT)
  have HUN := Lib.hid (fun A' n' c' l' W (h : Bys W A' n' c' l') (k : Below w.heap.size w W) => C.unpack A' n' c' l' W h (C.keep _ _ hT k))
  have HA := Lib.hid (fun W (k : Below w.heap.size w W) => hA.below k)
  have HB := Lib.hid (fun W (k : Below w.heap.size w W) => hB.below k)
  have hlb := hA.len
  have hlt := hB.1
  have hmd := hB.2.1
  have hdm := hB.2.2.1
  unfold maxLen at hdm
  clear hA hB hT
  by_cases h1 : 200 < n
  · have d1 : decide ((200 : Int) < (n : Int)) = true := by simp; omega
    go_enter Tryd.func6, Tryd.ntmps6
    go_wp2_with (fail)
    refine (HL.out _ (Below.refl _ _)).mono ?_
    rintro e w9 ⟨rfl, T9⟩
    go_wp2
    go_ret
    exact ⟨rfl, T9⟩
  · have d1 : decide ((200 : Int) < (n : Int)) = false := by simp; omega
    have hpb : packB b = packL b := by unfold packB; rw [if_neg (by omega)]
    rw [hpb] at HPK
    have hpl := packL_len b
    obtain ⟨N, hN⟩ : ∃ N, (packL b).length = N := ⟨_, rfl⟩
    have hNn : N = 2 * n := by omega
    have hend : unpackB (turnsL (packL b) ts) = (b, cntL (packL b) ts, 0) := unpack_ok (by rw [turnsL_len]; omega) (by rw [turnsL_len]; omega) (unpL_turns b ts)
    have HEND := Lib.hid hend
    have e1 : ((N : Int) != 2 * (n : Int)) = false := by simp; omega
    have HPN := Lib.hid hN
    have hN1 : N ≤ 2 * n := by omega
    have hN2 : 2 * n ≤ N := by omega
    clear hpb hpl hend hNn
    generalize packL b = l at *
    subst hlt
    go_enter Tryd.func6, Tryd.ntmps6
    go_wp2_with (fail)
    refine HPK.out.mono ?_
    rintro e w1 ⟨v1, rfl, hown, T1⟩
    rw [hN] at hown
    obtain ⟨A1, c1, rfl⟩ := own_shape hown
    have hNc := (Bys.of_own hown).le
    have hcap := (Bys.of_own hown).cap
    have HO1 := Lib.hid hown
    clear hown
    go_wp2_with (fail)
    go_loopw [6, 7] (fun s i wr => ∃ j k : Nat, j ≤ N ∧ j ≤ ts.length ∧ s = .int .i64 (k : Int) ∧ i = .int .i64 (j : Int) ∧ Hid (k = cntL l (ts.take j)) ∧ k ≤ j ∧ wr.ownsRow w.heap.size 5 1 (.slice A1 N c1) N (bvs (turnsL l (ts.take j))) ∧ Below w.heap.size w wr) (fun _ i _ => N - (intOf i).toNat)
    case atStart => exact ⟨0, 0, Nat.zero_le _, Nat.zero_le _, rfl, rfl, (by show 0 = cntL l []; rw [cntL_nil]), Nat.le_refl _, by rw [List.take_zero, turnsL_nil]; exact HO1.out, T1⟩
    case round =>
      obtain ⟨j, k, hjN, hjt, rfl, rfl, HK, hkj, hown, hbel⟩ := hrel
      by_cases hjl : j < N ∧ j < ts.length
      · have i1 : decide ((j : Int) < (ts.length : Int)) = true := by simp; omega
        have i2 : decide ((j : Int) < (N : Int)) = true := by simp; omega
        have hlt1 : (j : Int) < (ts.length : Int) := by omega
        have hlt2 : (j : Int) < (N : Int) := by omega
        obtain ⟨s1, s2, s3⟩ := turnsL_step l ts j (by rw [HPN.out]; exact hjl.1) hjl.2
        rw [← HK.out] at s3
        obtain ⟨gt, ot, rfl, hgt, hct⟩ := (HB.out _ hbel).2.2.2.2 (by omega)
        have ct := hct j hjl.2
        clear hct
        generalize ts[j] = z at *
        have hx : ∃ x, l[j]'(by rw [HPN.out]; exact hjl.1) = x := ⟨_, rfl⟩
        obtain ⟨x, hx⟩ := hx
        rw [hx] at s1 s2
        clear hx
        have hsm : (turnsL l (ts.take j)).set j x = turnsL l (ts.take j) := by
          obtain ⟨hh, e⟩ := List.getElem?_eq_some_iff.1 s2
          rw [← e, List.set_getElem_self]
        have HSAME := Lib.hid hsm
        clear hsm
        have HST := Lib.hid (And.intro s1 s3)
        have hform : ∃ g, A1 = some ⟨g, 0, none⟩ ∧ w.heap.size ≤ g := by
          rcases hown.2 with ⟨hv, hn⟩ | ⟨g, cap, cur, hv, hg, _⟩
          · omega
          · injection hv with hv1
            exact ⟨g, hv1, hg⟩
        obtain ⟨g, rfl, hg⟩ := hform
        have cx : wr.cell? ⟨g, j, none⟩ = some (.int .u8 (x.toNat : Int)) := by
          obtain ⟨hh, e⟩ := List.getElem?_eq_some_iff.1 s2
          rw [hown.cellAt j (by omega), bvs_get _ j hh, e]
          rfl
        have fx := hown.frozenAt j
        have CXX := Lib.hid cx
        have HON := Lib.hid hown
        clear s1 s2 s3 hown
        by_cases hz0 : 0 ≤ z
        · have k1 : decide (0 ≤ z) = true := by simpa using hz0
          by_cases hz8 : z < 8
          · have k2 : decide (z < 8) = true := by simpa using hz8
            have ht1 : turn1 x z = x ^^^ bitB z.toNat := by unfold turn1 bitB; rw [if_pos ⟨hz0, hz8⟩]
            have hc1 : cnt1 z = 1 := by unfold cnt1; rw [if_pos ⟨hz0, hz8⟩]
            rw [ht1, hc1] at HST
            obtain ⟨kp, rfl⟩ := Int.eq_ofNat_of_zero_le hz0
            rw [Int.toNat_natCast] at HST
            have np := bitB_int kp (by omega)
            have hxx := u8_xy x (bitB kp)
            have w0 : IntKind.u64.wrap (kp : Int) = (kp : Int) := IntWalk.u64_in _ (by omega)
            generalize bitB kp = pb at *
            clear ht1 hc1
            go_wp2_with (fail)
            go_still_tail 14, (by kernel_rfl)
            change wpList _ _ _ _ _ wr.drew
            have HW4 : Hid (wr.drew.ownsRow w.heap.size 5 1 (.slice (some ⟨g, 0, none⟩) N c1) N (bvs (turnsL l (ts.take j))) ∧ Below w.heap.size w wr.drew) := ⟨HON.out, hbel.drew⟩
            clear fx cx ct HON hbel HB HA
            have CX4 : Hid (wr.drew.cell? ⟨g, j, none⟩ = some (.int .u8 (x.toNat : Int))) := CXX.out
            generalize wr.drew = W4 at *
            have c4 : W4.cell? ⟨g, j, none⟩ = some (.int .u8 (x.toNat : Int)) := CX4.out
            have f4 : W4.frozen? ⟨g, j, none⟩ = false := HW4.out.1.frozenAt j
            go_wp2
            go_roundw
            case rel =>
              refine ⟨j + 1, k + 1, by omega, by omega, by go_num, by go_num, ?_, by omega, ?_, ?_⟩
              · exact HST.out.2.symm
              · rw [HST.out.1, show bvs ((turnsL l (ts.take j)).set j (x ^^^ pb)) = (bvs (turnsL l (ts.take j))).set j (bv (x ^^^ pb)) from by unfold bvs; rw [List.map_set]]
                exact (HW4.out.1.stored j (bv (x ^^^ pb))).1
              · exact HW4.out.2.setCell hg _
            case measure => simp [intOf]; omega
          · have k2 : decide (z < 8) = false := by simpa using hz8
            have ht1 : turn1 x z = x := by unfold turn1; rw [if_neg (by omega)]
            have hc1 : cnt1 z = 0 := by unfold cnt1; rw [if_neg (by omega)]
            rw [ht1, hc1] at HST
            clear ht1 hc1
            go_wp2
            go_roundw
            case rel =>
              refine ⟨j + 1, k, by omega, by omega, rfl, by go_num, ?_, by omega, ?_, hbel⟩
              · exact HST.out.2.symm
              · rw [HST.out.1, HSAME.out]
                exact HON.out
            case measure => simp [intOf]; omega
        · have k1 : decide (0 ≤ z) = false := by simpa using hz0
          have ht1 : turn1 x z = x := by unfold turn1; rw [if_neg (by omega)]
          have hc1 : cnt1 z = 0 := by unfold cnt1; rw [if_neg (by omega)]
          rw [ht1, hc1] at HST
          clear ht1 hc1
          go_wp2
          go_roundw
          case rel =>
            refine ⟨j + 1, k, by omega, by omega, rfl, by go_num, ?_, by omega, ?_, hbel⟩
            · exact HST.out.2.symm
            · rw [HST.out.1, HSAME.out]
              exact HON.out
          case measure => simp [intOf]; omega
      · have hend2 := turnsL_end l ts j (by rw [HPN.out]; omega)
        rw [hend2.1] at hown
        have hk2 : k = cntL l ts := HK.out.trans hend2.2
        have hB3 := Bys.of_own hown
        have HUU := Lib.hid (HUN.out _ _ _ _ _ hB3 hbel)
        rw [HEND.out, ← hk2] at HUU
        have i5 : ((k : Int) == (k : Int)) = true := by simp
        clear hown hB3 hend2 hk2 HK
        by_cases hj1 : j < ts.length
        · have i1 : decide ((j : Int) < (ts.length : Int)) = true := by simp; omega
          have i2 : decide ((j : Int) < (N : Int)) = false := by simp; omega
          go_wp2_with (fail)
          refine HUU.out.mono ?_
          rintro e w3 ⟨A3, n3, c3, rfl, B3, T3⟩
          have T3 := nxt hbel T3
          go_wp2_with (fail)
          refine (HN.out _ _).mono ?_
          rintro e w4 ⟨rfl, rfl⟩
          go_wp2_with (fail)
          refine (same_true _ _ _ _ _ _ _ _ B3 (HA.out _ T3)).mono ?_
          rintro e w5 ⟨rfl, T5⟩
          have T5 := nxt T3 T5
          clear B3
          go_wp2_with (fail)
          refine (HL.out _ T5).mono ?_
          rintro e w9 ⟨rfl, T9⟩
          have T9 := nxt T5 T9
          go_wp2
          go_ret
          exact ⟨rfl, T9⟩
        · have i1 : decide ((j : Int) < (ts.length : Int)) = false := by simp; omega
          go_wp2_with (fail)
          refine HUU.out.mono ?_
          rintro e w3 ⟨A3, n3, c3, rfl, B3, T3⟩
          have T3 := nxt hbel T3
          go_wp2_with (fail)
          refine (HN.out _ _).mono ?_
          rintro e w4 ⟨rfl, rfl⟩
          go_wp2_with (fail)
          refine (same_true _ _ _ _ _ _ _ _ B3 (HA.out _ T3)).mono ?_
          rintro e w5 ⟨rfl, T5⟩
          have T5 := nxt T3 T5
          clear B3
          go_wp2_with (fail)
          refine (HL.out _ T5).mono ?_
          rintro e w9 ⟨rfl, T9⟩
          have T9 := nxt T5 T9
          go_wp2
          go_ret
          exact ⟨rfl, T9⟩
end Go.Proofs.YtngcjbfjhaelbaaDoor
