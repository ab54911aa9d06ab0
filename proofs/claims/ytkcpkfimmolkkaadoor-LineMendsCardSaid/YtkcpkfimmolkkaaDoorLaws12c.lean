/- The walks of layer 12's statements, over the contracts of phase and line: Mends. -/
import Derived.Test.YtkcpkfimmolkkaaDoorLaws12
import Derived.Test.YtkcpkfimmolkkaaDoorPhs
namespace Go.Proofs.YtkcpkfimmolkkaaDoor
open Go.RowKit
set_option maxRecDepth 20000

set_option maxHeartbeats 8000000 in
theorem mends_live {Tab : World → Prop} (C : LiC Tab) (A : Option Addr) (n c : Nat) (k kind : Int) (w : World) (hT : Tab w) (hn : n ≤ 140737488351232) (_ : In12 k) (h : n < 5 ∨ 60 < n ∨ k < 33 ∨ 33 + 8 * (n : Int) ≤ k ∨ kind < 0 ∨ 3 < kind) :
    Calls Tryd.prog 6 #[.slice A n c, .int .i64 k, .int .i64 kind] w fun e w' => e = .returned (.bool true) ∧ Below w.heap.size w w' := by
  have HLV := Lib.hid (fun W (T : Below w.heap.size w W) => live12_any C W (C.keep _ _ hT T))
  by_cases h1 : n < 5
  · have d1 : decide ((n : Int) < 5) = true := by simp; omega
    clear h
    go_enter Tryd.func6, Tryd.ntmps6
    go_wp2_with (fail)
    refine (HLV.out _ (Below.refl _ _)).mono ?_
    rintro e w9 ⟨rfl, T9⟩
    go_wp2
    go_ret
    exact ⟨rfl, T9⟩
  · have d1 : decide ((n : Int) < 5) = false := by simp; omega
    by_cases h2 : 60 < n
    · have d2 : decide ((60 : Int) < (n : Int)) = true := by simp; omega
      clear h
      go_enter Tryd.func6, Tryd.ntmps6
      go_wp2_with (fail)
      refine (HLV.out _ (Below.refl _ _)).mono ?_
      rintro e w9 ⟨rfl, T9⟩
      go_wp2
      go_ret
      exact ⟨rfl, T9⟩
    · have d2 : decide ((60 : Int) < (n : Int)) = false := by simp; omega
      by_cases h3 : k < 33
      · have d3 : decide (k < 33) = true := by simpa using h3
        clear h
        go_enter Tryd.func6, Tryd.ntmps6
        go_wp2_with (fail)
        refine (HLV.out _ (Below.refl _ _)).mono ?_
        rintro e w9 ⟨rfl, T9⟩
        go_wp2
        go_ret
        exact ⟨rfl, T9⟩
      · have d3 : decide (k < 33) = false := by simpa using h3
        by_cases h4 : 33 + 8 * (n : Int) ≤ k
        · have d4 : decide (33 + 8 * (n : Int) ≤ k) = true := by simpa using h4
          clear h
          go_enter Tryd.func6, Tryd.ntmps6
          go_wp2_with (fail)
          refine (HLV.out _ (Below.refl _ _)).mono ?_
          rintro e w9 ⟨rfl, T9⟩
          go_wp2
          go_ret
          exact ⟨rfl, T9⟩
        · have d4 : decide (33 + 8 * (n : Int) ≤ k) = false := by simpa using h4
          by_cases h5 : kind < 0
          · have d5 : decide (kind < 0) = true := by simpa using h5
            clear h
            go_enter Tryd.func6, Tryd.ntmps6
            go_wp2_with (fail)
            refine (HLV.out _ (Below.refl _ _)).mono ?_
            rintro e w9 ⟨rfl, T9⟩
            go_wp2
            go_ret
            exact ⟨rfl, T9⟩
          · have d5 : decide (kind < 0) = false := by simpa using h5
            have d6 : decide (3 < kind) = true := by simp; omega
            clear h
            go_enter Tryd.func6, Tryd.ntmps6
            go_wp2_with (fail)
            refine (HLV.out _ (Below.refl _ _)).mono ?_
            rintro e w9 ⟨rfl, T9⟩
            go_wp2
            go_ret
            exact ⟨rfl, T9⟩
set_option maxHeartbeats 8000000 in
theorem walk_LineMends {Tab : World → Prop} (D : PhC) (C : LiC Tab) (A : Option Addr) (n c : Nat) (b : List UInt8) (k kind : Int) (w : World) (hT : Tab w) (hB : Bys w A n c b) (hn : n ≤ 140737488351232) (hk : In12 k) :
    Calls Tryd.prog 6 #[.slice A n c, .int .i64 k, .int .i64 kind] w fun e w' => e = .returned (.bool true) ∧ Below w.heap.size w w' := by
  by_cases h : n < 5 ∨ 60 < n ∨ k < 33 ∨ 33 + 8 * (n : Int) ≤ k ∨ kind < 0 ∨ 3 < kind
  · exact mends_live C A n c k kind w hT hn hk h
  · have HLV := Lib.hid (fun W (T : Below w.heap.size w W) => live12_any C W (C.keep _ _ hT T))
    have HNM := Lib.hid num12_any
    have HS := Lib.hid (C.send A n c b w hB hn hT)
    have HHE := Lib.hid (fun A n c l W (T : Below w.heap.size w W) h k => C.hear A n c l W h k (C.keep _ _ hT T))
    have hbl := hB.len
    have hs : sendB b = (pointsB (lineB b), 0) := by unfold sendB; rw [if_neg (by omega)]
    have hpl := line_points b (by omega)
    have hz : Uni (rotK kind (1, 1)) := uni_rotN (rest4 kind) (by unfold Uni; decide)
    have HTM := Lib.hid (fun W => times_any (1, 1) kind W (by decide))
    have HOF := Lib.hid (fun W => D.of_ (rotK kind (1, 1)) W (uni_mid hz))
    obtain ⟨q, rfl⟩ : ∃ q : Nat, k = (q : Int) := ⟨k.toNat, by omega⟩
    have HME := Lib.hid (line_mends b q (rotK kind (1, 1)) (by omega) (by omega) (by omega) (by omega) hz)
    have HBB := Lib.hid hB
    rw [hbl] at hpl
    rw [hs] at HS
    generalize pointsB (lineB b) = L at *
    generalize rotK kind (1, 1) = z at *
    obtain ⟨za, zb⟩ := z
    have HPL := Lib.hid hpl
    have hln : L.length ≤ 513 := by omega
    have hln2 : 33 + 8 * n ≤ L.length := by omega
    have d1 : decide ((n : Int) < 5) = false := by simp; omega
    have d2 : decide ((60 : Int) < (n : Int)) = false := by simp; omega
    have d3 : decide ((q : Int) < 33) = false := by simp; omega
    have d4 : decide (33 + 8 * (n : Int) ≤ (q : Int)) = false := by simp; omega
    have d5 : decide (kind < 0) = false := by simp; omega
    have d6 : decide (3 < kind) = false := by simp; omega
    have d7 : ((L.length : Int) != 33 + 8 * (n : Int)) = false := by simp; omega
    have i1 : (q : Int) < (L.length : Int) := by omega
    clear hs hbl hpl hz hB h
    go_enter Tryd.func6, Tryd.ntmps6
    go_wp2_with (fail)
    refine HS.out.mono ?_
    rintro e w1 ⟨v1, rfl, hown1, T1⟩
    obtain ⟨g, c1, rfl, hg1, hg2, hc1, hc2⟩ := hown1.form (by show 0 < L.length; omega)
    have HO1 := Lib.hid hown1
    simp only at hc1 ⊢
    clear hown1
    go_wp2_with (fail)
    refine (HNM.out _ _).mono ?_
    rintro e w2 ⟨rfl, rfl⟩
    go_wp2_with (fail)
    refine (HTM.out _).mono ?_
    rintro e w2 ⟨rfl, T2⟩
    have HO2 := Lib.hid (HO1.out.below T2)
    have T2 := nxt T1 T2
    go_wp2_with (fail)
    refine (HOF.out _).mono ?_
    rintro e w3 ⟨x, y, rfl, fx, fy, T3⟩
    have hon3 := (HO2.out.below ((Below.refl w2.heap.size w2).alloc (Nat.le_refl _) (.cells #[.int .i64 za, .int .i64 zb] 37))).below T3
    have T3 := nxt (T2.alloc T2.size _) T3
    obtain ⟨x2, y2, hcc, hff, -, -⟩ := hon3.cell q (by show q < L.length; omega)
    have HST := Lib.hid (hon3.stored q fx fy).1
    have s1 := fun (W : World) (m : Mode) => run_store Tryd.prog W ⟨g, q, none⟩ (.complex .f64 x y) m rfl
    have T4 := T3.setCell hg1 (p := ⟨g, q, none⟩) (.complex .f64 x y)
    clear hon3 fx fy
    have hon4 := HST.out
    have hcs4 : Cs (w3.setCell ⟨g, q, none⟩ (.complex .f64 x y)) (some ⟨g, 0, none⟩) L.length c1 (L.set q (za, zb)) := by
      obtain ⟨A4, c4, hv, hc4⟩ := hon4.shape
      rw [List.length_set] at hv hc4
      injection hv with e1 e2 e3
      subst e1; subst e3
      exact hc4
    have HC4 := Lib.hid hcs4
    clear hon4 hcs4 HST
    go_wp2_with (fail)
    refine (HHE.out _ _ _ _ _ T4 HC4.out (by omega)).mono ?_
    rintro e w5 ⟨r, A5, n5, c5, hr, rfl, hB5, T5⟩
    obtain ⟨m, hm⟩ := HME.out
    obtain rfl := hr.unique hm
    have HB5 := Lib.hid hB5
    have T5 := nxt T4 T5
    clear hr hm hB5
    go_wp2_with (fail)
    refine (HNM.out _ _).mono ?_
    rintro e w6 ⟨rfl, rfl⟩
    go_wp2_with (fail)
    refine (same_true A5 A n5 c5 n c b _ HB5.out (HBB.out.below T5)).mono ?_
    rintro e w7 ⟨rfl, T7⟩
    have T7 := nxt T5 T7
    go_wp2_with (fail)
    refine (HLV.out _ T7).mono ?_
    rintro e w9 ⟨rfl, T9⟩
    have T9 := nxt T7 T9
    go_wp2
    go_ret
    exact ⟨rfl, T9⟩
end Go.Proofs.YtkcpkfimmolkkaaDoor
