/- Package tally by its contracts; what layer 18's law's own live, alike answer over them. -/
import Derived.Test.YteeimfooaoaahaaRal
namespace Go.Proofs.Yteeimfooaoaahaa
open Go.RowKit
set_option maxRecDepth 20000

/-- rows that were told: in memory of their own, at no block of Y, that may be written -/
def LFre (w : World) (Y : Nat → Prop) (P : Option Addr) (n c : Nat) (l : List Tal) : Prop :=
  l.length = n ∧ n ≤ c ∧ c ≤ maxLen ∧ Av Y n P ∧ (0 < n → ∃ b o, P = some ⟨b, o, none⟩ ∧ b < w.heap.size ∧ ∀ j (h : j < l.length), ∃ A d, w.cell? ⟨b, o + j * 3, none⟩ = some (.int .i64 l[j].1) ∧ w.cell? ⟨b, o + j * 3 + 1, none⟩ = some (.slice A l[j].2.1.length d) ∧ w.cell? ⟨b, o + j * 3 + 2, none⟩ = some (.int .u64 (l[j].2.2 : Int)) ∧ Fre w (fun k => Y k ∨ k = b) A l[j].2.1.length d l[j].2.1)
theorem LFre.below {w w' : World} {Y : Nat → Prop} {P : Option Addr} {n c : Nat} {l : List Tal} (h : LFre w Y P n c l) (T : Below w.heap.size w w') : LFre w' Y P n c l :=
  ⟨h.1, h.2.1, h.2.2.1, h.2.2.2.1, fun hn => by
    obtain ⟨b, o, e, hb, hc⟩ := h.2.2.2.2 hn
    refine ⟨b, o, e, by have := T.size; omega, fun j hj => ?_⟩
    obtain ⟨A, d, k0, k1, k2, k3⟩ := hc j hj
    exact ⟨A, d, (T.cell (p := ⟨b, o + j * 3, none⟩) hb).trans k0, (T.cell (p := ⟨b, o + j * 3 + 1, none⟩) hb).trans k1, (T.cell (p := ⟨b, o + j * 3 + 2, none⟩) hb).trans k2, k3.below T⟩⟩
def GivesRows (w : World) (l : List Tal) (e : Ending) (w' : World) : Prop := ∃ P n c, e = .returned (.slice P n c) ∧ LFre w' (· < w.heap.size) P n c l ∧ Below w.heap.size w w'
/-- what package tally answers, in plain words: T g l w X: at block g lies a tally of the rows l; its blocks are X -/
structure TlC (T : Nat → List Tal → World → (Nat → Prop) → Prop) : Prop where
  holds : ∀ g l, Holds (T g l)
  new : ∀ w : World, Calls Try.prog 8 #[] w fun e w' => ∃ g X, e = .returned (.pointer (some ⟨g, 0, none⟩)) ∧ T g [] w' X ∧ (∀ k, X k → w.heap.size ≤ k) ∧ Below w.heap.size w w'
  add : ∀ (g : Nat) (l : List Tal) (a : Int) (A : Option Addr) (n c : Nat) (d : List UInt8) (w : World) (X : Nat → Prop), T g l w X → AlOk l → l.length < 1000 → alCount l a d < 1000000 → I64 a → Bys w A n c d → n ≤ 140737488355328 → Calls Try.prog 10 #[.pointer (some ⟨g, 0, none⟩), .int .i64 a, .slice A n c] w fun e w' => e = .returned (.int .u64 ((alCount l a d : Nat) + 1 : Int)) ∧ ∃ X', T g (alAdd l a d) w' X' ∧ Turns X X' w w'
  count : ∀ (g : Nat) (l : List Tal) (a : Int) (A : Option Addr) (n c : Nat) (d : List UInt8) (w : World) (X : Nat → Prop), T g l w X → AlOk l → I64 a → Bys w A n c d → n ≤ 140737488355328 → Calls Try.prog 16 #[.pointer (some ⟨g, 0, none⟩), .int .i64 a, .slice A n c] w fun e w' => e = .returned (.int .u64 ((alCount l a d : Nat) : Int)) ∧ Below w.heap.size w w'
  best : ∀ (g : Nat) (l : List Tal) (a : Int) (w : World) (X : Nat → Prop), T g l w X → AlOk l → I64 a → Calls Try.prog 12 #[.pointer (some ⟨g, 0, none⟩), .int .i64 a] w (GivesBest w l a)
  rows : ∀ (g : Nat) (l : List Tal) (w : World) (X : Nat → Prop), T g l w X → AlOk l → Calls Try.prog 18 #[.pointer (some ⟨g, 0, none⟩)] w (GivesRows w l)
  clear : ∀ (g : Nat) (l : List Tal) (w : World) (X : Nat → Prop), T g l w X → AlOk l → Calls Try.prog 9 #[.pointer (some ⟨g, 0, none⟩)] w fun e w' => e = .returned (.tuple #[]) ∧ ∃ X', T g [] w' X' ∧ Turns X X' w w'
  nadd : ∀ (a : Int) (A : Option Addr) (n c : Nat) (d : List UInt8) (w : World), Bys w A n c d → Calls Try.prog 10 #[.pointer none, .int .i64 a, .slice A n c] w fun e w' => e = .returned (.int .u64 0) ∧ Below w.heap.size w w'
  ncount : ∀ (a : Int) (A : Option Addr) (n c : Nat) (d : List UInt8) (w : World), Bys w A n c d → Calls Try.prog 16 #[.pointer none, .int .i64 a, .slice A n c] w fun e w' => e = .returned (.int .u64 0) ∧ Below w.heap.size w w'
  nbest : ∀ (a : Int) (w : World), Calls Try.prog 12 #[.pointer none, .int .i64 a] w (GivesBest w [] a)
  nrows : ∀ w : World, Calls Try.prog 18 #[.pointer none] w (GivesRows w [])
  nclear : ∀ w : World, Calls Try.prog 9 #[.pointer none] w fun e w' => e = .returned (.tuple #[]) ∧ Below w.heap.size w w'
theorem lit_f (w : World) (x : UInt8) : Bys (w.alloc (.cells #[.int .u8 (x.toNat : Int)] 5 (1, 2))) (some ⟨w.heap.size, 0, none⟩) 1 1 [x] := Bys.litf w [x] (1, 2) (by show 1 ≤ _; omega)
set_option maxHeartbeats 2000000 in
theorem live18_any {T : Nat → List Tal → World → (Nat → Prop) → Prop} (C : TlC T) (w : World) : Calls Try.prog 7 #[] w fun e w' => e = .returned (.bool true) ∧ Below w.heap.size w w' := by
  have hok : ∀ l : List Tal, l.length ≤ 4 → (∀ t ∈ l, t.2.2 ≤ 2 ∧ t.2.1.length ≤ 1) → AlOk l := fun l h1 h2 => ⟨by omega, fun t ht => by have := h2 t ht; omega⟩
  have H0 := Lib.hid (C.new w)
  have h1 := fun g A c W X (h : T g [] W X) (hB : Bys W A 1 c [97]) => C.add g [] 0 A 1 c [97] W X h (hok _ (by simp) (by simp)) (by simp) (by decide) ⟨by omega, by omega⟩ hB (by omega)
  rw [show alAdd [] 0 [97] = [(0, [97], 1)] from rfl] at h1
  have h2 := fun g A c W X (h : T g [(0, [97], 1)] W X) (hB : Bys W A 1 c [98]) => C.add g [(0, [97], 1)] 0 A 1 c [98] W X h (hok _ (by simp) (by simp)) (by simp) (by decide) ⟨by omega, by omega⟩ hB (by omega)
  rw [show alAdd [(0, [97], 1)] 0 [98] = [(0, [97], 1), (0, [98], 1)] by decide] at h2
  have h3 := fun g A c W X (h : T g [(0, [97], 1), (0, [98], 1)] W X) (hB : Bys W A 1 c [98]) => C.add g [(0, [97], 1), (0, [98], 1)] 0 A 1 c [98] W X h (hok _ (by simp) (by simp)) (by simp) (by decide) ⟨by omega, by omega⟩ hB (by omega)
  rw [show alAdd [(0, [97], 1), (0, [98], 1)] 0 [98] = [(0, [97], 1), (0, [98], 2)] by decide] at h3
  have h4 := fun g A c W X (h : T g [(0, [97], 1), (0, [98], 2)] W X) (hB : Bys W A 1 c [99]) => C.add g [(0, [97], 1), (0, [98], 2)] 1 A 1 c [99] W X h (hok _ (by simp) (by simp)) (by simp) (by decide) ⟨by omega, by omega⟩ hB (by omega)
  rw [show alAdd [(0, [97], 1), (0, [98], 2)] 1 [99] = [(0, [97], 1), (0, [98], 2), (1, [99], 1)] by decide] at h4
  have h5 := fun g W X (h : T g [(0, [97], 1), (0, [98], 2), (1, [99], 1)] W X) => C.best g _ 0 W X h (hok _ (by simp) (by simp)) ⟨by omega, by omega⟩
  have hbest : alBest [(0, [97], 1), (0, [98], 2), (1, [99], 1)] 0 = ([98], 2) := by decide
  have H1 := Lib.hid h1
  have H2 := Lib.hid h2
  have H3 := Lib.hid h3
  have H4 := Lib.hid h4
  have H5 := Lib.hid h5
  have HBE := Lib.hid hbest
  have kc := fun (w : World) (C : Array Value) (n c : Nat) => Lib.run_convert_bytes_const (P := Try.prog) w 23 5 C n c Try.underlying23 Try.underlying5
  clear h1 h2 h3 h4 h5 hok hbest
  go_enter Try.func7, Try.ntmps7
  go_wp2_with (fail)
  refine H0.out.mono ?_
  rintro e w1 ⟨g, X1, rfl, q1, x1, T1⟩
  have HT1 : Hid (OneAt w.heap.size (T g []) X1 w1) := ⟨q1, x1, T1.size⟩
  have HT1a := Lib.hid (HT1.out.below (C.holds _ _) ((Below.refl _ w1).alloc (Nat.le_refl _) (.cells #[.int .u8 97] 5 (1, 2))))
  have T1a := T1.alloc T1.size (.cells #[.int .u8 97] 5 (1, 2))
  clear q1 x1
  go_wp2_with (fail)
  refine (H1.out _ _ _ _ _ HT1a.out.p (lit_f w1 97)).mono ?_
  rintro e w2 ⟨rfl, X2, q2, t2⟩
  obtain ⟨k1, k2⟩ := HT1a.out.turn q2 t2
  have T2 := T1a.trans k2
  have HT2 := Lib.hid (k1.below (C.holds _ _) ((Below.refl _ w2).alloc (Nat.le_refl _) (.cells #[.int .u8 98] 5 (1, 2))))
  have T2a := T2.alloc T2.size (.cells #[.int .u8 98] 5 (1, 2))
  clear q2 t2 k1 k2 HT1 HT1a T1 T1a
  go_wp2_with (fail)
  refine (H2.out _ _ _ _ _ HT2.out.p (lit_f w2 98)).mono ?_
  rintro e w3 ⟨rfl, X3, q3, t3⟩
  obtain ⟨k1, k2⟩ := HT2.out.turn q3 t3
  have T3 := T2a.trans k2
  have HT3 := Lib.hid (k1.below (C.holds _ _) ((Below.refl _ w3).alloc (Nat.le_refl _) (.cells #[.int .u8 98] 5 (1, 2))))
  have T3a := T3.alloc T3.size (.cells #[.int .u8 98] 5 (1, 2))
  clear q3 t3 k1 k2 HT2 T2 T2a
  go_wp2_with (fail)
  refine (H3.out _ _ _ _ _ HT3.out.p (lit_f w3 98)).mono ?_
  rintro e w4 ⟨rfl, X4, q4, t4⟩
  obtain ⟨k1, k2⟩ := HT3.out.turn q4 t4
  have T4 := T3a.trans k2
  have HT4 := Lib.hid (k1.below (C.holds _ _) ((Below.refl _ w4).alloc (Nat.le_refl _) (.cells #[.int .u8 99] 5 (1, 2))))
  have T4a := T4.alloc T4.size (.cells #[.int .u8 99] 5 (1, 2))
  clear q4 t4 k1 k2 HT3 T3 T3a
  go_wp2_with (fail)
  refine (H4.out _ _ _ _ _ HT4.out.p (lit_f w4 99)).mono ?_
  rintro e w5 ⟨rfl, X5, q5, t5⟩
  obtain ⟨k1, k2⟩ := HT4.out.turn q5 t5
  have T5 := T4a.trans k2
  have HT5 := Lib.hid k1
  clear q5 t5 k1 k2 HT4 T4 T4a
  go_wp2_with (fail)
  refine (H5.out _ _ _ HT5.out.p).mono ?_
  rintro e w6 ⟨A, n, c, rfl, F6, T6⟩
  have T6 := nxt T5 T6
  rw [HBE.out] at F6
  have ks := conv_bys F6.1
  simp only [HBE.out]
  clear F6
  go_wp2
  go_ret
  exact ⟨rfl, T6⟩
set_option maxHeartbeats 4000000 in
theorem alike_any {T : Nat → List Tal → World → (Nat → Prop) → Prop} (C : TlC T) (ga gr : Nat) (l : List Tal) (w : World) (X Y : Nat → Prop) (hT : T ga l w X) (hR : RA gr l w Y) :
    Calls Try.prog 14 #[.pointer (some ⟨ga, 0, none⟩), .pointer (some ⟨gr, 0, none⟩)] w fun e w' => e = .returned (.bool true) ∧ Below w.heap.size w w' := by
  have H1 := Lib.hid (C.rows ga l w X hT hR.2.2.1)
  obtain ⟨P, cc, c0, hc1, hc2, kL⟩ := hR.cells
  have hgw := hR.2.1 gr hR.1
  have HA := Lib.hid kL
  obtain ⟨m, hm⟩ : ∃ m, l.length = m := ⟨_, rfl⟩
  have HLN := Lib.hid hm
  rw [hm] at c0 hc1
  clear kL hT hR hm
  go_enter Try.func14, Try.ntmps14
  go_wp2_with (fail)
  refine H1.out.mono ?_
  rintro e w1 ⟨P1, n1, d1, rfl, F1, T1⟩
  obtain rfl : m = n1 := by have := F1.1; have := HLN.out; omega
  have hd1 := F1.2.1
  have hd2 := F1.2.2.1
  unfold maxLen at hd2
  have HF := Lib.hid F1.2.2.2.2
  have e0 := (T1.cell (p := ⟨gr, 0, none⟩) hgw).trans c0
  have hgw1 : gr < w1.heap.size := Nat.lt_of_lt_of_le hgw T1.size
  have n0 : ((m : Int) != (m : Int)) = false := by simp
  clear F1
  go_wp2_with (fail)
  go_loopw [6] (fun i wr => ∃ k : Nat, k ≤ m ∧ i = .int .i64 (k : Int) ∧ Below w1.heap.size w1 wr) (fun i _ => m - (intOf i).toNat)
  case atStart => exact ⟨0, Nat.zero_le _, rfl, Below.refl _ _⟩
  case round =>
    obtain ⟨k, hk1, rfl, hbel⟩ := hrel
    by_cases hlt : k < m
    · have hkl : k < l.length := by rw [HLN.out]; exact hlt
      have d3 : (k : Int) < (m : Int) := by omega
      obtain ⟨b1, o1, rfl, hb1, hcl1⟩ := HF.out (by omega)
      obtain ⟨b2, rfl, hb2, hcl2⟩ := HA.out (by omega)
      obtain ⟨A1, q1, s0, s1, s2, sF⟩ := hcl1 k hkl
      obtain ⟨A2, q2, t0, t1, t2, tB⟩ := hcl2 k hkl
      have hb2w : b2 < w1.heap.size := Nat.lt_of_lt_of_le hb2 T1.size
      have r0 := (T1.cell (p := ⟨b2, k * 3, none⟩) hb2).trans t0
      have r1 := (T1.cell (p := ⟨b2, k * 3 + 1, none⟩) hb2).trans t1
      have r2 := (T1.cell (p := ⟨b2, k * 3 + 2, none⟩) hb2).trans t2
      have tB1 := tB.below T1
      clear hcl1 hcl2 t0 t1 t2 tB
      have sB := sF.1
      clear sF
      generalize l[k] = x at *
      obtain ⟨xa, xd, xn⟩ := x
      simp only at s0 s1 s2 r0 r1 r2 tB1 sB
      have HS := Lib.hid (fun W (U : Below w1.heap.size w1 W) => same_true A1 A2 xd.length q1 xd.length q2 xd W (sB.below U) (tB1.below U))
      have K := Lib.hid (fun W (U : Below w1.heap.size w1 W) => And.intro ((U.cell (p := ⟨gr, 0, none⟩) hgw1).trans e0) (And.intro ((U.cell (p := ⟨b1, o1 + k * 3, none⟩) hb1).trans s0) (And.intro ((U.cell (p := ⟨b1, o1 + k * 3 + 1, none⟩) hb1).trans s1) (And.intro ((U.cell (p := ⟨b1, o1 + k * 3 + 2, none⟩) hb1).trans s2) (And.intro ((U.cell (p := ⟨b2, k * 3, none⟩) hb2w).trans r0) (And.intro ((U.cell (p := ⟨b2, k * 3 + 1, none⟩) hb2w).trans r1) ((U.cell (p := ⟨b2, k * 3 + 2, none⟩) hb2w).trans r2)))))))
      have m1 : (xa != xa) = false := by simp
      have m2 : ((xn : Int) != (xn : Int)) = false := by simp
      have Z0 := hbel.drew
      clear s0 s1 s2 r0 r1 r2 tB1 sB
      generalize xd.length = L at *
      go_wp2_with (fail)
      go_region_held3 (fun w' => w'.cell? ⟨gr, 0, none⟩ = some (.slice (some ⟨b2, 0, none⟩) m cc) ∧ w'.cell? ⟨b1, o1 + k * 3, none⟩ = some (.int .i64 xa) ∧ w'.cell? ⟨b1, o1 + k * 3 + 1, none⟩ = some (.slice A1 L q1) ∧ w'.cell? ⟨b1, o1 + k * 3 + 2, none⟩ = some (.int .u64 (xn : Int)) ∧ w'.cell? ⟨b2, k * 3, none⟩ = some (.int .i64 xa) ∧ w'.cell? ⟨b2, k * 3 + 1, none⟩ = some (.slice A2 L q2) ∧ w'.cell? ⟨b2, k * 3 + 2, none⟩ = some (.int .u64 (xn : Int))) (first | exact K.out _ hbel | exact K.out _ Z0 | exact K.out _ Z1)
        (first
          | (go_at_call 15; (with_reducible refine (HS.out _ Z0).mono ?_); rintro e z1 ⟨rfl, V1⟩; have Z1 := nxt Z0 V1))
      all_goals
        go_wp2_with (fail)
        go_roundw
        case rel => exact ⟨k + 1, by omega, by go_num, Z1⟩
        case measure => simp [intOf]; omega
    · have d3 : ¬ ((k : Int) < (m : Int)) := by omega
      have hb6 := nxt T1 hbel
      go_wp2
      go_ret
      exact ⟨rfl, hb6⟩
end Go.Proofs.Yteeimfooaoaahaa
