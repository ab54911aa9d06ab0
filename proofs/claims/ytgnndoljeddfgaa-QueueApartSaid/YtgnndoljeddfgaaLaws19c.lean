/- The walk of layer 19's QueueApart, over the contracts of queue. -/
import Derived.Test.YtgnndoljeddfgaaLn19
import Derived.Deep.RegionHeld3
import Derived.IntWalk
namespace Go.Proofs.Ytgnndoljeddfgaa
open Go.RowKit
set_option maxRecDepth 20000
theorem Fre.first {w : World} {Y : Nat → Prop} {A : Option Addr} {n c : Nat} {l : List UInt8} (h : Fre w Y A n c l) (hn : 0 < n) : ∃ (b o x : Nat), A = some ⟨b, o, none⟩ ∧ ¬ Y b ∧ b < w.heap.size ∧ w.cell? ⟨b, o, none⟩ = some (.int .u8 (x : Int)) ∧ x < 256 ∧ w.frozen? ⟨b, o, none⟩ = false := by
  obtain ⟨b, o, rfl, hf⟩ := h.2.2 hn
  obtain ⟨b', o', e, hb, hc⟩ := h.1.at_ hn
  injection e with e
  injection e with e1 e2
  subst e1 e2
  have hl := h.1.len
  exact ⟨b, o, (l[0]'(by omega)).toNat, rfl, h.2.1 hn _ rfl, hb, by simpa using hc 0 (by omega), (l[0]'(by omega)).toNat_lt, hf 0 hn⟩
theorem setCell_size (w : World) (p : Addr) (v : Value) : (w.setCell p v).heap.size = w.heap.size := by simp [World.setCell]
set_option maxHeartbeats 1000000 in
theorem walk_QueueApart {Q : Nat → Nat → List (List UInt8) → World → (Nat → Prop) → Prop} (C : QuC Q) (A : Option Addr) (n c : Nat) (m : List UInt8) (w : World) (hB : Bys w A n c m) :
    Calls Try.prog 5 #[.slice A n c] w fun e w' => e = .returned (.bool true) ∧ Below w.heap.size w w' := by
  have HL := Lib.hid (fun W => live19_any C W)
  have HN := Lib.hid num19_any
  have hml := hB.len
  by_cases hn : n = 0 ∨ 64 < n
  · have G1 := Lib.hid C.npop
    have G2 := Lib.hid C.nfront
    have G3 := Lib.hid (fun W (T : Below w.heap.size w W) => C.npush A n c m W (hB.below T))
    have G4 := Lib.hid C.nlen
    have G5 := Lib.hid C.nfree
    have G6 := Lib.hid C.nall
    clear hB
    rcases hn with hn | hn
    · subst hn
      go_enter Try.func5, Try.ntmps5
      go_wp2_with (fail)
      refine (G1.out _).mono ?_
      rintro e w1 ⟨rfl, T1⟩
      go_wp2_with (fail)
      refine (G2.out _).mono ?_
      rintro e w2 ⟨rfl, T2⟩
      have T2 := nxt T1 T2
      go_wp2_with (fail)
      with_reducible refine (G3.out _ T2).mono ?_
      rintro e w3 ⟨rfl, T3⟩
      have T3 := nxt T2 T3
      go_wp2_with (fail)
      refine (HN.out _ _).mono ?_
      rintro e w3' ⟨rfl, rfl⟩
      go_wp2_with (fail)
      refine (G4.out _).mono ?_
      rintro e w4 ⟨rfl, T4⟩
      have T4 := nxt T3 T4
      go_wp2_with (fail)
      refine (G5.out _).mono ?_
      rintro e w5 ⟨rfl, T5⟩
      have T5 := nxt T4 T5
      go_wp2_with (fail)
      refine (G6.out _).mono ?_
      rintro e w6 ⟨P6, c6, rfl, T6⟩
      have T6 := nxt T5 T6
      go_wp2_with (fail)
      refine (HL.out _).mono ?_
      rintro e w7 ⟨rfl, T7⟩
      have T7 := nxt T6 T7
      go_wp2
      go_ret
      exact ⟨rfl, T7⟩
    · have d1 : ((n : Int) == 0) = false := by simp; omega
      have d2 : decide ((64 : Int) < (n : Int)) = true := by simp; omega
      have d3 : (64 : Int) < (n : Int) := by omega
      clear hn
      go_enter Try.func5, Try.ntmps5
      go_wp2_with (fail)
      refine (G1.out _).mono ?_
      rintro e w1 ⟨rfl, T1⟩
      go_wp2_with (fail)
      refine (G2.out _).mono ?_
      rintro e w2 ⟨rfl, T2⟩
      have T2 := nxt T1 T2
      go_wp2_with (fail)
      with_reducible refine (G3.out _ T2).mono ?_
      rintro e w3 ⟨rfl, T3⟩
      have T3 := nxt T2 T3
      go_wp2_with (fail)
      refine (HN.out _ _).mono ?_
      rintro e w3' ⟨rfl, rfl⟩
      go_wp2_with (fail)
      refine (G4.out _).mono ?_
      rintro e w4 ⟨rfl, T4⟩
      have T4 := nxt T3 T4
      go_wp2_with (fail)
      refine (G5.out _).mono ?_
      rintro e w5 ⟨rfl, T5⟩
      have T5 := nxt T4 T5
      go_wp2_with (fail)
      refine (G6.out _).mono ?_
      rintro e w6 ⟨P6, c6, rfl, T6⟩
      have T6 := nxt T5 T6
      go_wp2_with (fail)
      refine (HL.out _).mono ?_
      rintro e w7 ⟨rfl, T7⟩
      have T7 := nxt T6 T7
      go_wp2
      go_ret
      exact ⟨rfl, T7⟩
  · have hn0 : 0 < n := by omega
    have hn64 : n ≤ 64 := by omega
    have G1 := Lib.hid (C.new_yes 2 w (by decide) (by decide))
    have G2 := Lib.hid (fun W (T : Below w.heap.size w W) => rcopy_any A n c m W (hB.below T) (by omega))
    have g3 := fun g W X A' c' h hA => C.push g 2 [] A' n c' m W X h hA
    rw [show quPushE 2 [] n = 0 by unfold quPushE; rw [if_neg (by omega), if_neg (by simp)], show quPush 2 [] m = [m] by unfold quPush quPushE; rw [if_neg (by omega : ¬ 64 < m.length), if_neg (by simp : ¬ 2 ≤ ([] : List (List UInt8)).length)]; simp] at g3
    have G3 := Lib.hid g3
    have g4 := fun g W X h => C.front g 2 [m] W X h
    simp only [List.isEmpty_cons, Bool.not_false, List.headD_cons] at g4
    have G4 := Lib.hid g4
    have G5 := Lib.hid (fun g W X h => C.all g 2 [m] W X h)
    have g6 := fun g W X h => C.pop g 2 [m] W X h
    simp only [List.isEmpty_cons, Bool.not_false, List.headD_cons, List.tail_cons] at g6
    have G6 := Lib.hid g6
    have HB := Lib.hid (fun W (T : Below w.heap.size w W) => hB.below T)
    have HML := Lib.hid hml
    have d1 : ((n : Int) == 0) = false := by simp; omega
    have d2 : decide ((64 : Int) < (n : Int)) = false := by simp; omega
    have d3 : ¬ ((64 : Int) < (n : Int)) := by omega
    clear hB g3 g4 g6 hn hml
    go_enter Try.func5, Try.ntmps5
    go_wp2_with (fail)
    refine G1.out.mono ?_
    rintro e w1 ⟨ga, X0, rfl, q1, x1, T1⟩
    have Q1 := Lib.hid q1
    have hlt1 := (C.holds _ _ _).lt q1
    clear q1
    go_wp2_with (fail)
    refine (G2.out _ T1).mono ?_
    rintro e w2 ⟨v1, rfl, hw2, U2⟩
    rw [HML.out] at hw2
    obtain ⟨A1, cA, rfl⟩ := own_shape hw2
    have F2 := Fre.of_own hw2
    obtain ⟨g1, o1, x, rfl, hg1, hg1w, k1, hx, k2⟩ := F2.first hn0
    have T2 := nxt T1 U2
    have Q2 := Lib.hid ((C.holds _ _ _).below Q1.out U2)
    have BA := Lib.hid F2.1
    have hgx : ¬ X0 g1 := fun h => hg1 (hlt1 _ h)
    clear hw2 F2 Q1
    go_wp2_with (fail)
    with_reducible refine (G3.out _ _ _ _ _ Q2.out BA.out).mono ?_
    rintro e w3 ⟨rfl, X1, q3, t3⟩
    have c3 := (t3.off.cell (p := ⟨g1, o1, none⟩) hg1w hgx).trans k1
    have f3 := (frozen_of_block (t3.off.block g1 hg1w hgx) o1).trans k2
    have hgx1 : ¬ X1 g1 := fun h => (t3.grow g1 h).elim hgx (fun h => by omega)
    have x3 : ∀ k, X1 k → w.heap.size ≤ k := fun k hk => (t3.grow k hk).elim (x1 k) (fun h => Nat.le_trans T2.size h)
    have T3 := T2.trans (t3.off.below x1 T2.size)
    have hg1B : w.heap.size ≤ g1 := by have := T1.size; omega
    have hlt3 := (C.holds _ _ _).lt q3
    have hs3 := t3.off.size
    have HE : Hid (∀ v, Q ga 2 [m] (w3.setCell ⟨g1, o1, none⟩ v) X1 ∧ Below w.heap.size w (w3.setCell ⟨g1, o1, none⟩ v)) := fun v =>
      ⟨(C.holds _ _ _).off q3 ((Off.refl (· = g1) w3).setCell (p := ⟨g1, o1, none⟩) (.inl rfl) v) (fun k hk e => hgx1 (e ▸ hk)), T3.trans (((Off.refl (· = g1) w3).setCell (p := ⟨g1, o1, none⟩) (.inl rfl) v).below (fun k hk => by subst hk; exact hg1B) T3.size)⟩
    clear q3 t3 k1 k2 BA Q2 hg1 hgx x1 hlt1 hgx1 hg1B
    go_wp2_with (fail)
    with_reducible refine (G4.out _ _ _ (HE.out _).1).mono ?_
    rintro e w4 ⟨A2, n2, c2, rfl, f4, T4⟩
    have Q4 := Lib.hid ((C.holds _ _ _).below (HE.out _).1 T4)
    have T4w := nxt (HE.out _).2 T4
    rw [setCell_size] at f4
    have hs4 := T4.size
    rw [setCell_size] at hs4
    obtain rfl : n2 = n := by have := f4.1.len; have := HML.out; omega
    have B4 := Lib.hid f4.1
    obtain ⟨g2, o2, y, rfl, hg2, hg2w, k1, hy, k2⟩ := f4.first hn0
    clear f4 T4 HE c3 f3 T3
    go_wp2_with (fail)
    with_reducible refine (G5.out _ _ _ Q4.out).mono ?_
    rintro e w5 ⟨P5, n5, c5, rfl, f5, T5⟩
    obtain rfl : 1 = n5 := f5.1
    have hc5 := f5.2.1
    obtain ⟨b5, o5, rfl, hb5, hc⟩ := f5.2.2.2.2 (by omega)
    have av5 := f5.2.2.2.1 (by omega) _ rfl
    obtain ⟨A6, d6, j1, j2⟩ := hc 0 (by simp)
    simp only [List.getElem_cons_zero, Nat.add_zero] at j1 j2
    rw [HML.out] at j1 j2
    obtain ⟨g6, o6, z, rfl, hg6, hg6w, k3, hz, k4⟩ := j2.first hn0
    have hd6 := j2.1.le
    have T5w := nxt T4w T5
    have i1 := T1.size
    have i2 := U2.size
    simp only at av5
    have hg2B : w.heap.size ≤ g2 := by have := T2.size; omega
    have hg6B : w.heap.size ≤ g6 := by have := T4w.size; omega
    have hg6b : g6 ≠ b5 := fun e => hg6 (.inr e)
    have hg26 : g2 ≠ g6 := fun e => hg6 (.inl (e ▸ hg2w))
    have hg2b : g2 ≠ b5 := fun e => av5 (e ▸ hg2w)
    have hn2 : ¬ X1 g2 := fun h => hg2 (hlt3 _ h)
    have hn6 : ¬ X1 g6 := fun h => hg6 (.inl (by have := hlt3 _ h; omega))
    have B5 := Lib.hid (fun W (T : Below w5.heap.size w5 W) => And.intro ((B4.out.below T5).below T) (And.intro (j2.1.below T) (HB.out W (nxt T5w T))))
    have K := Lib.hid (fun W (T : Below w5.heap.size w5 W) => And.intro ((T.cell (p := ⟨b5, o5, none⟩) hb5).trans j1) (And.intro (((nxt T5 T).cell (p := ⟨g2, o2, none⟩) hg2w).trans k1) (And.intro ((frozen_of_block ((nxt T5 T).block g2 hg2w) o2).trans k2) (And.intro ((T.cell (p := ⟨g6, o6, none⟩) hg6w).trans k3) ((frozen_of_block (T.block g6 hg6w) o6).trans k4)))))
    have HE : Hid (∀ W (_ : Below w5.heap.size w5 W) v v', Q ga 2 [m] ((W.setCell ⟨g2, o2, none⟩ v).setCell ⟨g6, o6, none⟩ v').drew X1 ∧ Below w.heap.size w ((W.setCell ⟨g2, o2, none⟩ v).setCell ⟨g6, o6, none⟩ v').drew) := fun W T v v' => by
      have O : Off (fun k => k = g2 ∨ k = g6) W ((W.setCell ⟨g2, o2, none⟩ v).setCell ⟨g6, o6, none⟩ v').drew := (((Off.refl _ W).setCell (p := ⟨g2, o2, none⟩) (.inl (.inl rfl)) v).setCell (p := ⟨g6, o6, none⟩) (.inl (.inr rfl)) v').drew
      refine ⟨(C.holds _ _ _).off ((C.holds _ _ _).below Q4.out (nxt T5 T)) O (fun k hk h => ?_), ?_⟩
      · rcases h with rfl | rfl
        · exact hn2 hk
        · exact hn6 hk
      · have TW := nxt T5w T
        refine TW.trans (O.below (fun k h => ?_) TW.size)
        rcases h with rfl | rfl
        · exact hg2B
        · exact hg6B
    have P5 := Below.refl w5.heap.size w5
    obtain ⟨kc, kg2, kf2, kg6, kf6⟩ := K.out _ P5
    clear Q4 B4 f5 hc j1 j2 k1 k2 k3 k4 hg2 hg6 hlt3 hn2 hn6 hg2B hg6B av5 i1 i2 hs4 hg2w hg6w T5w T4w T5 U2 T2 T1 hg1w hs3
    clear kc kg2 kf2 kg6 kf6
    go_wp2_with (fail)
    refine (same_true _ _ _ _ _ _ m w5 (B5.out _ P5).1 (B5.out _ P5).2.2).mono ?_
    rintro e w6 ⟨rfl, T6⟩
    have P6 := nxt P5 T6
    obtain ⟨kc, _, _, _, _⟩ := K.out _ P6
    go_wp2_with (fail)
    refine (same_true _ _ _ _ _ _ m w6 (B5.out _ P6).2.1 (B5.out _ P6).2.2).mono ?_
    rintro e w7 ⟨rfl, T7⟩
    have P7 := nxt P6 T7
    obtain ⟨kc, kg2, kf2, kg6, kf6⟩ := K.out _ P7
    go_wp2_with (fail)
    go_region
    go_wp2_with (fail)
    with_reducible refine (G6.out _ _ _ (HE.out _ P7 _ _).1).mono ?_
    rintro e w8 ⟨A8, n8, c8, X8, rfl, f8, -, -, t8⟩
    have hb8 := (HE.out _ P7 _ _).2.trans (t8.off.below x3 (HE.out _ P7 _ _).2.size)
    have B8 := Lib.hid f8.1
    clear f8 t8
    go_wp2_with (fail)
    refine (same_true _ _ _ _ _ _ m w8 B8.out (HB.out _ hb8)).mono ?_
    rintro e w9 ⟨rfl, T9⟩
    have hb9 := nxt hb8 T9
    go_wp2_with (fail)
    refine (HL.out _).mono ?_
    rintro e w10 ⟨rfl, T10⟩
    have hb10 := nxt hb9 T10
    go_wp2
    go_ret
    exact ⟨rfl, hb10⟩
end Go.Proofs.Ytgnndoljeddfgaa
