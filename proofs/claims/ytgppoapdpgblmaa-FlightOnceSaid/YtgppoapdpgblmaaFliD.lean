/- Layer 16's law's own acts as an argument; whether they are few. -/
import Derived.Test.YtgppoapdpgblmaaFliA
import Derived.Test.YtgppoapdpgblmaaRecs
namespace Go.Proofs.Ytgppoapdpgblmaa
open Go.RowKit
set_option maxRecDepth 20000

abbrev Act16 := Int × Int × Int × List UInt8 × List Ed
def rdAct16 (w : World) (b o : Nat) (x : Act16) : Prop := (I64 x.1 ∧ I64 x.2.1 ∧ I64 x.2.2.1) ∧ ∃ A c E ce, w.cell? ⟨b, o, none⟩ = some (.int .i64 x.1) ∧ w.cell? ⟨b, o + 1, none⟩ = some (.int .i64 x.2.1) ∧ w.cell? ⟨b, o + 2, none⟩ = some (.int .i64 x.2.2.1) ∧ w.cell? ⟨b, o + 3, none⟩ = some (.slice A x.2.2.2.1.length c) ∧ w.cell? ⟨b, o + 4, none⟩ = some (.slice E x.2.2.2.2.length ce) ∧
  Bys w A x.2.2.2.1.length c x.2.2.2.1 ∧ Eds w E x.2.2.2.2.length ce x.2.2.2.2
theorem keeps16 : Keeps rdAct16 := fun _ _ b o _ hb T ⟨h0, A, c, E, ce, h1, h2, h3, h4, h5, h6, h7⟩ => ⟨h0, A, c, E, ce, (T.cell (p := ⟨b, o, none⟩) hb).trans h1, (T.cell (p := ⟨b, o + 1, none⟩) hb).trans h2, (T.cell (p := ⟨b, o + 2, none⟩) hb).trans h3, (T.cell (p := ⟨b, o + 3, none⟩) hb).trans h4, (T.cell (p := ⟨b, o + 4, none⟩) hb).trans h5, h6.below T, h7.below T⟩
def short16 (x : Act16) : Bool := decide (x.2.2.2.1.length ≤ 600) && decide (x.2.2.2.2.length ≤ 20)
def few16 (l : List Act16) : Bool := (l.take 100).all short16 && decide (l.length ≤ 60)
theorem few16_of {l : List Act16} (h : few16 l = true) : l.length ≤ 60 ∧ ∀ j (h : j < l.length), l[j].2.2.2.2.length ≤ 20 := by
  unfold few16 at h
  rw [Bool.and_eq_true, decide_eq_true_eq] at h
  refine ⟨h.2, fun j hj => ?_⟩
  have h1 := List.all_eq_true.1 h.1 l[j] (by
    rw [List.take_of_length_le (by omega)]
    exact List.getElem_mem hj)
  unfold short16 at h1
  rw [Bool.and_eq_true, decide_eq_true_eq, decide_eq_true_eq] at h1
  exact h1.2
set_option maxHeartbeats 2000000 in
theorem few16_any (A : Option Addr) (n c : Nat) (l : List Act16) (w : World) (hR : Recs rdAct16 5 w A n c l) :
    Calls Try.prog 6 #[.slice A n c] w fun e w' => e = .returned (.bool (few16 l)) ∧ Below w.heap.size w w' := by
  have hl := hR.1
  have hnc := hR.2.1
  have hcm := hR.2.2.1
  unfold maxLen at hcm
  have HC := Lib.hid hR.2.2.2
  have HLN := Lib.hid hl
  obtain ⟨r, hr⟩ : ∃ r, few16 l = r := ⟨_, rfl⟩
  have HR := Lib.hid hr
  rw [hr]
  clear hR hl hr
  go_enter Try.func6, Try.ntmps6
  go_wp2_with (fail)
  go_loopw [3] (fun i wr => ∃ k : Nat, k ≤ n ∧ k ≤ 100 ∧ i = .int .i64 (k : Int) ∧ Hid ((l.take k).all short16 = true) ∧ Below w.heap.size w wr) (fun i _ => n - (intOf i).toNat)
  case atStart => exact ⟨0, Nat.zero_le _, Nat.zero_le _, rfl, rfl, Below.refl _ _⟩
  case round =>
    obtain ⟨k, hk, hk2, rfl, HK, hbel⟩ := hrel
    by_cases hlt : k < n ∧ k < 100
    · have d1 : decide ((k : Int) < (n : Int)) = true := by simp; omega
      have d2 : decide ((k : Int) < 100) = true := by simp; omega
      have hkl : k < l.length := by rw [HLN.out]; exact hlt.1
      obtain ⟨b, o, rfl, hb, hc⟩ := HC.out (by omega)
      obtain ⟨_, A', c', E', ce', q0, q1, q2, q3, q4, q5, q6⟩ := hc k hkl
      have c3 := (hbel.cell (p := ⟨b, o + k * 5 + 3, none⟩) hb).trans q3
      have c4 := (hbel.cell (p := ⟨b, o + k * 5 + 4, none⟩) hb).trans q4
      have ht : l.take (k + 1) = l.take k ++ [l[k]] := List.take_succ_eq_append_getElem hkl
      have HT : Hid ((l.take (k + 1)).all short16 = short16 l[k]) := by
        show _ = _
        rw [ht, List.all_append, HK.out]
        simp
      have HH : Hid (short16 l[k] = false → few16 l = false) := fun h => by
        unfold few16
        rw [Bool.and_eq_false_iff]
        refine .inl (List.all_eq_false.2 ⟨l[k], ?_, by rw [h]; simp⟩)
        exact List.mem_iff_getElem.2 ⟨k, by simp; omega, by simp⟩
      have hsh : short16 l[k] = (decide (l[k].2.2.2.1.length ≤ 600) && decide (l[k].2.2.2.2.length ≤ 20)) := rfl
      clear hc q0 q1 q2 q3 q4 ht
      rw [hsh] at HT HH
      clear hsh
      have hl5 := q5.le
      have hm5 := q5.cap
      have hl6 := q6.2.1
      have hm6 := q6.2.2.1
      unfold maxLen at hm6
      clear q5 q6
      generalize l[k].2.2.2.1.length = L at *
      generalize l[k].2.2.2.2.length = M at *
      by_cases h1 : L ≤ 600
      · have d3 : decide ((600 : Int) < (L : Int)) = false := by simp; omega
        by_cases h2 : M ≤ 20
        · have d4 : decide ((20 : Int) < (M : Int)) = false := by simp; omega
          have e := HT.out
          rw [decide_eq_true h1, decide_eq_true h2] at e
          have HT2 := Lib.hid e
          clear e HT HH h1 h2
          go_wp2
          go_roundw
          case rel => exact ⟨k + 1, by omega, by omega, by go_num, HT2.out, hbel⟩
          case measure => simp [intOf]; omega
        · have d4 : decide ((20 : Int) < (M : Int)) = true := by simp; omega
          have e := HH.out (by rw [decide_eq_false h2]; simp)
          rw [HR.out] at e
          subst e
          go_wp2
          go_ret
          exact ⟨rfl, hbel⟩
      · have d3 : decide ((600 : Int) < (L : Int)) = true := by simp; omega
        have e := HH.out (by rw [decide_eq_false h1]; simp)
        rw [HR.out] at e
        subst e
        go_wp2
        go_ret
        exact ⟨rfl, hbel⟩
    · have e : r = decide ((n : Int) ≤ 60) := by
        rw [← HR.out]
        unfold few16
        have h9 : (l.take 100).all short16 = true := by
          rw [← HK.out]
          congr 1
          rcases Nat.lt_or_ge k 100 with h | h
          · rw [List.take_of_length_le (show l.length ≤ k by rw [HLN.out]; omega), List.take_of_length_le (show l.length ≤ 100 by rw [HLN.out]; omega)]
          · rw [show k = 100 by omega]
        rw [h9, Bool.true_and, HLN.out]
        rw [decide_eq_decide]
        omega
      obtain ⟨t, ht⟩ : ∃ t, decide ((n : Int) ≤ 60) = t := ⟨_, rfl⟩
      rw [ht] at e
      subst e
      by_cases h1 : k < n
      · have d1 : decide ((k : Int) < (n : Int)) = true := by simp; omega
        have d2 : decide ((k : Int) < 100) = false := by simp; omega
        clear hlt
        cases r
        all_goals
          go_wp2
          go_ret
          exact ⟨rfl, hbel⟩
      · have d1 : decide ((k : Int) < (n : Int)) = false := by simp; omega
        clear hlt
        cases r
        all_goals
          go_wp2
          go_ret
          exact ⟨rfl, hbel⟩
/-- what is known of a state behind j acts -/
def SOk (j : Nat) (s : Fs) : Prop := s.s0 ≤ j ∧ s.s1 ≤ j ∧ s.gone + s.l0.length + s.l1.length ≤ s.s0 + s.s1
theorem SOk.put {j : Nat} {s : Fs} (h : SOk j s) (d : Int) (b : List UInt8) : SOk (j + 1) (fsPut s d b) := by
  obtain ⟨h1, h2, h3⟩ := h
  have hk : ∀ life sent l, (fsKeep life sent l).length ≤ l.length := fun life sent l => by
    unfold fsKeep
    split
    · exact Nat.le_refl _
    · exact prune_le _ _ _
  unfold fsPut
  split
  · split
    · have := hk s.life (s.s0 + 1) (s.l0 ++ [(s.s0 + 1, b, b)])
      simp at this
      unfold fsPut0 SOk
      simp only
      omega
    · have := hk s.life (s.s1 + 1) (s.l1 ++ [(s.s1 + 1, b, b)])
      simp at this
      unfold fsPut1 SOk
      simp only
      omega
  · exact ⟨by omega, by omega, h3⟩
theorem SOk.take {j : Nat} {s : Fs} (h : SOk j s) (d i : Int) : SOk (j + 1) (fsTake s d i) := by
  obtain ⟨h1, h2, h3⟩ := h
  unfold fsTake
  split
  · split
    · have := erase_le s.l0 i.toNat
      unfold SOk
      simp only
      omega
    · have := erase_le s.l1 i.toNat
      unfold SOk
      simp only
      omega
  · exact ⟨by omega, by omega, h3⟩
theorem SOk.spoil {j : Nat} {s : Fs} (h : SOk j s) (d i : Int) (es : List Ed) : SOk (j + 1) (fsSpoil s d i es) := by
  obtain ⟨h1, h2, h3⟩ := h
  have hl : ∀ l i, (spoilL l i es).length = l.length := fun l i => by unfold spoilL; rw [List.length_set]
  unfold fsSpoil
  split
  · split
    · unfold SOk
      simp only [hl]
      omega
    · unfold SOk
      simp only [hl]
      omega
  · exact ⟨by omega, by omega, h3⟩
theorem SOk.more {j : Nat} {s : Fs} (h : SOk j s) : SOk (j + 1) s := ⟨by have := h.1; omega, by have := h.2.1; omega, h.2.2⟩
theorem SOk.new (life : Nat) : SOk 0 ⟨life, 0, [], 0, [], 0⟩ := ⟨Nat.le_refl _, Nat.le_refl _, Nat.le_refl _⟩
/-- what came in lies at no block of an object that was made behind it -/
theorem av_in {w : World} {A : Option Addr} {n c : Nat} {b : List UInt8} {X : Nat → Prop} (h : Bys w A n c b) (hX : ∀ k, X k → w.heap.size ≤ k) : Av X n A := fun hn p e hx => by
  obtain ⟨k, o, e', hb, _⟩ := h.at_ hn
  rw [e] at e'
  injection e' with e'
  subst e'
  have := hX _ hx
  simp at this
  omega
theorem row5c {w : World} {g : Nat} {a b c d e : Value} {t : TypeId} (h : w.heap[g]? = some (.cells #[a, b, c, d, e] t (0, 0))) : w.cell? ⟨g, 1, none⟩ = some b ∧ w.cell? ⟨g, 2, none⟩ = some c ∧ w.cell? ⟨g, 3, none⟩ = some d ∧ w.cell? ⟨g, 4, none⟩ = some e :=
  ⟨cell_of_row _ _ _ _ _ _ h, cell_of_row _ _ _ _ _ _ h, cell_of_row _ _ _ _ _ _ h, cell_of_row _ _ _ _ _ _ h⟩
end Go.Proofs.Ytgppoapdpgblmaa
