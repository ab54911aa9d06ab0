/- Layer 18's own messages that are told, as an argument; whether they are too many; a new tally of the document's own. -/
import Derived.Test.YteeimfooaoaahaaTlC
import Derived.Test.YteeimfooaoaahaaRecs
namespace Go.Proofs.Yteeimfooaoaahaa
open Go.RowKit
set_option maxRecDepth 20000

abbrev Tld := Int × List UInt8 × Bool
def rdTold18 (w : World) (b o : Nat) (x : Tld) : Prop := (I64 x.1 ∧ x.2.1.length ≤ 140737488351232) ∧ ∃ A c, w.cell? ⟨b, o, none⟩ = some (.int .i64 x.1) ∧ w.cell? ⟨b, o + 1, none⟩ = some (.slice A x.2.1.length c) ∧ w.cell? ⟨b, o + 2, none⟩ = some (.bool x.2.2) ∧ Bys w A x.2.1.length c x.2.1
theorem keeps18 : Keeps rdTold18 := fun _ _ b o _ hb T ⟨h0, A, c, h1, h2, h3, h4⟩ => ⟨h0, A, c, (T.cell (p := ⟨b, o, none⟩) hb).trans h1, (T.cell (p := ⟨b, o + 1, none⟩) hb).trans h2, (T.cell (p := ⟨b, o + 2, none⟩) hb).trans h3, h4.below T⟩
def sumT (l : List Tld) : Nat := (l.map fun x => x.2.1.length).sum
theorem sumT_take (l : List Tld) (k : Nat) (h : k < l.length) : sumT (l.take (k + 1)) = sumT (l.take k) + l[k].2.1.length := by
  unfold sumT
  rw [List.take_succ_eq_append_getElem h, List.map_append, List.sum_append]
  simp
def huge18 (l : List Tld) : Bool := decide (100 < l.length) || decide (4000 < sumT (l.take 200))
set_option maxHeartbeats 2000000 in
theorem huge18_any (A : Option Addr) (n c : Nat) (l : List Tld) (w : World) (hR : Recs rdTold18 3 w A n c l) :
    Calls Try.prog 6 #[.slice A n c] w fun e w' => e = .returned (.bool (huge18 l)) ∧ Below w.heap.size w w' := by
  have hl := hR.1
  have hnc := hR.2.1
  have hcm := hR.2.2.1
  unfold maxLen at hcm
  have HC := Lib.hid hR.2.2.2
  have HLN := Lib.hid hl
  obtain ⟨r, hr⟩ : ∃ r, huge18 l = r := ⟨_, rfl⟩
  have HR := Lib.hid hr
  rw [hr]
  clear hR hl hr
  go_enter Try.func6, Try.ntmps6
  go_wp2_with (fail)
  go_loopw [3, 4] (fun s i wr => ∃ k S : Nat, k ≤ n ∧ k ≤ 200 ∧ S ≤ k * 140737488351232 ∧ s = .int .i64 (S : Int) ∧ i = .int .i64 (k : Int) ∧ Hid (sumT (l.take k) = S) ∧ Below w.heap.size w wr) (fun _ i _ => n - (intOf i).toNat)
  case atStart => exact ⟨0, 0, Nat.zero_le _, Nat.zero_le _, by omega, rfl, rfl, rfl, Below.refl _ _⟩
  case round =>
    obtain ⟨k, S, hk, hk2, hS, rfl, rfl, HK, hbel⟩ := hrel
    by_cases hlt : k < n ∧ k < 200
    · have d1 : decide ((k : Int) < (n : Int)) = true := by simp; omega
      have d2 : decide ((k : Int) < 200) = true := by simp; omega
      have hkl : k < l.length := by rw [HLN.out]; exact hlt.1
      obtain ⟨b, o, rfl, hb, hc⟩ := HC.out (by omega)
      obtain ⟨⟨_, hm0⟩, A', c', q0, q1, q2, q3⟩ := hc k hkl
      have c1 := (hbel.cell (p := ⟨b, o + k * 3 + 1, none⟩) hb).trans q1
      have HS := Lib.hid (sumT_take l k hkl)
      clear hc q0 q1 q2 q3
      generalize l[k].2.1.length = m at *
      have hS2 : S + m ≤ (k + 1) * 140737488351232 := by omega
      obtain ⟨Z, hZ⟩ : ∃ Z, S + m = Z := ⟨_, rfl⟩
      have HZ : Hid (sumT (l.take (k + 1)) = Z) := by show _ = _; rw [HS.out, HK.out, hZ]
      have eZ : (S : Int) + (m : Int) = (Z : Int) := by omega
      have hZ2 : Z ≤ (k + 1) * 140737488351232 := by omega
      clear hZ hS2
      go_wp2
      go_roundw
      case rel => exact ⟨k + 1, Z, by omega, by omega, hZ2, rfl, by go_num, HZ, hbel⟩
      case measure => simp [intOf]; omega
    · have HE : Hid (sumT (l.take 200) = S) := by
        show _ = _
        rw [← HK.out]
        rcases Nat.lt_or_ge k 200 with h | h
        · rw [List.take_of_length_le (show l.length ≤ k by rw [HLN.out]; omega), List.take_of_length_le (show l.length ≤ 200 by rw [HLN.out]; omega)]
        · rw [show k = 200 by omega]
      have HF : Hid (r = (decide ((100 : Int) < (n : Int)) || decide ((4000 : Int) < (S : Int)))) := by
        show _ = _
        rw [← HR.out]
        unfold huge18
        rw [HE.out, HLN.out]
        congr 1
        · rw [decide_eq_decide]; omega
        · rw [decide_eq_decide]; omega
      obtain ⟨t1, d3⟩ : ∃ t, decide ((100 : Int) < (n : Int)) = t := ⟨_, rfl⟩
      obtain ⟨t2, d4⟩ : ∃ t, decide ((4000 : Int) < (S : Int)) = t := ⟨_, rfl⟩
      have HF2 : Hid (r = (t1 || t2)) := by show _ = _; rw [HF.out, d3, d4]
      by_cases h1 : k < n
      · have d1 : decide ((k : Int) < (n : Int)) = true := by simp; omega
        have d2 : decide ((k : Int) < 200) = false := by simp; omega
        clear HF hlt
        cases t1 <;> cases t2
        all_goals
          go_wp2
          go_ret
          exact ⟨by rw [HF2.out]; rfl, hbel⟩
      · have d1 : decide ((k : Int) < (n : Int)) = false := by simp; omega
        clear HF hlt
        cases t1 <;> cases t2
        all_goals
          go_wp2
          go_ret
          exact ⟨by rw [HF2.out]; rfl, hbel⟩
/-- how many there may be behind j of them -/
def TOk (j : Nat) (l : List Tal) : Prop := l.length ≤ j ∧ ∀ t ∈ l, t.2.2 ≤ j ∧ t.2.1.length ≤ 140737488355328 ∧ I64 t.1
theorem TOk.ok {j : Nat} {l : List Tal} (h : TOk j l) (hj : j ≤ 1000) : AlOk l := ⟨by have := h.1; omega, fun t ht => ⟨by have := (h.2 t ht).1; omega, (h.2 t ht).2.1⟩⟩
theorem TOk.lab {j : Nat} {l : List Tal} (h : TOk j l) (i : Nat) (hi : i < l.length) : I64 l[i].1 := (h.2 _ (List.getElem_mem hi)).2.2
theorem TOk.count {j : Nat} {l : List Tal} (h : TOk j l) (a : Int) (d : List UInt8) : alCount l a d ≤ j := by
  unfold alCount
  cases hk : l[alAt l a d]? with
  | none => exact Nat.zero_le _
  | some t => exact (h.2 t (List.mem_of_getElem? hk)).1
theorem TOk.add {j : Nat} {l : List Tal} (h : TOk j l) (a : Int) (d : List UInt8) (hd : d.length ≤ 140737488355328) (ha : I64 a) : TOk (j + 1) (alAdd l a d) := by
  have hc := h.count a d
  unfold alAdd
  split
  · refine ⟨by rw [List.length_set]; have := h.1; omega, fun t ht => ?_⟩
    rcases List.mem_or_eq_of_mem_set ht with h1 | rfl
    · have := h.2 t h1; exact ⟨by omega, this.2⟩
    · exact ⟨by show _ + 1 ≤ _; omega, hd, ha⟩
  · refine ⟨by rw [List.length_append]; have := h.1; simp; omega, fun t ht => ?_⟩
    rcases List.mem_append.1 ht with h1 | h1
    · have := h.2 t h1; exact ⟨by omega, this.2⟩
    · rw [List.mem_singleton] at h1
      subst h1
      exact ⟨by show 1 ≤ _; omega, hd, ha⟩
theorem TOk.nil (j : Nat) : TOk j [] := ⟨Nat.zero_le _, fun t h => by cases h⟩
theorem ra_zero (W : World) : RA W.heap.size [] (W.alloc (.cells #[.slice none 0 0] 31)) (· = W.heap.size) := by
  exact ⟨rfl, fun k hk => by subst hk; simp, TOk.ok (TOk.nil 0) (by omega), .slice none 0 0, heap_alloc_new W _, OwnA.nil _ _ _, fun k hk => by simp [Value.ownBlock] at hk⟩
def GivesBst (w : World) (b : List UInt8) (n : Nat) (e : Ending) (w' : World) : Prop := ∃ A k c, e = .returned (.tuple #[.slice A k c, .int .u64 (n : Int)]) ∧ Fre w' (· < w.heap.size) A k c b ∧ Below w.heap.size w w'
end Go.Proofs.Yteeimfooaoaahaa
