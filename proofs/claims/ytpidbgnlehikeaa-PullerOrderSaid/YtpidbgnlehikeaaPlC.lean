/- Package puller by its contracts; what layer 25's law's own num, huge answer over them. -/
import Derived.Test.YtpidbgnlehikeaaRpl6
import Derived.Test.YtpidbgnlehikeaaRecs
import Derived.Test.YtpidbgnlehikeaaQuC
import Derived.Test.YtpidbgnlehikeaaIntZ
namespace Go.Proofs.Ytpidbgnlehikeaa
open Go.RowKit
set_option maxRecDepth 20000

/-- a call's end that makes a message, packets in new memory, and turns an object -/
def GivesRx (F : World → (Nat → Prop) → Prop) (X : Nat → Prop) (m : List UInt8) (l : List Sld) (b : Bool) (w : World) (e : Ending) (w' : World) : Prop := ∃ A n c P k j X', e = .returned (.tuple #[.slice A n c, .slice P k j, .bool b]) ∧ Bys w' A n c m ∧ Av X' n A ∧ (0 < n → ∀ p, A = some p → X p.block ∨ w.heap.size ≤ p.block) ∧ Sls w' (fun k => X' k ∨ k < w.heap.size) P k j l ∧ F w' X' ∧ Turns X X' w w'
def plAhead (s : Pls) : List Int := s.late.map (fun t => (t.1 : Int))
/-- what package puller answers, in plain words: F g s w X: at block g lies a receiver in the state s; its blocks are X -/
structure PlC (F : Nat → Pls → World → (Nat → Prop) → Prop) : Prop where
  holds : ∀ g s, Holds (F g s)
  new_no : ∀ (c : Cfg) (w : World), CfI c → plNew c ≠ 0 → Calls Try.prog 8 #[cfgV c] w fun e w' => e = .returned (.tuple #[.pointer none, .int .i64 (plNew c)]) ∧ Below w.heap.size w w'
  new_yes : ∀ (c : Cfg) (w : World), CfI c → plNew c = 0 → Calls Try.prog 8 #[cfgV c] w fun e w' => ∃ g X, e = .returned (.tuple #[.pointer (some ⟨g, 0, none⟩), .int .i64 0]) ∧ F g ⟨c, [], [], 0, 0⟩ w' X ∧ (∀ k, X k → w.heap.size ≤ k) ∧ Below w.heap.size w w'
  take : ∀ (g : Nat) (s : Pls) (a : Bool) (sq : Int) (u : Nat) (A : Option Addr) (n c : Nat) (d : List UInt8) (w : World) (X : Nat → Prop), F g s w X → PlOk s → s.ent ≤ 200000 → I64 sq → u < 18446744073709551616 → Bys w A n c d → Av X n A → Calls Try.prog 12 #[.pointer (some ⟨g, 0, none⟩), .agg #[.bool a, .int .i64 sq, .int .u64 (u : Int), .slice A n c]] w (GivesSls (F g (plTake s a sq d)) X (plTakeL s a sq d) w)
  recv : ∀ (g : Nat) (s : Pls) (w : World) (X : Nat → Prop), F g s w X → PlOk s → s.ent ≤ 200000 → Calls Try.prog 14 #[.pointer (some ⟨g, 0, none⟩)] w (GivesRx (F g (plRecv s)) X (s.ls.headD []) (plRecvL s) (!s.ls.isEmpty) w)
  state : ∀ (g : Nat) (s : Pls) (w : World) (X : Nat → Prop), F g s w X → Calls Try.prog 17 #[.pointer (some ⟨g, 0, none⟩)] w fun e w' => e = .returned (.agg #[.int .i64 (s.ent : Int), .int .i64 (s.ret : Int)]) ∧ Below w.heap.size w w'
  kept : ∀ (g : Nat) (s : Pls) (w : World) (X : Nat → Prop), F g s w X → PlOk s → Calls Try.prog 20 #[.pointer (some ⟨g, 0, none⟩)] w fun e w' => ∃ P n c, e = .returned (.slice P n c) ∧ RFre w' (· < w.heap.size) P n c s.ls ∧ Below w.heap.size w w'
  ahead : ∀ (g : Nat) (s : Pls) (w : World) (X : Nat → Prop), F g s w X → PlOk s → Calls Try.prog 18 #[.pointer (some ⟨g, 0, none⟩)] w fun e w' => ∃ A n c, e = .returned (.slice A n c) ∧ Zs w' A n c (plAhead s) ∧ Below w.heap.size w w'
  ntake : ∀ (a : Bool) (sq : Int) (u : Nat) (A : Option Addr) (n c : Nat) (d : List UInt8) (w : World), I64 sq → u < 18446744073709551616 → Bys w A n c d → Calls Try.prog 12 #[.pointer none, .agg #[.bool a, .int .i64 sq, .int .u64 (u : Int), .slice A n c]] w fun e w' => ∃ P k, e = .returned (.slice P 0 k) ∧ Below w.heap.size w w'
  nrecv : ∀ (w : World), Calls Try.prog 14 #[.pointer none] w fun e w' => ∃ v u, e = .returned (.tuple #[v, u, .bool false]) ∧ Below w.heap.size w w'
  nstate : ∀ (w : World), Calls Try.prog 17 #[.pointer none] w fun e w' => e = .returned (.agg #[.int .i64 0, .int .i64 0]) ∧ Below w.heap.size w w'
  nkept : ∀ (w : World), Calls Try.prog 20 #[.pointer none] w fun e w' => ∃ P k, e = .returned (.slice P 0 k) ∧ Below w.heap.size w w'
  nahead : ∀ (w : World), Calls Try.prog 18 #[.pointer none] w fun e w' => ∃ P k, e = .returned (.slice P 0 k) ∧ Below w.heap.size w w'
/-- the document's own, in the same words -/
theorem rltake_p (g : Nat) (s : Pls) (a : Bool) (sq : Int) (u : Nat) (A : Option Addr) (n c : Nat) (d : List UInt8) (w : World) (X : Nat → Prop) (h : RL g s w X) (hb : s.ent ≤ 200000) (hB : Bys w A n c d) :
    Calls Try.prog 13 #[.pointer (some ⟨g, 0, none⟩), .agg #[.bool a, .int .i64 sq, .int .u64 (u : Int), .slice A n c]] w (GivesSls (RL g (plTake s a sq d)) X (plTakeL s a sq d) w) := by
  obtain ⟨hok, gq, v, Xq, Xl, hv, rfl⟩ := h
  refine (rltake_any g gq v s Xq Xl a sq u A n c d w hv hok hb hB).mono ?_
  rintro e w' ⟨vo, v', Xq', Xl', rfl, hO, hR, t⟩
  obtain ⟨A', c', rfl, hS⟩ := hO.sls
  exact ⟨A', _, c', _, rfl, hS, ⟨(hok.take a sq d).1, gq, v', Xq', Xl', hR, rfl⟩, t⟩
theorem rlrecv_p (g : Nat) (s : Pls) (w : World) (X : Nat → Prop) (h : RL g s w X) (hb : s.ent ≤ 200000) :
    Calls Try.prog 15 #[.pointer (some ⟨g, 0, none⟩)] w fun e w' => ∃ A n c P k j X', e = .returned (.tuple #[.slice A n c, .slice P k j, .bool (!s.ls.isEmpty)]) ∧ Bys w' A n c (s.ls.headD []) ∧ Sls w' (fun k => X' k ∨ k < w.heap.size) P k j (plRecvL s) ∧ RL g (plRecv s) w' X' ∧ Turns X X' w w' := by
  obtain ⟨hok, gq, v, Xq, Xl, hv, rfl⟩ := h
  refine (rlrecv_any g gq v s Xq Xl w hv hok hb).mono ?_
  rintro e w' ⟨A, n, c, vo, v', Xq', Xl', rfl, hB, hO, hR, t⟩
  obtain ⟨A', c', rfl, hS⟩ := hO.sls
  exact ⟨A, n, c, A', _, c', _, rfl, hB, hS, ⟨hok.recv.1, gq, v', Xq', Xl', hR, rfl⟩, t⟩
/-- how far it may have come -/
def PlFew (j : Nat) (s : Pls) : Prop := PlOk s ∧ s.ent ≤ 64 * j
theorem PlFew.new {c : Cfg} (h : plNew c = 0) : PlFew 0 ⟨c, [], [], 0, 0⟩ := ⟨PlOk.new h, Nat.zero_le _⟩
theorem PlFew.more {j : Nat} {s : Pls} (h : PlFew j s) : PlFew (j + 1) s := ⟨h.1, by have := h.2; omega⟩
theorem PlFew.take {j : Nat} {s : Pls} (h : PlFew j s) (a : Bool) (sq : Int) (m : List UInt8) : PlFew (j + 1) (plTake s a sq m) := ⟨(h.1.take a sq m).1, by have := (h.1.take a sq m).2.2.1; have := h.2; omega⟩
theorem PlFew.recv {j : Nat} {s : Pls} (h : PlFew j s) : PlFew (j + 1) (plRecv s) := ⟨h.1.recv.1, by have := h.1.recv.2.2.1; have := h.2; omega⟩
theorem num25_any (e : Int) (w : World) : Calls Try.prog 10 #[.int .i64 e] w fun e' w' => e' = .returned (.int .i64 e) ∧ w = w' := by
  go_enter Try.func10, Try.ntmps10
  go_wp2
  go_ret
  exact ⟨rfl, rfl⟩
/-- an act: its kind, the packet -/
abbrev Act25 := Int × Sld
def rdAct25 (w : World) (b o : Nat) (x : Act25) : Prop := (I64 x.1 ∧ I64 x.2.2.1 ∧ x.2.2.2.1 < 18446744073709551616) ∧ ∃ D d, w.cell? ⟨b, o, none⟩ = some (.int .i64 x.1) ∧ w.cell? ⟨b, o + 1, none⟩ = some (.bool x.2.1) ∧ w.cell? ⟨b, o + 2, none⟩ = some (.int .i64 x.2.2.1) ∧ w.cell? ⟨b, o + 3, none⟩ = some (.int .u64 (x.2.2.2.1 : Int)) ∧ w.cell? ⟨b, o + 4, none⟩ = some (.slice D x.2.2.2.2.length d) ∧ Bys w D x.2.2.2.2.length d x.2.2.2.2
theorem keeps25 : Keeps rdAct25 := fun _ _ b o _ hb T ⟨h0, D, d, h1, h2, h3, h4, h5, h6⟩ => ⟨h0, D, d, (T.cell (p := ⟨b, o, none⟩) hb).trans h1, (T.cell (p := ⟨b, o + 1, none⟩) hb).trans h2, (T.cell (p := ⟨b, o + 2, none⟩) hb).trans h3, (T.cell (p := ⟨b, o + 3, none⟩) hb).trans h4, (T.cell (p := ⟨b, o + 4, none⟩) hb).trans h5, h6.below T⟩
def long25 (x : Act25) : Bool := decide (200 < x.2.2.2.2.length)
def huge25 (l : List Act25) : Bool := decide (100 < l.length) || (l.take 200).any long25
set_option maxHeartbeats 4000000 in
theorem huge25_any (A : Option Addr) (n c : Nat) (l : List Act25) (w : World) (hR : Recs rdAct25 5 w A n c l) :
    Calls Try.prog 6 #[.slice A n c] w fun e w' => e = .returned (.bool (huge25 l)) ∧ Below w.heap.size w w' := by
  have hl := hR.1
  have hnc := hR.2.1
  have hcm := hR.2.2.1
  unfold maxLen at hcm
  have HC := Lib.hid hR.2.2.2
  have HLN := Lib.hid hl
  obtain ⟨r, hr⟩ : ∃ r, huge25 l = r := ⟨_, rfl⟩
  have HR := Lib.hid hr
  rw [hr]
  clear hR hl hr
  go_enter Try.func6, Try.ntmps6
  go_wp2_with (fail)
  go_loopw [3] (fun i wr => ∃ k : Nat, k ≤ n ∧ k ≤ 200 ∧ i = .int .i64 (k : Int) ∧ Hid ((l.take k).any long25 = false) ∧ Below w.heap.size w wr) (fun i _ => n - (intOf i).toNat)
  case atStart => exact ⟨0, Nat.zero_le _, Nat.zero_le _, rfl, rfl, Below.refl _ _⟩
  case round =>
    obtain ⟨k, hk, hk2, rfl, HK, hbel⟩ := hrel
    by_cases hlt : k < n ∧ k < 200
    · have d1 : decide ((k : Int) < (n : Int)) = true := by simp; omega
      have d2 : decide ((k : Int) < 200) = true := by simp; omega
      have hkl : k < l.length := by rw [HLN.out]; exact hlt.1
      obtain ⟨b, o, rfl, hb, hc⟩ := HC.out (by omega)
      obtain ⟨-, D', d', -, -, -, -, q5, qD⟩ := hc k hkl
      have e5 := (hbel.cell (p := ⟨b, o + k * 5 + 4, none⟩) hb).trans q5
      have ht : l.take (k + 1) = l.take k ++ [l[k]] := List.take_succ_eq_append_getElem hkl
      have hlen2 := qD.le
      have hkn : (k : Int) < (n : Int) := by omega
      have HT : Hid ((l.take (k + 1)).any long25 = long25 l[k]) := by
        show _ = _
        rw [ht, List.any_append, HK.out]
        simp
      have HH : Hid (long25 l[k] = true → huge25 l = true) := fun h => by
        unfold huge25
        rw [Bool.or_eq_true]
        refine .inr (List.any_eq_true.2 ⟨l[k], ?_, h⟩)
        exact List.mem_iff_getElem.2 ⟨k, by simp; omega, by simp⟩
      have HLG : Hid (long25 l[k] = decide (200 < l[k].2.2.2.2.length)) := rfl
      clear hc q5 ht qD
      generalize long25 l[k] = lg at *
      generalize l[k].2.2.2.2.length = M at *
      by_cases h2 : 200 < M
      · have d4 : decide ((200 : Int) < (M : Int)) = true := by simp; omega
        have e := HH.out (by rw [HLG.out]; simpa using h2)
        rw [HR.out] at e
        subst e
        go_wp2
        go_ret
        exact ⟨rfl, hbel⟩
      · have d4 : decide ((200 : Int) < (M : Int)) = false := by simp; omega
        have e := HT.out
        rw [HLG.out, show decide (200 < M) = false by simpa using h2] at e
        have HT2 := Lib.hid e
        clear e HT HH HLG
        go_wp2
        go_roundw
        case rel => exact ⟨k + 1, by omega, by omega, by go_num, HT2.out, hbel⟩
        case measure => simp [intOf]; omega
    · have e : r = decide (100 < n) := by
        rw [← HR.out]
        unfold huge25
        rw [HLN.out]
        by_cases h3 : 100 < n
        · rw [show decide (100 < n) = true by simpa using h3, Bool.true_or]
        · have h4 : l.take 200 = l.take k := by rw [List.take_of_length_le (by rw [HLN.out]; omega), List.take_of_length_le (by rw [HLN.out]; omega)]
          rw [h4, HK.out, Bool.or_false]
      subst e
      by_cases h1 : k < n
      · have d1 : decide ((k : Int) < (n : Int)) = true := by simp; omega
        have d2 : decide ((k : Int) < 200) = false := by simp; omega
        have d3 : decide ((100 : Int) < (n : Int)) = true := by simp; omega
        have d4 : decide (100 < n) = true := by simp; omega
        have HD4 := Lib.hid d4
        clear HR d4
        go_wp2
        go_ret
        exact ⟨ret_bool HD4.out.symm, hbel⟩
      · have d1 : decide ((k : Int) < (n : Int)) = false := by simp; omega
        have d4 : decide ((100 : Int) < (n : Int)) = decide (100 < n) := by rw [decide_eq_decide]; omega
        clear HR
        go_wp2
        go_ret
        exact ⟨rfl, hbel⟩
theorem huge25_few {l : List Act25} (h : huge25 l = false) : l.length ≤ 100 := by
  unfold huge25 at h
  rw [Bool.or_eq_false_iff] at h
  simpa using h.1
end Go.Proofs.Ytpidbgnlehikeaa
