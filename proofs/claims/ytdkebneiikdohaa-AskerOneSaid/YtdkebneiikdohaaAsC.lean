/- Package asker by its contracts; what layer 27's law's own num, huge answer. -/
import Derived.Test.YtdkebneiikdohaaAskM
import Derived.Test.YtdkebneiikdohaaNoC
import Derived.Test.YtdkebneiikdohaaRecs
namespace Go.Proofs.Ytdkebneiikdohaa
open Go.RowKit
set_option maxRecDepth 20000

/-- what Send answers: a number, packets that avoid the object and all that was there, an error -/
def GivesSdT (F : World → (Nat → Prop) → Prop) (X : Nat → Prop) (N E : Nat) (tl : List Tok) (w : World) (e : Ending) (w' : World) : Prop := ∃ B m d X', e = .returned (.tuple #[.int .i64 (N : Int), .slice B m d, .int .i64 (E : Int)]) ∧ Tks w' (fun k => X' k ∨ k < w.heap.size) B m d tl ∧ F w' X' ∧ Turns X X' w w'
/-- what package asker answers, in plain words: A g gs s w X: at block g lies an asker in the state s; its source (S) lies at block gs; X are the blocks of both; split: what is its own, and the source, which another one may draw from -/
structure AsC (S : Nat → List Nat → Nat → World → (Nat → Prop) → Prop) (A : Nat → Nat → Ass → World → (Nat → Prop) → Prop) : Prop where
  holds : ∀ g gs s, Holds (A g gs s)
  src : ∀ (g gs : Nat) (s : Ass) (w : World) (X : Nat → Prop), A g gs s w X → ∃ Xs, S gs s.l s.k w Xs ∧ ∀ k, Xs k → X k
  split : ∀ (g gs : Nat) (s : Ass), ∃ Q : World → (Nat → Prop) → Prop, Holds Q ∧ (∀ (w : World) (X : Nat → Prop), A g gs s w X → ∃ Xo Xs, Q w Xo ∧ S gs s.l s.k w Xs ∧ (∀ k, Xo k → ¬ Xs k) ∧ X = fun k => Xo k ∨ Xs k) ∧ ∀ (w : World) (Xo Xs : Nat → Prop) (k' : Nat), Q w Xo → S gs s.l k' w Xs → (∀ k, Xo k → ¬ Xs k) → A g gs { s with k := k' } w (fun k => Xo k ∨ Xs k)
  new_no : ∀ (c : Cfg) (gs : Nat) (l : List Nat) (k : Nat) (w : World) (Xs : Nat → Prop), CfI c → asNew c ≠ 0 → S gs l k w Xs → Calls Try.prog 4 #[cfgV c, .pointer (some ⟨gs, 0, none⟩)] w fun e w' => e = .returned (.tuple #[.pointer none, .int .i64 (asNew c)]) ∧ Below w.heap.size w w'
  new_yes : ∀ (c : Cfg) (gs : Nat) (l : List Nat) (k : Nat) (w : World) (Xs : Nat → Prop), CfI c → asNew c = 0 → S gs l k w Xs → (∀ x ∈ l, x < 18446744073709551616) → Calls Try.prog 4 #[cfgV c, .pointer (some ⟨gs, 0, none⟩)] w fun e w' => ∃ g X, e = .returned (.tuple #[.pointer (some ⟨g, 0, none⟩), .int .i64 0]) ∧ A g gs (as0 c l k) w' X ∧ Turns Xs X w w'
  send : ∀ (g gs : Nat) (s : Ass) (P : Option Addr) (n c : Nat) (m : List UInt8) (w : World) (X : Nat → Prop), A g gs s w X → AsOk s → s.k < 1000000 → Bys w P n c m → Av X n P → Calls Try.prog 10 #[.pointer (some ⟨g, 0, none⟩), .slice P n c] w (GivesSdT (A g gs (asSend s m)) X (asSendN s n) (quPushE s.room s.ls n) (asSendL s n) w)
  poll : ∀ (g gs : Nat) (s : Ass) (i : Int) (w : World) (X : Nat → Prop), A g gs s w X → AsOk s → I64 i → Calls Try.prog 13 #[.pointer (some ⟨g, 0, none⟩), .int .i64 i] w fun e w' => e = .returned (.tuple #[.int .i64 (asPoll s i), .int .i64 (asPollE s i)]) ∧ Below w.heap.size w w'
  tick : ∀ (g gs : Nat) (s : Ass) (w : World) (X : Nat → Prop), A g gs s w X → AsOk s → Calls Try.prog 11 #[.pointer (some ⟨g, 0, none⟩)] w (GivesTks (A g gs (asTick s)) X (asTickL s) w)
  take : ∀ (g gs : Nat) (s : Ass) (kd : Int) (T C R : Nat) (P : Option Addr) (n c : Nat) (d : List UInt8) (w : World) (X : Nat → Prop), A g gs s w X → AsOk s → s.k < 1000000 → s.told.length < 1000000 → I64 kd → T < 18446744073709551616 → C < 18446744073709551616 → R < 18446744073709551616 → Bys w P n c d → Av X n P → Calls Try.prog 12 #[.pointer (some ⟨g, 0, none⟩), .agg #[.int .i64 kd, .int .u64 (T : Int), .int .u64 (C : Int), .int .u64 (R : Int), .slice P n c]] w (GivesTks (A g gs (asTake s kd T R)) X (asTakeL s kd T C R) w)
  state : ∀ (g gs : Nat) (s : Ass) (w : World) (X : Nat → Prop), A g gs s w X → AsOk s → Calls Try.prog 9 #[.pointer (some ⟨g, 0, none⟩)] w fun e w' => e = .returned (.agg #[.int .i64 (asAcc s : Int), .int .i64 (s.told.length : Int), .int .u64 (s.t : Int), .int .u64 (s.r : Int), .bool s.bound]) ∧ Below w.heap.size w w'
theorem num27_any (e : Int) (w : World) : Calls Try.prog 7 #[.int .i64 e] w fun e' w' => e' = .returned (.int .i64 e) ∧ w = w' := by
  go_enter Try.func7, Try.ntmps7
  go_wp2
  go_ret
  exact ⟨rfl, rfl⟩
/-- an act: its kind, a number, a message, a packet -/
abbrev Act27 := Int × Int × List UInt8 × Tok
def rdAct27 (w : World) (b o : Nat) (x : Act27) : Prop := (I64 x.1 ∧ I64 x.2.1 ∧ I64 x.2.2.2.1 ∧ x.2.2.2.2.1 < 18446744073709551616 ∧ x.2.2.2.2.2.1 < 18446744073709551616 ∧ x.2.2.2.2.2.2.1 < 18446744073709551616) ∧ ∃ A c A' c', w.cell? ⟨b, o, none⟩ = some (.int .i64 x.1) ∧ w.cell? ⟨b, o + 1, none⟩ = some (.int .i64 x.2.1) ∧ w.cell? ⟨b, o + 2, none⟩ = some (.slice A x.2.2.1.length c) ∧ Bys w A x.2.2.1.length c x.2.2.1 ∧ w.cell? ⟨b, o + 3, none⟩ = some (.int .i64 x.2.2.2.1) ∧ w.cell? ⟨b, o + 4, none⟩ = some (.int .u64 (x.2.2.2.2.1 : Int)) ∧ w.cell? ⟨b, o + 5, none⟩ = some (.int .u64 (x.2.2.2.2.2.1 : Int)) ∧ w.cell? ⟨b, o + 6, none⟩ = some (.int .u64 (x.2.2.2.2.2.2.1 : Int)) ∧ w.cell? ⟨b, o + 7, none⟩ = some (.slice A' x.2.2.2.2.2.2.2.length c') ∧ Bys w A' x.2.2.2.2.2.2.2.length c' x.2.2.2.2.2.2.2
theorem keeps27 : Keeps rdAct27 := fun _ _ b o _ hb T ⟨h0, A, c, A', c', h1, h2, h3, h4, h5, h6, h7, h8, h9, h10⟩ => ⟨h0, A, c, A', c', (T.cell (p := ⟨b, o, none⟩) hb).trans h1, (T.cell (p := ⟨b, o + 1, none⟩) hb).trans h2, (T.cell (p := ⟨b, o + 2, none⟩) hb).trans h3, h4.below T, (T.cell (p := ⟨b, o + 3, none⟩) hb).trans h5, (T.cell (p := ⟨b, o + 4, none⟩) hb).trans h6, (T.cell (p := ⟨b, o + 5, none⟩) hb).trans h7, (T.cell (p := ⟨b, o + 6, none⟩) hb).trans h8, (T.cell (p := ⟨b, o + 7, none⟩) hb).trans h9, h10.below T⟩
def long27 (x : Act27) : Bool := decide (200 < x.2.2.1.length) || decide (200 < x.2.2.2.2.2.2.2.length)
def huge27 (l : List Act27) (m : Nat) : Bool := (l.take 200).any long27 || (decide (100 < l.length) || decide (200 < m))
set_option maxHeartbeats 4000000 in
theorem huge27_any (A : Option Addr) (n c : Nat) (l : List Act27) (P : Option Addr) (m d : Nat) (w : World) (hR : Recs rdAct27 8 w A n c l) :
    Calls Try.prog 6 #[.slice A n c, .slice P m d] w fun e w' => e = .returned (.bool (huge27 l m)) ∧ Below w.heap.size w w' := by
  have hl := hR.1
  have hnc := hR.2.1
  have hcm := hR.2.2.1
  unfold maxLen at hcm
  have HC := Lib.hid hR.2.2.2
  have HLN := Lib.hid hl
  obtain ⟨r, hr⟩ : ∃ r, huge27 l m = r := ⟨_, rfl⟩
  have HR := Lib.hid hr
  rw [hr]
  clear hR hl hr
  go_enter Try.func6, Try.ntmps6
  go_wp2_with (fail)
  go_loopw [5] (fun i wr => ∃ k : Nat, k ≤ n ∧ k ≤ 200 ∧ i = .int .i64 (k : Int) ∧ Hid ((l.take k).any long27 = false) ∧ Below w.heap.size w wr) (fun i _ => n - (intOf i).toNat)
  case atStart => exact ⟨0, Nat.zero_le _, Nat.zero_le _, rfl, rfl, Below.refl _ _⟩
  case round =>
    obtain ⟨k, hk, hk2, rfl, HK, hbel⟩ := hrel
    by_cases hlt : k < n ∧ k < 200
    · have d1 : decide ((k : Int) < (n : Int)) = true := by simp; omega
      have d2 : decide ((k : Int) < 200) = true := by simp; omega
      have hkl : k < l.length := by rw [HLN.out]; exact hlt.1
      obtain ⟨b, o, rfl, hb, hc⟩ := HC.out (by omega)
      obtain ⟨-, A', c', A'', c'', -, -, q2, qM, -, -, -, -, q7, qB⟩ := hc k hkl
      have e2 := (hbel.cell (p := ⟨b, o + k * 8 + 2, none⟩) hb).trans q2
      have e7 := (hbel.cell (p := ⟨b, o + k * 8 + 7, none⟩) hb).trans q7
      have ht : l.take (k + 1) = l.take k ++ [l[k]] := List.take_succ_eq_append_getElem hkl
      have hlen := qB.le
      have hlen2 := qM.le
      have hkn : (k : Int) < (n : Int) := by omega
      have HT : Hid ((l.take (k + 1)).any long27 = long27 l[k]) := by
        show _ = _
        rw [ht, List.any_append, HK.out]
        simp
      have HH : Hid (long27 l[k] = true → huge27 l m = true) := fun h => by
        unfold huge27
        rw [Bool.or_eq_true]
        refine .inl (List.any_eq_true.2 ⟨l[k], ?_, h⟩)
        exact List.mem_iff_getElem.2 ⟨k, by simp; omega, by simp⟩
      have HLG : Hid (long27 l[k] = (decide (200 < l[k].2.2.1.length) || decide (200 < l[k].2.2.2.2.2.2.2.length))) := rfl
      clear hc q2 q7 ht qB qM
      generalize long27 l[k] = lg at *
      generalize l[k].2.2.1.length = L1 at *
      generalize l[k].2.2.2.2.2.2.2.length = L2 at *
      by_cases h1 : 200 < L1
      · have d3 : decide ((200 : Int) < (L1 : Int)) = true := by simp; omega
        have d3n : decide (200 < L1) = true := by simp; omega
        have e := HH.out (by rw [HLG.out, d3n]; rfl)
        rw [HR.out] at e
        subst e
        clear h1
        go_wp2
        go_ret
        exact ⟨rfl, hbel⟩
      · have d3 : decide ((200 : Int) < (L1 : Int)) = false := by simp; omega
        have d3n : decide (200 < L1) = false := by simp; omega
        by_cases h2 : 200 < L2
        · have d4 : decide ((200 : Int) < (L2 : Int)) = true := by simp; omega
          have d4n : decide (200 < L2) = true := by simp; omega
          have e := HH.out (by rw [HLG.out, d3n, d4n]; rfl)
          rw [HR.out] at e
          subst e
          clear h1 h2
          go_wp2
          go_ret
          exact ⟨rfl, hbel⟩
        · have d4 : decide ((200 : Int) < (L2 : Int)) = false := by simp; omega
          have d4n : decide (200 < L2) = false := by simp; omega
          have e := HT.out
          rw [HLG.out, d3n, d4n] at e
          have HT2 := Lib.hid e
          clear e HT HH HLG h1 h2
          go_wp2
          go_roundw
          case rel => exact ⟨k + 1, by omega, by omega, by go_num, HT2.out, hbel⟩
          case measure => simp [intOf]; omega
    · have e : r = (decide (100 < n) || decide (200 < m)) := by
        rw [← HR.out]
        unfold huge27
        rw [HLN.out]
        by_cases h3 : 100 < n
        · rw [show decide (100 < n) = true by simpa using h3, Bool.true_or, Bool.or_true]
        · have h4 : l.take 200 = l.take k := by rw [List.take_of_length_le (by rw [HLN.out]; omega), List.take_of_length_le (by rw [HLN.out]; omega)]
          rw [h4, HK.out, Bool.false_or]
      clear HR
      by_cases h5 : 100 < n
      · have d3 : decide ((100 : Int) < (n : Int)) = true := by simp; omega
        have d3n : decide (100 < n) = true := by simp; omega
        have HD4 : Hid (r = true) := by show _ = _; rw [e, d3n]; rfl
        clear h5 e
        by_cases h1 : k < n
        · have d1 : decide ((k : Int) < (n : Int)) = true := by simp; omega
          have d1n : decide (k < n) = true := by simp; omega
          have d2 : decide ((k : Int) < 200) = false := by simp; omega
          have d2n : decide (k < 200) = false := by simp; omega
          go_wp2
          go_ret
          exact ⟨ret_bool HD4.out.symm, hbel⟩
        · have d1 : decide ((k : Int) < (n : Int)) = false := by simp; omega
          have d1n : decide (k < n) = false := by simp; omega
          go_wp2
          go_ret
          exact ⟨ret_bool HD4.out.symm, hbel⟩
      · have d3 : decide ((100 : Int) < (n : Int)) = false := by simp; omega
        have d3n : decide (100 < n) = false := by simp; omega
        have h1 : ¬ k < n := by omega
        have d1 : decide ((k : Int) < (n : Int)) = false := by simp; omega
        have d1n : decide (k < n) = false := by simp; omega
        have HD4 : Hid (r = decide (200 < m)) := by show _ = _; rw [e, d3n]; rfl
        clear h5 e h1
        by_cases h6 : 200 < m
        · have d4 : decide ((200 : Int) < (m : Int)) = true := by simp; omega
          have d4n : decide (200 < m) = true := by simp; omega
          have HD5 : Hid (r = true) := HD4.out.trans d4n
          clear h6 HD4
          go_wp2
          go_ret
          exact ⟨ret_bool HD5.out.symm, hbel⟩
        · have d4 : decide ((200 : Int) < (m : Int)) = false := by simp; omega
          have d4n : decide (200 < m) = false := by simp; omega
          have HD5 : Hid (r = false) := HD4.out.trans d4n
          clear h6 HD4
          go_wp2
          go_ret
          exact ⟨ret_bool HD5.out.symm, hbel⟩
theorem huge27_few {l : List Act27} {m : Nat} (h : huge27 l m = false) : (l.length ≤ 100 ∧ m ≤ 200) ∧ ∀ x ∈ l, x.2.2.1.length ≤ 200 ∧ x.2.2.2.2.2.2.2.length ≤ 200 := by
  unfold huge27 at h
  rw [Bool.or_eq_false_iff, Bool.or_eq_false_iff] at h
  have h1 : l.length ≤ 100 := by simpa using h.2.1
  have h0 : m ≤ 200 := by simpa using h.2.2
  refine ⟨⟨h1, h0⟩, fun x hx => ?_⟩
  have h2 := h.1
  rw [List.take_of_length_le (by omega), List.any_eq_false] at h2
  have h3 := h2 x hx
  unfold long27 at h3
  simpa using h3
end Go.Proofs.Ytdkebneiikdohaa
