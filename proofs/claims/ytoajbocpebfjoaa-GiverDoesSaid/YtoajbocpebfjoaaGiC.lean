/- Package giver by its contracts; what layer 28's law's own num, huge answer. -/
import Derived.Test.YtoajbocpebfjoaaRgi2
import Derived.Test.YtoajbocpebfjoaaNoC
import Derived.Test.YtoajbocpebfjoaaRecs
import Derived.Test.YtoajbocpebfjoaaSameAll
namespace Go.Proofs.Ytoajbocpebfjoaa
open Go.RowKit
set_option maxRecDepth 20000

/-- a message and packets told of an object: they avoid it; the message's bytes were its own or are new -/
def GivesRfT (F : World → (Nat → Prop) → Prop) (X : Nat → Prop) (l : List UInt8) (b : Bool) (tl : List Tok) (w : World) (e : Ending) (w' : World) : Prop := ∃ A n c B m d X', e = .returned (.tuple #[.slice A n c, .slice B m d, .bool b]) ∧ Bys w' A n c l ∧ Av X' n A ∧ (0 < n → ∀ p, A = some p → X p.block ∨ w.heap.size ≤ p.block) ∧ Tks w' (fun k => X' k ∨ k < w.heap.size) B m d tl ∧ F w' X' ∧ Turns X X' w w'
/-- what package giver answers, in plain words: G g gs s w X: at block g lies a giver in the state s; its source (S) lies at block gs; X are the blocks of both; split: what is its own, and the source, which another one may draw from -/
structure GiC (S : Nat → List Nat → Nat → World → (Nat → Prop) → Prop) (G : Nat → Nat → Gvs → World → (Nat → Prop) → Prop) : Prop where
  holds : ∀ g gs s, Holds (G g gs s)
  src : ∀ (g gs : Nat) (s : Gvs) (w : World) (X : Nat → Prop), G g gs s w X → ∃ Xs, S gs s.l s.k w Xs ∧ ∀ k, Xs k → X k
  split : ∀ (g gs : Nat) (s : Gvs), ∃ Q : World → (Nat → Prop) → Prop, Holds Q ∧ (∀ (w : World) (X : Nat → Prop), G g gs s w X → ∃ Xo Xs, Q w Xo ∧ S gs s.l s.k w Xs ∧ (∀ k, Xo k → ¬ Xs k) ∧ X = fun k => Xo k ∨ Xs k) ∧ ∀ (w : World) (Xo Xs : Nat → Prop) (k' : Nat), Q w Xo → S gs s.l k' w Xs → (∀ k, Xo k → ¬ Xs k) → G g gs { s with k := k' } w (fun k => Xo k ∨ Xs k)
  new_no : ∀ (r : Int) (gs : Nat) (l : List Nat) (k : Nat) (w : World) (Xs : Nat → Prop), I64 r → r < 1 ∨ 16 < r → S gs l k w Xs → Calls Try.prog 8 #[.int .i64 r, .pointer (some ⟨gs, 0, none⟩)] w fun e w' => e = .returned (.tuple #[.pointer none, .int .i64 1]) ∧ Below w.heap.size w w'
  new_yes : ∀ (room gs : Nat) (l : List Nat) (k : Nat) (w : World) (Xs : Nat → Prop), 1 ≤ room → room ≤ 16 → S gs l k w Xs → (∀ x ∈ l, x < 18446744073709551616) → k < 1000000 → Calls Try.prog 8 #[.int .i64 (room : Int), .pointer (some ⟨gs, 0, none⟩)] w fun e w' => ∃ g X, e = .returned (.tuple #[.pointer (some ⟨g, 0, none⟩), .int .i64 0]) ∧ G g gs ⟨room, [], l, k + 1, nx l k, false, false, 0, 0, 0, 0, 0⟩ w' X ∧ Turns Xs X w w'
  new_nil : ∀ (r : Int) (w : World), I64 r → Calls Try.prog 8 #[.int .i64 r, .pointer none] w fun e w' => e = .returned (.tuple #[.pointer none, .int .i64 1]) ∧ Below w.heap.size w w'
  take : ∀ (g gs : Nat) (s : Gvs) (kd : Int) (T C R : Nat) (A : Option Addr) (n c : Nat) (d : List UInt8) (w : World) (X : Nat → Prop), G g gs s w X → GvOk s → s.k < 1000000 → s.ent < 1000000 → I64 kd → T < 18446744073709551616 → C < 18446744073709551616 → R < 18446744073709551616 → Bys w A n c d → Av X n A → Calls Try.prog 14 #[.pointer (some ⟨g, 0, none⟩), .agg #[.int .i64 kd, .int .u64 (T : Int), .int .u64 (C : Int), .int .u64 (R : Int), .slice A n c]] w (GivesTks (G g gs (gvTake s kd T C d)) X (gvTakeL s kd T C) w)
  recv : ∀ (g gs : Nat) (s : Gvs) (w : World) (X : Nat → Prop), G g gs s w X → GvOk s → s.ret < 1000000 → Calls Try.prog 16 #[.pointer (some ⟨g, 0, none⟩)] w (GivesRfT (G g gs (gvRecv s)) X (s.ls.headD []) (!s.ls.isEmpty) (gvRecvL s) w)
  state : ∀ (g gs : Nat) (s : Gvs) (w : World) (X : Nat → Prop), G g gs s w X → Calls Try.prog 19 #[.pointer (some ⟨g, 0, none⟩)] w fun e w' => e = .returned (.agg #[.int .i64 (s.ent : Int), .int .i64 (s.ret : Int), .int .u64 (s.r : Int)]) ∧ Below w.heap.size w w'
  kept : ∀ (g gs : Nat) (s : Gvs) (w : World) (X : Nat → Prop), G g gs s w X → Calls Try.prog 21 #[.pointer (some ⟨g, 0, none⟩)] w fun e w' => ∃ P n c, e = .returned (.slice P n c) ∧ RFre w' (· < w.heap.size) P n c s.ls ∧ Below w.heap.size w w'
  ntake : ∀ (kd : Int) (T C R : Nat) (A : Option Addr) (n c : Nat) (d : List UInt8) (w : World), I64 kd → Bys w A n c d → Calls Try.prog 14 #[.pointer none, .agg #[.int .i64 kd, .int .u64 (T : Int), .int .u64 (C : Int), .int .u64 (R : Int), .slice A n c]] w fun e w' => ∃ P c, e = .returned (.slice P 0 c) ∧ Below w.heap.size w w'
  nrecv : ∀ (w : World), Calls Try.prog 16 #[.pointer none] w fun e w' => ∃ A c P d, e = .returned (.tuple #[.slice A 0 c, .slice P 0 d, .bool false]) ∧ Below w.heap.size w w'
  nstate : ∀ (w : World), Calls Try.prog 19 #[.pointer none] w fun e w' => e = .returned (.agg #[.int .i64 0, .int .i64 0, .int .u64 0]) ∧ Below w.heap.size w w'
  nkept : ∀ (w : World), Calls Try.prog 21 #[.pointer none] w fun e w' => ∃ P c, e = .returned (.slice P 0 c) ∧ Below w.heap.size w w'
/-- how far the numbers may have come -/
def GvFew (j : Nat) (s : Gvs) : Prop := GvOk s ∧ s.k ≤ j + 1 ∧ s.ent ≤ j ∧ s.ret ≤ j
theorem GvFew.new (room : Nat) (l : List Nat) (h1 : 1 ≤ room) (h2 : room ≤ 16) (hl : ∀ x ∈ l, x < 18446744073709551616) : GvFew 0 ⟨room, [], l, 0 + 1, nx l 0, false, false, 0, 0, 0, 0, 0⟩ :=
  ⟨⟨⟨h1, h2, Nat.zero_le _, fun m hm => by cases hm⟩, hl, by show 0 + 1 ≤ 1000000; omega, nx_lt hl (Nat.zero_le _), by show 0 < _; omega, by show 0 < _; omega, by show 0 < _; omega, Nat.zero_le _, Nat.zero_le _⟩, Nat.le_refl _, Nat.le_refl _, Nat.le_refl _⟩
theorem GvFew.more {j : Nat} {s : Gvs} (h : GvFew j s) : GvFew (j + 1) s := ⟨h.1, by have := h.2.1; omega, by have := h.2.2.1; omega, by have := h.2.2.2; omega⟩
theorem GvFew.take {j : Nat} {s : Gvs} (h : GvFew j s) (hj : j < 900000) (kd : Int) {T : Nat} (hT : T < 18446744073709551616) (C : Nat) (d : List UInt8) : GvFew (j + 1) (gvTake s kd T C d) := by
  obtain ⟨h1, h2, h3, h4⟩ := h
  refine ⟨h1.take kd hT C d (by omega) (by omega), ?_⟩
  unfold gvTake
  split
  · unfold gvPush
    split
    · exact ⟨by show s.k ≤ _; omega, by show s.ent + 1 ≤ _; omega, by show s.ret ≤ _; omega⟩
    · exact ⟨by omega, by omega, by omega⟩
  · split
    · exact ⟨by omega, by omega, by omega⟩
    · split
      · unfold gvOpen
        split
        · exact ⟨by omega, by omega, by omega⟩
        · exact ⟨by show s.k + 1 ≤ _; omega, by show s.ent ≤ _; omega, by show s.ret ≤ _; omega⟩
      · exact ⟨by omega, by omega, by omega⟩
theorem GvFew.recv {j : Nat} {s : Gvs} (h : GvFew j s) (hj : j < 900000) : GvFew (j + 1) (gvRecv s) := by
  obtain ⟨h1, h2, h3, h4⟩ := h
  refine ⟨h1.recv (by omega), ?_⟩
  unfold gvRecv
  split
  · exact ⟨by omega, by omega, by omega⟩
  · exact ⟨by show s.k ≤ _; omega, by show s.ent ≤ _; omega, by show s.ret + 1 ≤ _; omega⟩
theorem num28_any (e : Int) (w : World) : Calls Try.prog 12 #[.int .i64 e] w fun e' w' => e' = .returned (.int .i64 e) ∧ w = w' := by
  go_enter Try.func12, Try.ntmps12
  go_wp2
  go_ret
  exact ⟨rfl, rfl⟩
/-- an act: its kind, the packet -/
abbrev Act28 := Int × Tok
def rdAct28 (w : World) (b o : Nat) (x : Act28) : Prop := (I64 x.1 ∧ I64 x.2.1 ∧ x.2.2.1 < 18446744073709551616 ∧ x.2.2.2.1 < 18446744073709551616 ∧ x.2.2.2.2.1 < 18446744073709551616) ∧ ∃ A c, w.cell? ⟨b, o, none⟩ = some (.int .i64 x.1) ∧ w.cell? ⟨b, o + 1, none⟩ = some (.int .i64 x.2.1) ∧ w.cell? ⟨b, o + 2, none⟩ = some (.int .u64 (x.2.2.1 : Int)) ∧ w.cell? ⟨b, o + 3, none⟩ = some (.int .u64 (x.2.2.2.1 : Int)) ∧ w.cell? ⟨b, o + 4, none⟩ = some (.int .u64 (x.2.2.2.2.1 : Int)) ∧ w.cell? ⟨b, o + 5, none⟩ = some (.slice A x.2.2.2.2.2.length c) ∧ Bys w A x.2.2.2.2.2.length c x.2.2.2.2.2
theorem keeps28 : Keeps rdAct28 := fun _ _ b o _ hb T ⟨h0, A, c, h1, h2, h3, h4, h5, h6, h7⟩ => ⟨h0, A, c, (T.cell (p := ⟨b, o, none⟩) hb).trans h1, (T.cell (p := ⟨b, o + 1, none⟩) hb).trans h2, (T.cell (p := ⟨b, o + 2, none⟩) hb).trans h3, (T.cell (p := ⟨b, o + 3, none⟩) hb).trans h4, (T.cell (p := ⟨b, o + 4, none⟩) hb).trans h5, (T.cell (p := ⟨b, o + 5, none⟩) hb).trans h6, h7.below T⟩
def long28 (x : Act28) : Bool := decide (200 < x.2.2.2.2.2.length)
def huge28 (l : List Act28) (m : Nat) : Bool := (l.take 200).any long28 || (decide (100 < l.length) || decide (200 < m))
set_option maxHeartbeats 4000000 in
theorem huge28_any (A : Option Addr) (n c : Nat) (l : List Act28) (P : Option Addr) (m d : Nat) (w : World) (hR : Recs rdAct28 6 w A n c l) :
    Calls Try.prog 6 #[.slice A n c, .slice P m d] w fun e w' => e = .returned (.bool (huge28 l m)) ∧ Below w.heap.size w w' := by
  have hl := hR.1
  have hnc := hR.2.1
  have hcm := hR.2.2.1
  unfold maxLen at hcm
  have HC := Lib.hid hR.2.2.2
  have HLN := Lib.hid hl
  obtain ⟨r, hr⟩ : ∃ r, huge28 l m = r := ⟨_, rfl⟩
  have HR := Lib.hid hr
  rw [hr]
  clear hR hl hr
  go_enter Try.func6, Try.ntmps6
  go_wp2_with (fail)
  go_loopw [5] (fun i wr => ∃ k : Nat, k ≤ n ∧ k ≤ 200 ∧ i = .int .i64 (k : Int) ∧ Hid ((l.take k).any long28 = false) ∧ Below w.heap.size w wr) (fun i _ => n - (intOf i).toNat)
  case atStart => exact ⟨0, Nat.zero_le _, Nat.zero_le _, rfl, rfl, Below.refl _ _⟩
  case round =>
    obtain ⟨k, hk, hk2, rfl, HK, hbel⟩ := hrel
    by_cases hlt : k < n ∧ k < 200
    · have d1 : decide ((k : Int) < (n : Int)) = true := by simp; omega
      have d2 : decide ((k : Int) < 200) = true := by simp; omega
      have hkl : k < l.length := by rw [HLN.out]; exact hlt.1
      obtain ⟨b, o, rfl, hb, hc⟩ := HC.out (by omega)
      obtain ⟨-, A', c', -, -, -, -, -, q5, qB⟩ := hc k hkl
      have e5 := (hbel.cell (p := ⟨b, o + k * 6 + 5, none⟩) hb).trans q5
      have ht : l.take (k + 1) = l.take k ++ [l[k]] := List.take_succ_eq_append_getElem hkl
      have hlen := qB.le
      have hkn : (k : Int) < (n : Int) := by omega
      have HT : Hid ((l.take (k + 1)).any long28 = long28 l[k]) := by
        show _ = _
        rw [ht, List.any_append, HK.out]
        simp
      have HH : Hid (long28 l[k] = true → huge28 l m = true) := fun h => by
        unfold huge28
        rw [Bool.or_eq_true]
        refine .inl (List.any_eq_true.2 ⟨l[k], ?_, h⟩)
        exact List.mem_iff_getElem.2 ⟨k, by simp; omega, by simp⟩
      have HLG : Hid (long28 l[k] = decide (200 < l[k].2.2.2.2.2.length)) := rfl
      clear hc q5 ht qB
      generalize long28 l[k] = lg at *
      generalize l[k].2.2.2.2.2.length = L at *
      by_cases h1 : 200 < L
      · have d3 : decide ((200 : Int) < (L : Int)) = true := by simp; omega
        have e := HH.out (by rw [HLG.out, show decide (200 < L) = true by simpa using h1])
        rw [HR.out] at e
        subst e
        go_wp2
        go_ret
        exact ⟨rfl, hbel⟩
      · have d3 : decide ((200 : Int) < (L : Int)) = false := by simp; omega
        have e := HT.out
        rw [HLG.out, show decide (200 < L) = false by simpa using h1] at e
        have HT2 := Lib.hid e
        clear e HT HH HLG
        go_wp2
        go_roundw
        case rel => exact ⟨k + 1, by omega, by omega, by go_num, HT2.out, hbel⟩
        case measure => simp [intOf]; omega
    · have e : r = (decide (100 < n) || decide (200 < m)) := by
        rw [← HR.out]
        unfold huge28
        rw [HLN.out]
        by_cases h3 : 100 < n
        · rw [show decide (100 < n) = true by simpa using h3, Bool.true_or, Bool.or_true]
        · have h4 : l.take 200 = l.take k := by rw [List.take_of_length_le (by rw [HLN.out]; omega), List.take_of_length_le (by rw [HLN.out]; omega)]
          rw [h4, HK.out, Bool.false_or]
      clear HR
      by_cases h5 : 100 < n
      · have d3 : decide ((100 : Int) < (n : Int)) = true := by simp; omega
        have d3n : decide (100 < n) = true := by simp; omega
        have HD4 : Hid (r = true) := by show _ = _; rw [e, d3n]; rfl
        clear h5 e
        by_cases h1 : k < n
        · have d1 : decide ((k : Int) < (n : Int)) = true := by simp; omega
          have d1n : decide (k < n) = true := by simp; omega
          have d2 : decide ((k : Int) < 200) = false := by simp; omega
          have d2n : decide (k < 200) = false := by simp; omega
          go_wp2
          go_ret
          exact ⟨ret_bool HD4.out.symm, hbel⟩
        · have d1 : decide ((k : Int) < (n : Int)) = false := by simp; omega
          have d1n : decide (k < n) = false := by simp; omega
          go_wp2
          go_ret
          exact ⟨ret_bool HD4.out.symm, hbel⟩
      · have d3 : decide ((100 : Int) < (n : Int)) = false := by simp; omega
        have d3n : decide (100 < n) = false := by simp; omega
        have h1 : ¬ k < n := by omega
        have d1 : decide ((k : Int) < (n : Int)) = false := by simp; omega
        have d1n : decide (k < n) = false := by simp; omega
        have HD4 : Hid (r = decide (200 < m)) := by show _ = _; rw [e, d3n]; rfl
        clear h5 e h1
        by_cases h6 : 200 < m
        · have d4 : decide ((200 : Int) < (m : Int)) = true := by simp; omega
          have d4n : decide (200 < m) = true := by simp; omega
          have HD5 : Hid (r = true) := HD4.out.trans d4n
          clear h6 HD4
          go_wp2
          go_ret
          exact ⟨ret_bool HD5.out.symm, hbel⟩
        · have d4 : decide ((200 : Int) < (m : Int)) = false := by simp; omega
          have d4n : decide (200 < m) = false := by simp; omega
          have HD5 : Hid (r = false) := HD4.out.trans d4n
          clear h6 HD4
          go_wp2
          go_ret
          exact ⟨ret_bool HD5.out.symm, hbel⟩
theorem huge28_few {l : List Act28} {m : Nat} (h : huge28 l m = false) : (l.length ≤ 100 ∧ m ≤ 200) ∧ ∀ x ∈ l, x.2.2.2.2.2.length ≤ 200 := by
  unfold huge28 at h
  rw [Bool.or_eq_false_iff, Bool.or_eq_false_iff] at h
  have h1 : l.length ≤ 100 := by simpa using h.2.1
  have h0 : m ≤ 200 := by simpa using h.2.2
  refine ⟨⟨h1, h0⟩, fun x hx => ?_⟩
  have h2 := h.1
  rw [List.take_of_length_le (by omega), List.any_eq_false] at h2
  have h3 := h2 x hx
  unfold long28 at h3
  simpa using h3
end Go.Proofs.Ytoajbocpebfjoaa
