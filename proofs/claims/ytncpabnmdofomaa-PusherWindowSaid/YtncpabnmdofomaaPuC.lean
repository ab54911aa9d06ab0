/- Package pusher by its contracts; what layer 24's law's own num, huge answer over them. -/
import Derived.Test.YtncpabnmdofomaaRpu4
import Derived.Test.YtncpabnmdofomaaRecs
namespace Go.Proofs.Ytncpabnmdofomaa
open Go.RowKit
set_option maxRecDepth 20000

theorem CfI.in_ {c : Cfg} (h : CfI c) : CfIn c := ⟨h.2.1, h.2.2.1, h.2.2.2.1⟩
/-- what package pusher answers, in plain words: F g s w X: at block g lies a transmitter in the state s; its blocks are X -/
structure PuC (F : Nat → Pus → World → (Nat → Prop) → Prop) : Prop where
  holds : ∀ g s, Holds (F g s)
  new_no : ∀ (c : Cfg) (w : World), CfI c → puNew c ≠ 0 → Calls Try.prog 8 #[cfgV c] w fun e w' => e = .returned (.tuple #[.pointer none, .int .i64 (puNew c)]) ∧ Below w.heap.size w w'
  new_yes : ∀ (c : Cfg) (w : World), CfI c → puNew c = 0 → Calls Try.prog 8 #[cfgV c] w fun e w' => ∃ g X, e = .returned (.tuple #[.pointer (some ⟨g, 0, none⟩), .int .i64 0]) ∧ F g ⟨c, [], 0, 0, []⟩ w' X ∧ (∀ k, X k → w.heap.size ≤ k) ∧ Below w.heap.size w w'
  send : ∀ (g : Nat) (s : Pus) (A : Option Addr) (n c : Nat) (m : List UInt8) (w : World) (X : Nat → Prop), F g s w X → PsOk s → Bys w A n c m → Av X n A → s.ls.length < 100000 → Calls Try.prog 11 #[.pointer (some ⟨g, 0, none⟩), .slice A n c] w fun e w' => ∃ A' n' c' X', e = .returned (.tuple #[.int .i64 (puSendN s n : Nat), .slice A' n' c', .int .i64 (puSendE s n : Nat)]) ∧ Sls w' (fun k => X' k ∨ k < w.heap.size) A' n' c' (puSendL s m) ∧ F g (puSend s m) w' X' ∧ Turns X X' w w'
  poll : ∀ (g : Nat) (s : Pus) (i : Int) (w : World) (X : Nat → Prop), F g s w X → PsOk s → I64 i → s.ls.length < 100000 → Calls Try.prog 18 #[.pointer (some ⟨g, 0, none⟩), .int .i64 i] w fun e w' => e = .returned (.tuple #[.int .i64 (puPoll s i : Nat), .int .i64 (puPollE s i : Nat)]) ∧ Below w.heap.size w w'
  tick : ∀ (g : Nat) (s : Pus) (w : World) (X : Nat → Prop), F g s w X → PsOk s → s.ls.length < 100000 → Calls Try.prog 14 #[.pointer (some ⟨g, 0, none⟩)] w (GivesSls (F g (puTick s)) X (puTickL s) w)
  take : ∀ (g : Nat) (s : Pus) (a : Bool) (sq : Int) (u : Nat) (A : Option Addr) (n c : Nat) (d : List UInt8) (w : World) (X : Nat → Prop), F g s w X → PsOk s → s.ls.length < 100000 → I64 sq → u < 18446744073709551616 → Bys w A n c d → Calls Try.prog 16 #[.pointer (some ⟨g, 0, none⟩), .agg #[.bool a, .int .i64 sq, .int .u64 (u : Int), .slice A n c]] w (GivesSls (F g (puTake s a sq u)) X (puTakeL s a sq u) w)
  state : ∀ (g : Nat) (s : Pus) (w : World) (X : Nat → Prop), F g s w X → PsOk s → s.ls.length < 100000 → Calls Try.prog 20 #[.pointer (some ⟨g, 0, none⟩)] w fun e w' => e = .returned (.agg #[.int .i64 (s.ls.length : Int), .int .i64 (s.base : Int), .int .i64 (s.next : Int)]) ∧ Below w.heap.size w w'
  timers : ∀ (g : Nat) (s : Pus) (w : World) (X : Nat → Prop), F g s w X → PsOk s → s.ls.length < 100000 → Calls Try.prog 21 #[.pointer (some ⟨g, 0, none⟩)] w fun e w' => ∃ A n c, e = .returned (.slice A n c) ∧ Zs w' A n c (tmKeys s.tm) ∧ Below w.heap.size w w'
  nsend : ∀ (A : Option Addr) (n c : Nat) (m : List UInt8) (w : World), Bys w A n c m → Calls Try.prog 11 #[.pointer none, .slice A n c] w fun e w' => ∃ z P k, e = .returned (.tuple #[.int .i64 z, .slice P 0 k, .int .i64 5]) ∧ Below w.heap.size w w'
  npoll : ∀ (i : Int) (w : World), I64 i → Calls Try.prog 18 #[.pointer none, .int .i64 i] w fun e w' => ∃ z, e = .returned (.tuple #[.int .i64 z, .int .i64 5]) ∧ Below w.heap.size w w'
  ntick : ∀ (w : World), Calls Try.prog 14 #[.pointer none] w fun e w' => ∃ P k, e = .returned (.slice P 0 k) ∧ Below w.heap.size w w'
  ntake : ∀ (a : Bool) (sq : Int) (u : Nat) (A : Option Addr) (n c : Nat) (d : List UInt8) (w : World), I64 sq → u < 18446744073709551616 → Bys w A n c d → Calls Try.prog 16 #[.pointer none, .agg #[.bool a, .int .i64 sq, .int .u64 (u : Int), .slice A n c]] w fun e w' => ∃ P k, e = .returned (.slice P 0 k) ∧ Below w.heap.size w w'
  ntimers : ∀ (w : World), Calls Try.prog 21 #[.pointer none] w fun e w' => ∃ P k, e = .returned (.slice P 0 k) ∧ Below w.heap.size w w'
/-- the document's own, in the same words -/
theorem rpsend_p (g : Nat) (s : Pus) (A : Option Addr) (n c : Nat) (m : List UInt8) (w : World) (X : Nat → Prop) (h : RP g s w X) (hB : Bys w A n c m) (hb : s.ls.length < 100000) :
    Calls Try.prog 12 #[.pointer (some ⟨g, 0, none⟩), .slice A n c] w fun e w' => ∃ A' n' c' X', e = .returned (.tuple #[.int .i64 (puSendN s n : Nat), .slice A' n' c', .int .i64 (puSendE s n : Nat)]) ∧ Sls w' (fun k => X' k ∨ k < w.heap.size) A' n' c' (puSendL s m) ∧ RP g (puSend s m) w' X' ∧ Turns X X' w w' := by
  obtain ⟨hok, gt, v, Xt, Xl, hv, rfl⟩ := h
  refine (rpsend_any g gt v s Xt Xl A n c m w hv hok hB hb).mono ?_
  rintro e w' ⟨vo, v', Xt', Xl', rfl, hO, hR, t⟩
  obtain ⟨A', c', rfl, hS⟩ := hO.sls
  exact ⟨A', _, c', _, rfl, hS, ⟨hok.send m (by omega), gt, v', Xt', Xl', hR, rfl⟩, t⟩
theorem rppoll_p (g : Nat) (s : Pus) (i : Int) (w : World) (X : Nat → Prop) (h : RP g s w X) :
    Calls Try.prog 19 #[.pointer (some ⟨g, 0, none⟩), .int .i64 i] w fun e w' => e = .returned (.tuple #[.int .i64 (puPoll s i : Nat), .int .i64 (puPollE s i : Nat)]) ∧ w = w' := by
  obtain ⟨hok, gt, v, Xt, Xl, hv, rfl⟩ := h
  exact rppoll_any g gt v s Xt Xl i w hv
theorem rptick_p (g : Nat) (s : Pus) (w : World) (X : Nat → Prop) (h : RP g s w X) (hb : s.ls.length < 100000) :
    Calls Try.prog 15 #[.pointer (some ⟨g, 0, none⟩)] w (GivesSls (RP g (puTick s)) X (puTickL s) w) := by
  obtain ⟨hok, gt, v, Xt, Xl, hv, rfl⟩ := h
  refine (rptick_any g gt v s Xt Xl w hv hok (by omega)).mono ?_
  rintro e w' ⟨vo, rfl, hO, hR, t⟩
  obtain ⟨A', c', rfl, hS⟩ := hO.sls
  exact ⟨A', _, c', _, rfl, hS, ⟨hok.tick, gt, v, Xt, Xl, hR, rfl⟩, t⟩
theorem rptake_p (g : Nat) (s : Pus) (a : Bool) (sq : Int) (u : Nat) (A : Option Addr) (n c : Nat) (w : World) (X : Nat → Prop) (h : RP g s w X) (hb : s.ls.length < 100000) (hu : u < 18446744073709551616) :
    Calls Try.prog 17 #[.pointer (some ⟨g, 0, none⟩), .agg #[.bool a, .int .i64 sq, .int .u64 (u : Int), .slice A n c]] w (GivesSls (RP g (puTake s a sq u)) X (puTakeL s a sq u) w) := by
  obtain ⟨hok, gt, v, Xt, Xl, hv, rfl⟩ := h
  have fin : ∀ s' l, PsOk s' → Calls Try.prog 17 #[.pointer (some ⟨g, 0, none⟩), .agg #[.bool a, .int .i64 sq, .int .u64 (u : Int), .slice A n c]] w (GivesPuTk g gt v s' l Xt Xl w) → Calls Try.prog 17 #[.pointer (some ⟨g, 0, none⟩), .agg #[.bool a, .int .i64 sq, .int .u64 (u : Int), .slice A n c]] w (GivesSls (RP g s') (Tri g Xt Xl) l w) := fun s' l hs' H => by
    refine H.mono ?_
    rintro e w' ⟨vo, Xt', rfl, hO, hR, t⟩
    obtain ⟨A', c', rfl, hS⟩ := hO.sls
    exact ⟨A', _, c', _, rfl, hS, ⟨hs', gt, v, Xt', Xl, hR, rfl⟩, t⟩
  have hs' := hok.take a sq u (by omega)
  cases a with
  | false => exact fin _ _ hs' (rptake_no g gt v s Xt Xl sq u A n c w hv)
  | true =>
    cases hq : puNear s sq with
    | none =>
      have e1 : puTake s true sq u = s := by unfold puTake; rw [if_neg (by decide), hq]
      have e2 : puTakeL s true sq u = [] := by unfold puTakeL; rw [if_neg (by decide), hq]
      rw [e1, e2]
      exact fin _ _ hok (rptake_none g gt v s Xt Xl sq u A n c w hv hok hq)
    | some q =>
      have e1 : puTake s true sq u = puOn (puAck s q u) := by unfold puTake; rw [if_neg (by decide), hq]
      have e2 : puTakeL s true sq u = puOnL (puAck s q u) := by unfold puTakeL; rw [if_neg (by decide), hq]
      rw [e1] at hs' ⊢
      rw [e2]
      exact fin _ _ hs' (rptake_some g gt v s Xt Xl sq u A n c w hv hok hb hu q hq)
/-- how far it may have come -/
def PsFew (j : Nat) (s : Pus) : Prop := PsOk s ∧ s.ls.length ≤ j
theorem PsFew.new {c : Cfg} (h : puNew c = 0) : PsFew 0 ⟨c, [], 0, 0, []⟩ := ⟨PsOk.new h, Nat.le_refl _⟩
theorem PsFew.more {j : Nat} {s : Pus} (h : PsFew j s) : PsFew (j + 1) s := ⟨h.1, by have := h.2; omega⟩
theorem PsFew.send {j : Nat} {s : Pus} (h : PsFew j s) (hj : j < 100000) (m : List UInt8) : PsFew (j + 1) (puSend s m) := ⟨h.1.send m (by have := h.2; omega), by have := puSend_len s m h.1 (by have := h.2; omega); have := h.2; omega⟩
theorem PsFew.tick {j : Nat} {s : Pus} (h : PsFew j s) : PsFew (j + 1) (puTick s) := ⟨h.1.tick, by have := h.2; show s.ls.length ≤ _; omega⟩
theorem PsFew.take {j : Nat} {s : Pus} (h : PsFew j s) (hj : j < 100000) (a : Bool) (sq : Int) (u : Nat) : PsFew (j + 1) (puTake s a sq u) := ⟨h.1.take a sq u (by have := h.2; omega), by rw [puTake_len s a sq u h.1 (by have := h.2; omega)]; have := h.2; omega⟩
theorem num24_any (e : Int) (w : World) : Calls Try.prog 10 #[.int .i64 e] w fun e' w' => e' = .returned (.int .i64 e) ∧ w = w' := by
  go_enter Try.func10, Try.ntmps10
  go_wp2
  go_ret
  exact ⟨rfl, rfl⟩
/-- an act: its kind, the number, the message, the packet -/
abbrev Act24 := Int × Int × List UInt8 × Sld
def rdAct24 (w : World) (b o : Nat) (x : Act24) : Prop := (I64 x.1 ∧ I64 x.2.1 ∧ I64 x.2.2.2.2.1 ∧ x.2.2.2.2.2.1 < 18446744073709551616) ∧ ∃ A c D d, w.cell? ⟨b, o, none⟩ = some (.int .i64 x.1) ∧ w.cell? ⟨b, o + 1, none⟩ = some (.int .i64 x.2.1) ∧ w.cell? ⟨b, o + 2, none⟩ = some (.slice A x.2.2.1.length c) ∧ w.cell? ⟨b, o + 3, none⟩ = some (.bool x.2.2.2.1) ∧ w.cell? ⟨b, o + 4, none⟩ = some (.int .i64 x.2.2.2.2.1) ∧ w.cell? ⟨b, o + 5, none⟩ = some (.int .u64 (x.2.2.2.2.2.1 : Int)) ∧ w.cell? ⟨b, o + 6, none⟩ = some (.slice D x.2.2.2.2.2.2.length d) ∧ Bys w A x.2.2.1.length c x.2.2.1 ∧ Bys w D x.2.2.2.2.2.2.length d x.2.2.2.2.2.2
theorem keeps24 : Keeps rdAct24 := fun _ _ b o _ hb T ⟨h0, A, c, D, d, h1, h2, h3, h4, h5, h6, h7, h8, h9⟩ => ⟨h0, A, c, D, d, (T.cell (p := ⟨b, o, none⟩) hb).trans h1, (T.cell (p := ⟨b, o + 1, none⟩) hb).trans h2, (T.cell (p := ⟨b, o + 2, none⟩) hb).trans h3, (T.cell (p := ⟨b, o + 3, none⟩) hb).trans h4, (T.cell (p := ⟨b, o + 4, none⟩) hb).trans h5, (T.cell (p := ⟨b, o + 5, none⟩) hb).trans h6, (T.cell (p := ⟨b, o + 6, none⟩) hb).trans h7, h8.below T, h9.below T⟩
def long24 (x : Act24) : Bool := decide (200 < x.2.2.1.length) || decide (200 < x.2.2.2.2.2.2.length)
def huge24 (l : List Act24) : Bool := decide (100 < l.length) || (l.take 200).any long24
set_option maxHeartbeats 4000000 in
theorem huge24_any (A : Option Addr) (n c : Nat) (l : List Act24) (w : World) (hR : Recs rdAct24 7 w A n c l) :
    Calls Try.prog 6 #[.slice A n c] w fun e w' => e = .returned (.bool (huge24 l)) ∧ Below w.heap.size w w' := by
  have hl := hR.1
  have hnc := hR.2.1
  have hcm := hR.2.2.1
  unfold maxLen at hcm
  have HC := Lib.hid hR.2.2.2
  have HLN := Lib.hid hl
  obtain ⟨r, hr⟩ : ∃ r, huge24 l = r := ⟨_, rfl⟩
  have HR := Lib.hid hr
  rw [hr]
  clear hR hl hr
  go_enter Try.func6, Try.ntmps6
  go_wp2_with (fail)
  go_loopw [3] (fun i wr => ∃ k : Nat, k ≤ n ∧ k ≤ 200 ∧ i = .int .i64 (k : Int) ∧ Hid ((l.take k).any long24 = false) ∧ Below w.heap.size w wr) (fun i _ => n - (intOf i).toNat)
  case atStart => exact ⟨0, Nat.zero_le _, Nat.zero_le _, rfl, rfl, Below.refl _ _⟩
  case round =>
    obtain ⟨k, hk, hk2, rfl, HK, hbel⟩ := hrel
    by_cases hlt : k < n ∧ k < 200
    · have d1 : decide ((k : Int) < (n : Int)) = true := by simp; omega
      have d2 : decide ((k : Int) < 200) = true := by simp; omega
      have hkl : k < l.length := by rw [HLN.out]; exact hlt.1
      obtain ⟨b, o, rfl, hb, hc⟩ := HC.out (by omega)
      obtain ⟨-, A', c', D', d', -, -, q2, -, -, -, q5, qB, qD⟩ := hc k hkl
      have e2 := (hbel.cell (p := ⟨b, o + k * 7 + 2, none⟩) hb).trans q2
      have e5 := (hbel.cell (p := ⟨b, o + k * 7 + 6, none⟩) hb).trans q5
      have ht : l.take (k + 1) = l.take k ++ [l[k]] := List.take_succ_eq_append_getElem hkl
      have hlen := qB.le
      have hlen2 := qD.le
      have hkn : (k : Int) < (n : Int) := by omega
      have HT : Hid ((l.take (k + 1)).any long24 = long24 l[k]) := by
        show _ = _
        rw [ht, List.any_append, HK.out]
        simp
      have HH : Hid (long24 l[k] = true → huge24 l = true) := fun h => by
        unfold huge24
        rw [Bool.or_eq_true]
        refine .inr (List.any_eq_true.2 ⟨l[k], ?_, h⟩)
        exact List.mem_iff_getElem.2 ⟨k, by simp; omega, by simp⟩
      have HLG : Hid (long24 l[k] = (decide (200 < l[k].2.2.1.length) || decide (200 < l[k].2.2.2.2.2.2.length))) := rfl
      clear hc q2 q5 ht qB qD
      generalize long24 l[k] = lg at *
      generalize l[k].2.2.1.length = L at *
      generalize l[k].2.2.2.2.2.2.length = M at *
      by_cases h1 : 200 < L
      · have d3 : decide ((200 : Int) < (L : Int)) = true := by simp; omega
        have e := HH.out (by rw [HLG.out, show decide (200 < L) = true by simpa using h1]; rfl)
        rw [HR.out] at e
        subst e
        go_wp2
        go_ret
        exact ⟨rfl, hbel⟩
      · have d3 : decide ((200 : Int) < (L : Int)) = false := by simp; omega
        by_cases h2 : 200 < M
        · have d4 : decide ((200 : Int) < (M : Int)) = true := by simp; omega
          have e := HH.out (by rw [HLG.out, show decide (200 < M) = true by simpa using h2, Bool.or_true])
          rw [HR.out] at e
          subst e
          go_wp2
          go_ret
          exact ⟨rfl, hbel⟩
        · have d4 : decide ((200 : Int) < (M : Int)) = false := by simp; omega
          have e := HT.out
          rw [HLG.out, show decide (200 < L) = false by simpa using h1, show decide (200 < M) = false by simpa using h2] at e
          have HT2 := Lib.hid e
          clear e HT HH HLG
          go_wp2
          go_roundw
          case rel => exact ⟨k + 1, by omega, by omega, by go_num, HT2.out, hbel⟩
          case measure => simp [intOf]; omega
    · have e : r = decide (100 < n) := by
        rw [← HR.out]
        unfold huge24
        rw [HLN.out]
        by_cases h3 : 100 < n
        · rw [show decide (100 < n) = true by simpa using h3, Bool.true_or]
        · have h4 : l.take 200 = l.take k := by rw [List.take_of_length_le (by rw [HLN.out]; omega), List.take_of_length_le (by rw [HLN.out]; omega)]
          rw [h4, HK.out, Bool.or_false]
      subst e
      by_cases h1 : k < n
      · have d1 : decide ((k : Int) < (n : Int)) = true := by simp; omega
        have d2 : decide ((k : Int) < 200) = false := by simp; omega
        have d3 : decide ((100 : Int) < (n : Int)) = true := by simp; omega
        have d4 : decide (100 < n) = true := by simp; omega
        have HD4 := Lib.hid d4
        clear HR d4
        go_wp2
        go_ret
        exact ⟨ret_bool HD4.out.symm, hbel⟩
      · have d1 : decide ((k : Int) < (n : Int)) = false := by simp; omega
        have d4 : decide ((100 : Int) < (n : Int)) = decide (100 < n) := by rw [decide_eq_decide]; omega
        clear HR
        go_wp2
        go_ret
        exact ⟨rfl, hbel⟩
theorem huge24_few {l : List Act24} (h : huge24 l = false) : l.length ≤ 100 := by
  unfold huge24 at h
  rw [Bool.or_eq_false_iff] at h
  simpa using h.1
end Go.Proofs.Ytncpabnmdofomaa
