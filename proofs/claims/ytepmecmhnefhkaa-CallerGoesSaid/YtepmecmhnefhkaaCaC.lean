/- Package caller by its contracts; what layer 20's law's own num, huge, alike answer over them. -/
import Derived.Test.YtepmecmhnefhkaaRca3
import Derived.Test.YtepmecmhnefhkaaRecs
namespace Go.Proofs.Ytepmecmhnefhkaa
open Go.RowKit
set_option maxRecDepth 20000

/-- what package caller answers, in plain words: F g s w X: at block g lies a caller in the state s; its blocks are X -/
structure CaC (F : Nat → Cs → World → (Nat → Prop) → Prop) : Prop where
  holds : ∀ g s, Holds (F g s)
  new_no : ∀ (r : Int) (b : Nat) (w : World), I64 r → b < 18446744073709551616 → r < 1 ∨ 16 < r → Calls Try.prog 7 #[.int .i64 r, .int .u64 (b : Int)] w fun e w' => e = .returned (.tuple #[.pointer none, .int .i64 1]) ∧ Below w.heap.size w w'
  new_yes : ∀ (room b : Nat) (w : World), 1 ≤ room → room ≤ 16 → b < 18446744073709551616 → Calls Try.prog 7 #[.int .i64 (room : Int), .int .u64 (b : Int)] w fun e w' => ∃ g X, e = .returned (.tuple #[.pointer (some ⟨g, 0, none⟩), .int .i64 0]) ∧ F g ⟨room, [], b, b, 0, 0, 0⟩ w' X ∧ (∀ k, X k → w.heap.size ≤ k) ∧ Below w.heap.size w w'
  send : ∀ (g : Nat) (s : Cs) (A : Option Addr) (n c : Nat) (m : List UInt8) (w : World) (X : Nat → Prop), F g s w X → CaOk s → Bys w A n c m → Av X n A → s.acc < 1000000 → Calls Try.prog 10 #[.pointer (some ⟨g, 0, none⟩), .slice A n c] w fun e w' => e = .returned (.tuple #[.int .i64 (caSendN s n : Nat), .int .i64 (caSendE s n : Nat)]) ∧ ∃ X', F g (caSend s m) w' X' ∧ Turns X X' w w'
  poll : ∀ (g : Nat) (s : Cs) (i : Int) (w : World) (X : Nat → Prop), F g s w X → I64 i → Calls Try.prog 17 #[.pointer (some ⟨g, 0, none⟩), .int .i64 i] w fun e w' => e = .returned (.tuple #[.int .i64 (caPoll s i : Nat), .int .i64 (caPollE s i : Nat)]) ∧ Below w.heap.size w w'
  tick : ∀ (g : Nat) (s : Cs) (w : World) (X : Nat → Prop), F g s w X → CaOk s → Calls Try.prog 13 #[.pointer (some ⟨g, 0, none⟩)] w (GivesPks (F g (caTick s)) X (caTickL s) w)
  take : ∀ (g : Nat) (s : Cs) (kd lb : Int) (A : Option Addr) (n c : Nat) (d : List UInt8) (w : World) (X : Nat → Prop), F g s w X → CaOk s → s.acks < 1000000 → s.done < 1000000 → I64 kd → I64 lb → Bys w A n c d → Calls Try.prog 15 #[.pointer (some ⟨g, 0, none⟩), .agg #[.int .i64 kd, .int .i64 lb, .slice A n c]] w (GivesPks (F g (caTake s kd lb)) X (caTakeL s kd) w)
  state : ∀ (g : Nat) (s : Cs) (w : World) (X : Nat → Prop), F g s w X → Calls Try.prog 20 #[.pointer (some ⟨g, 0, none⟩)] w fun e w' => e = .returned (.agg #[.int .i64 (s.acc : Int), .int .i64 (s.done : Int), .int .u64 (s.o : Int), .int .u64 (s.k : Int), .int .u64 (s.acks : Int), .bool (ldS s.o)]) ∧ Below w.heap.size w w'
/-- the state stays within its kinds -/
theorem CaOk.next {s : Cs} (h : CaOk s) : CaOk (caNext s) := ⟨h.1, h.2.1, ldMark_lt h.2.1 h.2.2.1, h.2.2.2.1, h.2.2.2.2.1, Nat.zero_le _⟩
theorem CaOk.send {s : Cs} (h : CaOk s) (m : List UInt8) (ha : s.acc < 1000000) : CaOk (caSend s m) := by
  unfold caSend
  by_cases hE : caSendE s m.length = 0
  · rw [if_pos hE]
    have hq : quPush s.room s.ls m = s.ls ++ [m] := by unfold quPush; exact if_pos hE
    have hk := h.1.push m
    rw [hq] at hk
    have h1 : CaOk { s with ls := s.ls ++ [m], acc := s.acc + 1 } := ⟨hk, h.2.1, h.2.2.1, by show s.acc + 1 ≤ _; omega, h.2.2.2.2⟩
    split
    · exact h1.next
    · exact h1
  · rw [if_neg hE]
    exact h
theorem CaOk.tick {s : Cs} (h : CaOk s) : CaOk (caTick s) := by
  unfold caTick
  split
  · exact h
  · exact ⟨h.1, ldAsk_lt h.2.1, h.2.2⟩
theorem CaOk.take {s : Cs} (h : CaOk s) (kd lb : Int) (h1 : s.acks < 1000000) (h2 : s.done < 1000000) : CaOk (caTake s kd lb) := by
  unfold caTake
  split
  · unfold caAck
    have ho := ldHear_lt h.2.1
    split
    · split
      · have k1 : CaOk { s with o := ldHear s.o, ls := s.ls.tail, done := s.done + 1, acks := s.acks + 1 } := ⟨h.1.pop, ho, h.2.2.1, h.2.2.2.1, by show s.done + 1 ≤ _; omega, by show s.acks + 1 ≤ _; omega⟩
        split
        · exact k1
        · exact k1.next
      · exact ⟨h.1, ho, h.2.2.1, h.2.2.2.1, h.2.2.2.2.1, by show s.acks + 1 ≤ _; omega⟩
    · exact ⟨h.1, ho, h.2.2⟩
  · exact h
/-- how far the numbers may have come -/
def CaFew (j : Nat) (s : Cs) : Prop := CaOk s ∧ s.acc ≤ j ∧ s.done ≤ j ∧ s.acks ≤ j
theorem CaFew.new (room b : Nat) (h1 : 1 ≤ room) (h2 : room ≤ 16) (hb : b < 18446744073709551616) : CaFew 0 ⟨room, [], b, b, 0, 0, 0⟩ := ⟨⟨⟨h1, h2, Nat.zero_le _, fun m hm => by cases hm⟩, hb, hb, Nat.zero_le _, Nat.zero_le _, Nat.zero_le _⟩, Nat.le_refl _, Nat.le_refl _, Nat.le_refl _⟩
theorem CaFew.more {j : Nat} {s : Cs} (h : CaFew j s) : CaFew (j + 1) s := ⟨h.1, by have := h.2.1; omega, by have := h.2.2.1; omega, by have := h.2.2.2; omega⟩
theorem CaFew.send {j : Nat} {s : Cs} (h : CaFew j s) (hj : j < 1000000) (m : List UInt8) : CaFew (j + 1) (caSend s m) := by
  obtain ⟨h1, h2, h3, h4⟩ := h
  refine ⟨h1.send m (by omega), ?_⟩
  unfold caSend
  split
  · split
    · exact ⟨by show s.acc + 1 ≤ _; omega, by show s.done ≤ _; omega, Nat.zero_le _⟩
    · exact ⟨by show s.acc + 1 ≤ _; omega, by show s.done ≤ _; omega, by show s.acks ≤ _; omega⟩
  · exact ⟨by omega, by omega, by omega⟩
theorem CaFew.tick {j : Nat} {s : Cs} (h : CaFew j s) : CaFew (j + 1) (caTick s) := by
  obtain ⟨h1, h2, h3, h4⟩ := h
  refine ⟨h1.tick, ?_⟩
  unfold caTick
  split
  · exact ⟨by omega, by omega, by omega⟩
  · exact ⟨by show s.acc ≤ _; omega, by show s.done ≤ _; omega, by show s.acks ≤ _; omega⟩
theorem CaFew.take {j : Nat} {s : Cs} (h : CaFew j s) (hj : j < 1000000) (kd lb : Int) : CaFew (j + 1) (caTake s kd lb) := by
  obtain ⟨h1, h2, h3, h4⟩ := h
  refine ⟨h1.take kd lb (by omega) (by omega), ?_⟩
  unfold caTake
  split
  · unfold caAck
    split
    · split
      · split
        · exact ⟨by show s.acc ≤ _; omega, by show s.done + 1 ≤ _; omega, by show s.acks + 1 ≤ _; omega⟩
        · exact ⟨by show s.acc ≤ _; omega, by show s.done + 1 ≤ _; omega, Nat.zero_le _⟩
      · exact ⟨by show s.acc ≤ _; omega, by show s.done ≤ _; omega, by show s.acks + 1 ≤ _; omega⟩
    · exact ⟨by show s.acc ≤ _; omega, by show s.done ≤ _; omega, by show s.acks ≤ _; omega⟩
  · exact ⟨by omega, by omega, by omega⟩
theorem num20_any (e : Int) (w : World) : Calls Try.prog 9 #[.int .i64 e] w fun e' w' => e' = .returned (.int .i64 e) ∧ w = w' := by
  go_enter Try.func9, Try.ntmps9
  go_wp2
  go_ret
  exact ⟨rfl, rfl⟩
/-- an act: its kind, the number, the message, the packet -/
abbrev Act20 := Int × Int × List UInt8 × Pkt
def rdAct20 (w : World) (b o : Nat) (x : Act20) : Prop := (I64 x.1 ∧ I64 x.2.1 ∧ I64 x.2.2.2.1 ∧ I64 x.2.2.2.2.1) ∧ ∃ A c D d, w.cell? ⟨b, o, none⟩ = some (.int .i64 x.1) ∧ w.cell? ⟨b, o + 1, none⟩ = some (.int .i64 x.2.1) ∧ w.cell? ⟨b, o + 2, none⟩ = some (.slice A x.2.2.1.length c) ∧ w.cell? ⟨b, o + 3, none⟩ = some (.int .i64 x.2.2.2.1) ∧ w.cell? ⟨b, o + 4, none⟩ = some (.int .i64 x.2.2.2.2.1) ∧ w.cell? ⟨b, o + 5, none⟩ = some (.slice D x.2.2.2.2.2.length d) ∧ Bys w A x.2.2.1.length c x.2.2.1 ∧ Bys w D x.2.2.2.2.2.length d x.2.2.2.2.2
theorem keeps20 : Keeps rdAct20 := fun _ _ b o _ hb T ⟨h0, A, c, D, d, h1, h2, h3, h4, h5, h6, h7, h8⟩ => ⟨h0, A, c, D, d, (T.cell (p := ⟨b, o, none⟩) hb).trans h1, (T.cell (p := ⟨b, o + 1, none⟩) hb).trans h2, (T.cell (p := ⟨b, o + 2, none⟩) hb).trans h3, (T.cell (p := ⟨b, o + 3, none⟩) hb).trans h4, (T.cell (p := ⟨b, o + 4, none⟩) hb).trans h5, (T.cell (p := ⟨b, o + 5, none⟩) hb).trans h6, h7.below T, h8.below T⟩
def long20 (x : Act20) : Bool := decide (200 < x.2.2.1.length) || decide (200 < x.2.2.2.2.2.length)
def huge20 (l : List Act20) : Bool := decide (100 < l.length) || (l.take 200).any long20
set_option maxHeartbeats 4000000 in
theorem huge20_any (A : Option Addr) (n c : Nat) (l : List Act20) (w : World) (hR : Recs rdAct20 6 w A n c l) :
    Calls Try.prog 5 #[.slice A n c] w fun e w' => e = .returned (.bool (huge20 l)) ∧ Below w.heap.size w w' := by
  have hl := hR.1
  have hnc := hR.2.1
  have hcm := hR.2.2.1
  unfold maxLen at hcm
  have HC := Lib.hid hR.2.2.2
  have HLN := Lib.hid hl
  obtain ⟨r, hr⟩ : ∃ r, huge20 l = r := ⟨_, rfl⟩
  have HR := Lib.hid hr
  rw [hr]
  clear hR hl hr
  go_enter Try.func5, Try.ntmps5
  go_wp2_with (fail)
  go_loopw [3] (fun i wr => ∃ k : Nat, k ≤ n ∧ k ≤ 200 ∧ i = .int .i64 (k : Int) ∧ Hid ((l.take k).any long20 = false) ∧ Below w.heap.size w wr) (fun i _ => n - (intOf i).toNat)
  case atStart => exact ⟨0, Nat.zero_le _, Nat.zero_le _, rfl, rfl, Below.refl _ _⟩
  case round =>
    obtain ⟨k, hk, hk2, rfl, HK, hbel⟩ := hrel
    by_cases hlt : k < n ∧ k < 200
    · have d1 : decide ((k : Int) < (n : Int)) = true := by simp; omega
      have d2 : decide ((k : Int) < 200) = true := by simp; omega
      have hkl : k < l.length := by rw [HLN.out]; exact hlt.1
      obtain ⟨b, o, rfl, hb, hc⟩ := HC.out (by omega)
      obtain ⟨-, A', c', D', d', -, -, q2, -, -, q5, qB, qD⟩ := hc k hkl
      have e2 := (hbel.cell (p := ⟨b, o + k * 6 + 2, none⟩) hb).trans q2
      have e5 := (hbel.cell (p := ⟨b, o + k * 6 + 5, none⟩) hb).trans q5
      have ht : l.take (k + 1) = l.take k ++ [l[k]] := List.take_succ_eq_append_getElem hkl
      have hlen := qB.le
      have hlen2 := qD.le
      have hkn : (k : Int) < (n : Int) := by omega
      have HT : Hid ((l.take (k + 1)).any long20 = long20 l[k]) := by
        show _ = _
        rw [ht, List.any_append, HK.out]
        simp
      have HH : Hid (long20 l[k] = true → huge20 l = true) := fun h => by
        unfold huge20
        rw [Bool.or_eq_true]
        refine .inr (List.any_eq_true.2 ⟨l[k], ?_, h⟩)
        exact List.mem_iff_getElem.2 ⟨k, by simp; omega, by simp⟩
      have HLG : Hid (long20 l[k] = (decide (200 < l[k].2.2.1.length) || decide (200 < l[k].2.2.2.2.2.length))) := rfl
      clear hc q2 q5 ht qB qD
      generalize long20 l[k] = lg at *
      generalize l[k].2.2.1.length = L at *
      generalize l[k].2.2.2.2.2.length = M at *
      by_cases h1 : 200 < L
      · have d3 : decide ((200 : Int) < (L : Int)) = true := by simp; omega
        have e := HH.out (by rw [HLG.out, show decide (200 < L) = true by simpa using h1]; rfl)
        rw [HR.out] at e
        subst e
        go_wp2
        go_ret
        exact ⟨rfl, hbel⟩
      · have d3 : decide ((200 : Int) < (L : Int)) = false := by simp; omega
        by_cases h2 : 200 < M
        · have d4 : decide ((200 : Int) < (M : Int)) = true := by simp; omega
          have e := HH.out (by rw [HLG.out, show decide (200 < M) = true by simpa using h2, Bool.or_true])
          rw [HR.out] at e
          subst e
          go_wp2
          go_ret
          exact ⟨rfl, hbel⟩
        · have d4 : decide ((200 : Int) < (M : Int)) = false := by simp; omega
          have e := HT.out
          rw [HLG.out, show decide (200 < L) = false by simpa using h1, show decide (200 < M) = false by simpa using h2] at e
          have HT2 := Lib.hid e
          clear e HT HH HLG
          go_wp2
          go_roundw
          case rel => exact ⟨k + 1, by omega, by omega, by go_num, HT2.out, hbel⟩
          case measure => simp [intOf]; omega
    · have e : r = decide (100 < n) := by
        rw [← HR.out]
        unfold huge20
        rw [HLN.out]
        by_cases h3 : 100 < n
        · rw [show decide (100 < n) = true by simpa using h3, Bool.true_or]
        · have h4 : l.take 200 = l.take k := by rw [List.take_of_length_le (by rw [HLN.out]; omega), List.take_of_length_le (by rw [HLN.out]; omega)]
          rw [h4, HK.out, Bool.or_false]
      subst e
      by_cases h1 : k < n
      · have d1 : decide ((k : Int) < (n : Int)) = true := by simp; omega
        have d2 : decide ((k : Int) < 200) = false := by simp; omega
        have d3 : decide ((100 : Int) < (n : Int)) = true := by simp; omega
        have d4 : decide (100 < n) = true := by simp; omega
        have HD4 := Lib.hid d4
        clear HR d4
        go_wp2
        go_ret
        exact ⟨ret_bool HD4.out.symm, hbel⟩
      · have d1 : decide ((k : Int) < (n : Int)) = false := by simp; omega
        have d4 : decide ((100 : Int) < (n : Int)) = decide (100 < n) := by rw [decide_eq_decide]; omega
        clear HR
        go_wp2
        go_ret
        exact ⟨rfl, hbel⟩
theorem huge20_few {l : List Act20} (h : huge20 l = false) : l.length ≤ 100 := by
  unfold huge20 at h
  rw [Bool.or_eq_false_iff] at h
  simpa using h.1
theorem row6 {w : World} {g : Nat} {t : TypeId} {a b c d e f : Value} (h : w.heap[g]? = some (.cells #[a, b, c, d, e, f] t (0, 0))) :
    w.cell? ⟨g, 0, none⟩ = some a ∧ w.cell? ⟨g, 1, none⟩ = some b ∧ w.cell? ⟨g, 2, none⟩ = some c ∧ w.cell? ⟨g, 3, none⟩ = some d ∧ w.cell? ⟨g, 4, none⟩ = some e ∧ w.cell? ⟨g, 5, none⟩ = some f :=
  ⟨cell_of_row _ _ _ _ _ _ h, cell_of_row _ _ _ _ _ _ h, cell_of_row _ _ _ _ _ _ h, cell_of_row _ _ _ _ _ _ h, cell_of_row _ _ _ _ _ _ h, cell_of_row _ _ _ _ _ _ h⟩
set_option maxHeartbeats 4000000 in
theorem alike20_any {F : Nat → Cs → World → (Nat → Prop) → Prop} (C : CaC F) (ga gr : Nat) (s : Cs) (w : World) (X Y : Nat → Prop) (hF : F ga s w X) (hR : RCa gr s w Y) :
    Calls Try.prog 19 #[.pointer (some ⟨ga, 0, none⟩), .pointer (some ⟨gr, 0, none⟩)] w fun e w' => e = .returned (.bool true) ∧ Below w.heap.size w w' := by
  obtain ⟨gq, gl, Xq, hv, rfl⟩ := hR
  have HS := Lib.hid (C.state ga s w X hF)
  have HV := Lib.hid (fun W (U : Below w.heap.size w W) => hv.below U)
  clear hF hv
  obtain ⟨sp, hsp⟩ : ∃ b, ldS s.o = b := ⟨_, rfl⟩
  have HSP := Lib.hid hsp
  rw [hsp] at HS
  have n1 : ((s.acc : Int) == (s.acc : Int)) = true := by simp
  have n2 : ((s.done : Int) == (s.done : Int)) = true := by simp
  have n3 : ((s.o : Int) == (s.o : Int)) = true := by simp
  have n4 : ((s.k : Int) == (s.k : Int)) = true := by simp
  have n5 : ((s.acks : Int) == (s.acks : Int)) = true := by simp
  have n6 : (sp == sp) = true := by simp
  go_enter Try.func19, Try.ntmps19
  go_wp2_with (fail)
  refine HS.out.mono ?_
  rintro e w1 ⟨rfl, T1⟩
  have U := T1.alloc T1.size (.cells #[.int .i64 (s.acc : Int), .int .i64 (s.done : Int), .int .u64 (s.o : Int), .int .u64 (s.k : Int), .int .u64 (s.acks : Int), .bool sp] 52)
  have h0 := heap_alloc_new w1 (.cells #[.int .i64 (s.acc : Int), .int .i64 (s.done : Int), .int .u64 (s.o : Int), .int .u64 (s.k : Int), .int .u64 (s.acks : Int), .bool sp] 52)
  have R1 := HV.out _ U
  obtain ⟨c0, c1, c2, c3, c4, -⟩ := R1.cells
  have hl := R1.2.2.1
  unfold LRow at hl
  rw [hsp] at hl
  obtain ⟨l0, l1, l2, -, -, -⟩ := row3 hl
  obtain ⟨a0, a1, a2, a3, a4, a5⟩ := row6 h0
  clear R1 hl hsp h0
  go_wp2_with (fail)
  go_quiet (fail)
  go_wp2
  go_ret
  exact ⟨rfl, below_drewN' U nq⟩
end Go.Proofs.Ytepmecmhnefhkaa
