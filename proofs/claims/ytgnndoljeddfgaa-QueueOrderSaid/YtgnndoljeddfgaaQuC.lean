/- Package queue by its contracts; what layer 19's law's own num, huge, live answer over them. -/
import Derived.Test.YtgnndoljeddfgaaRqu
import Derived.Test.YtgnndoljeddfgaaRecs
import Derived.Test.YtgnndoljeddfgaaSameAll
namespace Go.Proofs.Ytgnndoljeddfgaa
open Go.RowKit
set_option maxRecDepth 20000

/-- a list of texts in memory of its own, at no block of Y, that may be written -/
def RFre (w : World) (Y : Nat → Prop) (P : Option Addr) (n c : Nat) (ls : List (List UInt8)) : Prop :=
  ls.length = n ∧ n ≤ c ∧ c ≤ maxLen ∧ Av Y n P ∧ (0 < n → ∃ b o, P = some ⟨b, o, none⟩ ∧ b < w.heap.size ∧ ∀ j (h : j < ls.length), ∃ A d, w.cell? ⟨b, o + j, none⟩ = some (.slice A ls[j].length d) ∧ Fre w (fun k => Y k ∨ k = b) A ls[j].length d ls[j])
theorem RFre.rws {w : World} {Y : Nat → Prop} {P : Option Addr} {n c : Nat} {ls : List (List UInt8)} (h : RFre w Y P n c ls) : Rws w P n c ls :=
  ⟨h.1, h.2.1, h.2.2.1, fun hn => by
    obtain ⟨b, o, e, hb, hc⟩ := h.2.2.2.2 hn
    have : ∀ j, j < ls.length → ∃ v, w.cell? ⟨b, o + j, none⟩ = some v ∧ ∀ h : j < ls.length, ∃ A d, v = .slice A ls[j].length d ∧ Bys w A ls[j].length d ls[j] := fun j hj => by
      obtain ⟨A, d, k1, k2⟩ := hc j hj
      exact ⟨_, k1, fun _ => ⟨A, d, rfl, k2.1⟩⟩
    obtain ⟨V, hV⟩ := Go.Deep.choose_lt this
    refine ⟨b, o, (List.range ls.length).map V, e, hb, by simp, fun j hj => ?_, fun j hj hj' => ?_⟩
    · simp at hj; simpa using (hV j hj).1
    · simp at hj; simpa using (hV j hj).2 hj⟩
theorem RFre.below {w w' : World} {Y : Nat → Prop} {P : Option Addr} {n c : Nat} {ls : List (List UInt8)} (h : RFre w Y P n c ls) (T : Below w.heap.size w w') : RFre w' Y P n c ls :=
  ⟨h.1, h.2.1, h.2.2.1, h.2.2.2.1, fun hn => by
    obtain ⟨b, o, e, hb, hc⟩ := h.2.2.2.2 hn
    refine ⟨b, o, e, by have := T.size; omega, fun j hj => ?_⟩
    obtain ⟨A, d, k1, k2⟩ := hc j hj
    exact ⟨A, d, (T.cell (p := ⟨b, o + j, none⟩) hb).trans k1, k2.below T⟩⟩

/-- what package queue answers, in plain words: Q g room ls w X: at block g lies a queue for room messages that holds ls; its blocks are X -/
structure QuC (Q : Nat → Nat → List (List UInt8) → World → (Nat → Prop) → Prop) : Prop where
  holds : ∀ g room ls, Holds (Q g room ls)
  new_no : ∀ (r : Int) (w : World), I64 r → (r < 1 ∨ 16 < r) → Calls Try.prog 8 #[.int .i64 r] w fun e w' => e = .returned (.tuple #[.pointer none, .int .i64 1]) ∧ Below w.heap.size w w'
  new_yes : ∀ (room : Nat) (w : World), 1 ≤ room → room ≤ 16 → Calls Try.prog 8 #[.int .i64 (room : Int)] w fun e w' => ∃ g X, e = .returned (.tuple #[.pointer (some ⟨g, 0, none⟩), .int .i64 0]) ∧ Q g room [] w' X ∧ (∀ k, X k → w.heap.size ≤ k) ∧ Below w.heap.size w w'
  push : ∀ (g room : Nat) (ls : List (List UInt8)) (A : Option Addr) (n c : Nat) (m : List UInt8) (w : World) (X : Nat → Prop), Q g room ls w X → Bys w A n c m → Calls Try.prog 14 #[.pointer (some ⟨g, 0, none⟩), .slice A n c] w fun e w' => e = .returned (.int .i64 ((quPushE room ls n : Nat) : Int)) ∧ ∃ X', Q g room (quPush room ls m) w' X' ∧ Turns X X' w w'
  pop : ∀ (g room : Nat) (ls : List (List UInt8)) (w : World) (X : Nat → Prop), Q g room ls w X → Calls Try.prog 11 #[.pointer (some ⟨g, 0, none⟩)] w fun e w' => ∃ A n c X', e = .returned (.tuple #[.slice A n c, .bool (!ls.isEmpty)]) ∧ Fre w' X' A n c (ls.headD []) ∧ (0 < n → ∀ p, A = some p → X p.block ∨ w.heap.size ≤ p.block) ∧ Q g room ls.tail w' X' ∧ Turns X X' w w'
  front : ∀ (g room : Nat) (ls : List (List UInt8)) (w : World) (X : Nat → Prop), Q g room ls w X → Calls Try.prog 16 #[.pointer (some ⟨g, 0, none⟩)] w fun e w' => ∃ A n c, e = .returned (.tuple #[.slice A n c, .bool (!ls.isEmpty)]) ∧ Fre w' (· < w.heap.size) A n c (ls.headD []) ∧ Below w.heap.size w w'
  at_ : ∀ (g room : Nat) (ls : List (List UInt8)) (i : Int) (w : World) (X : Nat → Prop), I64 i → Q g room ls w X → Calls Try.prog 18 #[.pointer (some ⟨g, 0, none⟩), .int .i64 i] w fun e w' => ∃ A n c, e = .returned (.tuple #[.slice A n c, .bool (decide (0 ≤ i ∧ i < ls.length))]) ∧ Fre w' (· < w.heap.size) A n c (if 0 ≤ i ∧ i < ls.length then ls.getD i.toNat [] else []) ∧ Below w.heap.size w w'
  len : ∀ (g room : Nat) (ls : List (List UInt8)) (w : World) (X : Nat → Prop), Q g room ls w X → Calls Try.prog 19 #[.pointer (some ⟨g, 0, none⟩)] w fun e w' => e = .returned (.int .i64 (ls.length : Int)) ∧ Below w.heap.size w w'
  free : ∀ (g room : Nat) (ls : List (List UInt8)) (w : World) (X : Nat → Prop), Q g room ls w X → Calls Try.prog 20 #[.pointer (some ⟨g, 0, none⟩)] w fun e w' => e = .returned (.int .i64 ((room : Int) - (ls.length : Int))) ∧ Below w.heap.size w w'
  all : ∀ (g room : Nat) (ls : List (List UInt8)) (w : World) (X : Nat → Prop), Q g room ls w X → Calls Try.prog 22 #[.pointer (some ⟨g, 0, none⟩)] w fun e w' => ∃ P n c, e = .returned (.slice P n c) ∧ RFre w' (· < w.heap.size) P n c ls ∧ Below w.heap.size w w'
  npush : ∀ (A : Option Addr) (n c : Nat) (m : List UInt8) (w : World), Bys w A n c m → Calls Try.prog 14 #[.pointer none, .slice A n c] w fun e w' => e = .returned (.int .i64 5) ∧ Below w.heap.size w w'
  npop : ∀ (w : World), Calls Try.prog 11 #[.pointer none] w fun e w' => e = .returned (.tuple #[.slice none 0 0, .bool false]) ∧ Below w.heap.size w w'
  nfront : ∀ (w : World), Calls Try.prog 16 #[.pointer none] w fun e w' => e = .returned (.tuple #[.slice none 0 0, .bool false]) ∧ Below w.heap.size w w'
  nlen : ∀ (w : World), Calls Try.prog 19 #[.pointer none] w fun e w' => e = .returned (.int .i64 0) ∧ Below w.heap.size w w'
  nfree : ∀ (w : World), Calls Try.prog 20 #[.pointer none] w fun e w' => e = .returned (.int .i64 0) ∧ Below w.heap.size w w'
  nall : ∀ (w : World), Calls Try.prog 22 #[.pointer none] w fun e w' => ∃ P c, e = .returned (.slice P 0 c) ∧ Below w.heap.size w w'
/-- both a queue's room and how many it holds -/
def QOk (room : Nat) (ls : List (List UInt8)) : Prop := 1 ≤ room ∧ room ≤ 16 ∧ ls.length ≤ room ∧ ∀ m ∈ ls, m.length ≤ 64
theorem QOk.push {room : Nat} {ls : List (List UInt8)} (h : QOk room ls) (m : List UInt8) : QOk room (quPush room ls m) := by
  unfold quPush quPushE
  by_cases h1 : 64 < m.length
  · simpa [if_pos h1] using h
  · rw [if_neg h1]
    by_cases h2 : room ≤ ls.length
    · simpa [if_pos h2] using h
    · rw [if_neg h2]
      simp only [if_true]
      obtain ⟨a, b, c, d⟩ := h
      refine ⟨a, b, by simp; omega, fun u hu => ?_⟩
      rcases List.mem_append.1 hu with hu | hu
      · exact d u hu
      · rw [List.mem_singleton.1 hu]; omega
theorem QOk.pop {room : Nat} {ls : List (List UInt8)} (h : QOk room ls) : QOk room ls.tail := ⟨h.1, h.2.1, by have := h.2.2.1; simp; omega, fun u hu => h.2.2.2 u (List.mem_of_mem_tail hu)⟩
theorem RQ.ok {g room : Nat} {ls : List (List UInt8)} {w : World} {X : Nat → Prop} (h : RQ g room ls w X) : QOk room ls := h.2.2.1
theorem rqpush_any (g room : Nat) (ls : List (List UInt8)) (A : Option Addr) (n c : Nat) (m : List UInt8) (w : World) (X : Nat → Prop) (hQ : RQ g room ls w X) (hB : Bys w A n c m) :
    Calls Try.prog 15 #[.pointer (some ⟨g, 0, none⟩), .slice A n c] w fun e w' => e = .returned (.int .i64 ((quPushE room ls n : Nat) : Int)) ∧ ∃ X', RQ g room (quPush room ls m) w' X' ∧ Turns X X' w w' := by
  have hl := hB.len
  by_cases h : quPushE room ls n = 0
  · have h1 : n ≤ 64 := by
      unfold quPushE at h
      by_cases h1 : 64 < n
      · rw [if_pos h1] at h; cases h
      · omega
    have h2 : ls.length < room := by
      unfold quPushE at h
      rw [if_neg (by omega)] at h
      by_cases h2 : room ≤ ls.length
      · rw [if_pos h2] at h; cases h
      · omega
    have e : quPush room ls m = ls ++ [m] := by unfold quPush; rw [hl, if_pos h]
    rw [e, h]
    exact rqpush_yes g room ls A n c m w X hQ hB h1 h2
  · have e : quPush room ls m = ls := by unfold quPush; rw [hl, if_neg h]
    rw [e]
    exact (rqpush_no g room ls A n c w X hQ h).mono fun _ _ ⟨h1, h2⟩ => ⟨h1, X, (RQ.holds g room ls).below hQ h2, Turns.of_below h2⟩
theorem rqpop_any2 (g room : Nat) (ls : List (List UInt8)) (w : World) (X : Nat → Prop) (hQ : RQ g room ls w X) :
    Calls Try.prog 12 #[.pointer (some ⟨g, 0, none⟩)] w fun e w' => ∃ A n c X', e = .returned (.tuple #[.slice A n c, .bool (!ls.isEmpty)]) ∧ Bys w' A n c (ls.headD []) ∧ RQ g room ls.tail w' X' ∧ Turns X X' w w' ∧ Av (fun k => X' k ∨ ¬ X k) n A := by
  match ls, hQ with
  | [], hQ =>
    refine (rqpop_no g room w X hQ).mono ?_
    rintro e w' ⟨rfl, rfl⟩
    exact ⟨_, _, _, X, rfl, Bys.nil _, hQ, Turns.of_below (Below.refl _ _), Av.none _ _⟩
  | m :: ls, hQ => exact rqpop_yes g room m ls w X hQ
theorem rqpop_any (g room : Nat) (ls : List (List UInt8)) (w : World) (X : Nat → Prop) (hQ : RQ g room ls w X) :
    Calls Try.prog 12 #[.pointer (some ⟨g, 0, none⟩)] w fun e w' => ∃ A n c X', e = .returned (.tuple #[.slice A n c, .bool (!ls.isEmpty)]) ∧ Bys w' A n c (ls.headD []) ∧ RQ g room ls.tail w' X' ∧ Turns X X' w w' ∧ Av X' n A :=
  (rqpop_any2 g room ls w X hQ).mono fun _ _ ⟨A, n, c, X', h1, h2, h3, h4, h5⟩ => ⟨A, n, c, X', h1, h2, h3, h4, h5.imp (fun _ hk => .inl hk)⟩
theorem num19_any (e : Int) (w : World) : Calls Try.prog 10 #[.int .i64 e] w fun e' w' => e' = .returned (.int .i64 e) ∧ w = w' := by
  go_enter Try.func10, Try.ntmps10
  go_wp2
  go_ret
  exact ⟨rfl, rfl⟩
/-- an act: whether it pops, and the message -/
def rdAct19 (w : World) (b o : Nat) (x : Bool × List UInt8) : Prop := ∃ A c, w.cell? ⟨b, o, none⟩ = some (.bool x.1) ∧ w.cell? ⟨b, o + 1, none⟩ = some (.slice A x.2.length c) ∧ Bys w A x.2.length c x.2
theorem keeps19 : Keeps rdAct19 := fun _ _ b o _ hb T ⟨A, c, h1, h2, h3⟩ => ⟨A, c, (T.cell (p := ⟨b, o, none⟩) hb).trans h1, (T.cell (p := ⟨b, o + 1, none⟩) hb).trans h2, h3.below T⟩
def huge19 (l : List (Bool × List UInt8)) : Bool := decide (100 < l.length) || (l.take 200).any fun x => decide (200 < x.2.length)
set_option maxHeartbeats 2000000 in
theorem huge19_any (A : Option Addr) (n c : Nat) (l : List (Bool × List UInt8)) (w : World) (hR : Recs rdAct19 2 w A n c l) :
    Calls Try.prog 6 #[.slice A n c] w fun e w' => e = .returned (.bool (huge19 l)) ∧ Below w.heap.size w w' := by
  have hl := hR.1
  have hnc := hR.2.1
  have hcm := hR.2.2.1
  unfold maxLen at hcm
  have HC := Lib.hid hR.2.2.2
  have HLN := Lib.hid hl
  obtain ⟨r, hr⟩ : ∃ r, huge19 l = r := ⟨_, rfl⟩
  have HR := Lib.hid hr
  rw [hr]
  clear hR hl hr
  go_enter Try.func6, Try.ntmps6
  go_wp2_with (fail)
  go_loopw [3] (fun i wr => ∃ k : Nat, k ≤ n ∧ k ≤ 200 ∧ i = .int .i64 (k : Int) ∧ Hid ((l.take k).any (fun x => decide (200 < x.2.length)) = false) ∧ Below w.heap.size w wr) (fun i _ => n - (intOf i).toNat)
  case atStart => exact ⟨0, Nat.zero_le _, Nat.zero_le _, rfl, rfl, Below.refl _ _⟩
  case round =>
    obtain ⟨k, hk, hk2, rfl, HK, hbel⟩ := hrel
    by_cases hlt : k < n ∧ k < 200
    · have d1 : decide ((k : Int) < (n : Int)) = true := by simp; omega
      have d2 : decide ((k : Int) < 200) = true := by simp; omega
      have hkl : k < l.length := by rw [HLN.out]; exact hlt.1
      obtain ⟨b, o, rfl, hb, hc⟩ := HC.out (by omega)
      obtain ⟨A', c', q0, q1, q2⟩ := hc k hkl
      have c1 := (hbel.cell (p := ⟨b, o + k * 2 + 1, none⟩) hb).trans q1
      have ht : l.take (k + 1) = l.take k ++ [l[k]] := List.take_succ_eq_append_getElem hkl
      have hlen := q2.le
      have HT : Hid ((l.take (k + 1)).any (fun x => decide (200 < x.2.length)) = decide (200 < l[k].2.length)) := by
        show _ = _
        rw [ht, List.any_append, HK.out]
        simp
      have HH : Hid (200 < l[k].2.length → huge19 l = true) := fun h => by
        unfold huge19
        rw [Bool.or_eq_true]
        refine .inr (List.any_eq_true.2 ⟨l[k], ?_, by simpa using h⟩)
        exact List.mem_iff_getElem.2 ⟨k, by simp; omega, by simp⟩
      clear hc q0 q2 ht
      generalize l[k].2.length = L at *
      by_cases h1 : 200 < L
      · have d3 : decide ((200 : Int) < (L : Int)) = true := by simp; omega
        have e := HH.out h1
        rw [HR.out] at e
        subst e
        go_wp2
        go_ret
        exact ⟨rfl, hbel⟩
      · have d3 : decide ((200 : Int) < (L : Int)) = false := by simp; omega
        have e := HT.out
        rw [show decide (200 < L) = false by simpa using h1] at e
        have HT2 := Lib.hid e
        clear e HT HH
        go_wp2
        go_roundw
        case rel => exact ⟨k + 1, by omega, by omega, by go_num, HT2.out, hbel⟩
        case measure => simp [intOf]; omega
    · have e : r = decide (100 < n) := by
        rw [← HR.out]
        unfold huge19
        rw [HLN.out]
        by_cases h3 : 100 < n
        · rw [show decide (100 < n) = true by simpa using h3, Bool.true_or]
        · have h4 : l.take 200 = l.take k := by rw [List.take_of_length_le (by rw [HLN.out]; omega), List.take_of_length_le (by rw [HLN.out]; omega)]
          rw [h4, HK.out, Bool.or_false]
      subst e
      by_cases h1 : k < n
      · have d1 : decide ((k : Int) < (n : Int)) = true := by simp; omega
        have d2 : decide ((k : Int) < 200) = false := by simp; omega
        have d3 : decide ((100 : Int) < (n : Int)) = true := by simp; omega
        have d4 : decide (100 < n) = true := by simp; omega
        have HD4 := Lib.hid d4
        clear HR d4
        go_wp2
        go_ret
        exact ⟨ret_bool HD4.out.symm, hbel⟩
      · have d1 : decide ((k : Int) < (n : Int)) = false := by simp; omega
        have d4 : decide ((100 : Int) < (n : Int)) = decide (100 < n) := by rw [decide_eq_decide]; omega
        clear HR
        go_wp2
        go_ret
        exact ⟨rfl, hbel⟩
theorem lit98 (w : World) : Bys (w.alloc (.cells #[.int .u8 98] 5 (1, 2))) (some ⟨w.heap.size, 0, none⟩) 1 1 [98] := Bys.litf w [98] (1, 2) (by decide)
theorem lit97q (w : World) : Bys (w.alloc (.cells #[.int .u8 97] 5 (1, 2))) (some ⟨w.heap.size, 0, none⟩) 1 1 [97] := Bys.litf w [97] (1, 2) (by decide)
set_option maxHeartbeats 2000000 in
theorem live19_any {Q : Nat → Nat → List (List UInt8) → World → (Nat → Prop) → Prop} (C : QuC Q) (w : World) : Calls Try.prog 7 #[] w fun e w' => e = .returned (.bool true) ∧ Below w.heap.size w w' := by
  have H1 := Lib.hid (C.new_yes 1 w (by decide) (by decide))
  have h2 := fun g W X A c h hB => C.push g 1 [] A 1 c [97] W X h hB
  rw [show quPushE 1 [] 1 = 0 by decide, show quPush 1 [] [97] = [[97]] by decide] at h2
  have h3 := fun g W X A c h hB => C.push g 1 [[97]] A 1 c [98] W X h hB
  rw [show quPushE 1 [[97]] 1 = 3 by decide, show quPush 1 [[97]] [98] = [[97]] by decide] at h3
  have h4 := fun g W X h => C.pop g 1 [[97]] W X h
  have H2 := Lib.hid h2
  have H3 := Lib.hid h3
  have H4 := Lib.hid h4
  have kc := fun (w : World) (C : Array Value) (n c : Nat) => Lib.run_convert_bytes_const (P := Try.prog) w 33 5 C n c Try.underlying33 Try.underlying5
  have HN := Lib.hid num19_any
  clear h2 h3 h4
  go_enter Try.func7, Try.ntmps7
  go_wp2_with (fail)
  refine H1.out.mono ?_
  rintro e w1 ⟨g, X1, rfl, q1, x1, T1⟩
  have T1a := T1.alloc T1.size (.cells #[.int .u8 97] 5 (1, 2))
  have Q1 := Lib.hid ((C.holds _ _ _).below q1 ((Below.refl _ w1).alloc (Nat.le_refl _) (.cells #[.int .u8 97] 5 (1, 2))))
  clear q1
  go_wp2_with (fail)
  refine (H2.out _ _ _ _ _ Q1.out (lit97q w1)).mono ?_
  rintro e w2 ⟨rfl, X2, q2, t2⟩
  have hX2 : ∀ k, X2 k → w.heap.size ≤ k := fun k hk => by
    rcases t2.grow k hk with h | h
    · exact x1 k h
    · exact Nat.le_trans T1a.size h
  have T2 := T1a.trans (t2.off.below x1 T1a.size)
  have T2a := T2.alloc T2.size (.cells #[.int .u8 98] 5 (1, 2))
  have Q2 := Lib.hid ((C.holds _ _ _).below q2 ((Below.refl _ w2).alloc (Nat.le_refl _) (.cells #[.int .u8 98] 5 (1, 2))))
  clear q2 t2 T1a x1
  go_wp2_with (fail)
  refine (H3.out _ _ _ _ _ Q2.out (lit98 w2)).mono ?_
  rintro e w3 ⟨rfl, X3, q3, t3⟩
  have hX3 : ∀ k, X3 k → w.heap.size ≤ k := fun k hk => by
    rcases t3.grow k hk with h | h
    · exact hX2 k h
    · exact Nat.le_trans T2a.size h
  have T3 := T2a.trans (t3.off.below hX2 T2a.size)
  have Q3 := Lib.hid q3
  clear q3 t3 T2a T2 hX2
  go_wp2_with (fail)
  refine (H4.out _ _ _ Q3.out).mono ?_
  rintro e w4 ⟨A, n, c, X4, rfl, F4, _, q4, t4⟩
  have T4 := T3.trans (t4.off.below hX3 T3.size)
  have ks := conv_bys F4.1
  simp only [List.headD_cons] at ks
  clear q4 t4 F4 T3 hX3
  go_wp2_with (fail)
  refine (HN.out _ _).mono ?_
  rintro e w5 ⟨rfl, rfl⟩
  go_wp2_with (fail)
  refine (HN.out _ _).mono ?_
  rintro e w5 ⟨rfl, rfl⟩
  go_wp2_with (fail)
  refine (HN.out _ _).mono ?_
  rintro e w5 ⟨rfl, rfl⟩
  go_wp2
  go_ret
  exact ⟨rfl, T4⟩
end Go.Proofs.Ytgnndoljeddfgaa
