/- Package queue by its contracts; what layer 19's law's own num, huge, live answer over them. -/
import Derived.Test.YtoajbocpebfjoaaRqu
import Derived.Test.YtoajbocpebfjoaaRecs
import Derived.Test.YtoajbocpebfjoaaSameAll
namespace Go.Proofs.Ytoajbocpebfjoaa
open Go.RowKit
set_option maxRecDepth 20000

/-- a list of texts in memory of its own, at no block of Y, that may be written -/
def RFre (w : World) (Y : Nat → Prop) (P : Option Addr) (n c : Nat) (ls : List (List UInt8)) : Prop :=
  ls.length = n ∧ n ≤ c ∧ c ≤ maxLen ∧ Av Y n P ∧ (0 < n → ∃ b o, P = some ⟨b, o, none⟩ ∧ b < w.heap.size ∧ ∀ j (h : j < ls.length), ∃ A d, w.cell? ⟨b, o + j, none⟩ = some (.slice A ls[j].length d) ∧ Fre w (fun k => Y k ∨ k = b) A ls[j].length d ls[j])
theorem RFre.rws {w : World} {Y : Nat → Prop} {P : Option Addr} {n c : Nat} {ls : List (List UInt8)} (h : RFre w Y P n c ls) : Rws w P n c ls :=
  ⟨h.1, h.2.1, h.2.2.1, fun hn => by
    obtain ⟨b, o, e, hb, hc⟩ := h.2.2.2.2 hn
    have : ∀ j, j < ls.length → ∃ v, w.cell? ⟨b, o + j, none⟩ = some v ∧ ∀ h : j < ls.length, ∃ A d, v = .slice A ls[j].length d ∧ Bys w A ls[j].length d ls[j] := fun j hj => by
      obtain ⟨A, d, k1, k2⟩ := hc j hj
      exact ⟨_, k1, fun _ => ⟨A, d, rfl, k2.1⟩⟩
    obtain ⟨V, hV⟩ := Go.Deep.choose_lt this
    refine ⟨b, o, (List.range ls.length).map V, e, hb, by simp, fun j hj => ?_, fun j hj hj' => ?_⟩
    · simp at hj; simpa using (hV j hj).1
    · simp at hj; simpa using (hV j hj).2 hj⟩
theorem RFre.below {w w' : World} {Y : Nat → Prop} {P : Option Addr} {n c : Nat} {ls : List (List UInt8)} (h : RFre w Y P n c ls) (T : Below w.heap.size w w') : RFre w' Y P n c ls :=
  ⟨h.1, h.2.1, h.2.2.1, h.2.2.2.1, fun hn => by
    obtain ⟨b, o, e, hb, hc⟩ := h.2.2.2.2 hn
    refine ⟨b, o, e, by have := T.size; omega, fun j hj => ?_⟩
    obtain ⟨A, d, k1, k2⟩ := hc j hj
    exact ⟨A, d, (T.cell (p := ⟨b, o + j, none⟩) hb).trans k1, k2.below T⟩⟩

/-- what package queue answers, in plain words: Q g room ls w X: at block g lies a queue for room messages that holds ls; its blocks are X -/
structure QuC (Q : Nat → Nat → List (List UInt8) → World → (Nat → Prop) → Prop) : Prop where
  holds : ∀ g room ls, Holds (Q g room ls)
  new_no : ∀ (r : Int) (w : World), I64 r → (r < 1 ∨ 16 < r) → Calls Try.prog 24 #[.int .i64 r] w fun e w' => e = .returned (.tuple #[.pointer none, .int .i64 1]) ∧ Below w.heap.size w w'
  new_yes : ∀ (room : Nat) (w : World), 1 ≤ room → room ≤ 16 → Calls Try.prog 24 #[.int .i64 (room : Int)] w fun e w' => ∃ g X, e = .returned (.tuple #[.pointer (some ⟨g, 0, none⟩), .int .i64 0]) ∧ Q g room [] w' X ∧ (∀ k, X k → w.heap.size ≤ k) ∧ Below w.heap.size w w'
  push : ∀ (g room : Nat) (ls : List (List UInt8)) (A : Option Addr) (n c : Nat) (m : List UInt8) (w : World) (X : Nat → Prop), Q g room ls w X → Bys w A n c m → Calls Try.prog 49 #[.pointer (some ⟨g, 0, none⟩), .slice A n c] w fun e w' => e = .returned (.int .i64 ((quPushE room ls n : Nat) : Int)) ∧ ∃ X', Q g room (quPush room ls m) w' X' ∧ Turns X X' w w'
  pop : ∀ (g room : Nat) (ls : List (List UInt8)) (w : World) (X : Nat → Prop), Q g room ls w X → Calls Try.prog 34 #[.pointer (some ⟨g, 0, none⟩)] w fun e w' => ∃ A n c X', e = .returned (.tuple #[.slice A n c, .bool (!ls.isEmpty)]) ∧ Fre w' X' A n c (ls.headD []) ∧ (0 < n → ∀ p, A = some p → X p.block ∨ w.heap.size ≤ p.block) ∧ Q g room ls.tail w' X' ∧ Turns X X' w w'
  front : ∀ (g room : Nat) (ls : List (List UInt8)) (w : World) (X : Nat → Prop), Q g room ls w X → Calls Try.prog 45 #[.pointer (some ⟨g, 0, none⟩)] w fun e w' => ∃ A n c, e = .returned (.tuple #[.slice A n c, .bool (!ls.isEmpty)]) ∧ Fre w' (· < w.heap.size) A n c (ls.headD []) ∧ Below w.heap.size w w'
  at_ : ∀ (g room : Nat) (ls : List (List UInt8)) (i : Int) (w : World) (X : Nat → Prop), I64 i → Q g room ls w X → Calls Try.prog 48 #[.pointer (some ⟨g, 0, none⟩), .int .i64 i] w fun e w' => ∃ A n c, e = .returned (.tuple #[.slice A n c, .bool (decide (0 ≤ i ∧ i < ls.length))]) ∧ Fre w' (· < w.heap.size) A n c (if 0 ≤ i ∧ i < ls.length then ls.getD i.toNat [] else []) ∧ Below w.heap.size w w'
  len : ∀ (g room : Nat) (ls : List (List UInt8)) (w : World) (X : Nat → Prop), Q g room ls w X → Calls Try.prog 37 #[.pointer (some ⟨g, 0, none⟩)] w fun e w' => e = .returned (.int .i64 (ls.length : Int)) ∧ Below w.heap.size w w'
  free : ∀ (g room : Nat) (ls : List (List UInt8)) (w : World) (X : Nat → Prop), Q g room ls w X → Calls Try.prog 51 #[.pointer (some ⟨g, 0, none⟩)] w fun e w' => e = .returned (.int .i64 ((room : Int) - (ls.length : Int))) ∧ Below w.heap.size w w'
  all : ∀ (g room : Nat) (ls : List (List UInt8)) (w : World) (X : Nat → Prop), Q g room ls w X → Calls Try.prog 38 #[.pointer (some ⟨g, 0, none⟩)] w fun e w' => ∃ P n c, e = .returned (.slice P n c) ∧ RFre w' (· < w.heap.size) P n c ls ∧ Below w.heap.size w w'
  npush : ∀ (A : Option Addr) (n c : Nat) (m : List UInt8) (w : World), Bys w A n c m → Calls Try.prog 49 #[.pointer none, .slice A n c] w fun e w' => e = .returned (.int .i64 5) ∧ Below w.heap.size w w'
  npop : ∀ (w : World), Calls Try.prog 34 #[.pointer none] w fun e w' => e = .returned (.tuple #[.slice none 0 0, .bool false]) ∧ Below w.heap.size w w'
  nfront : ∀ (w : World), Calls Try.prog 45 #[.pointer none] w fun e w' => e = .returned (.tuple #[.slice none 0 0, .bool false]) ∧ Below w.heap.size w w'
  nlen : ∀ (w : World), Calls Try.prog 37 #[.pointer none] w fun e w' => e = .returned (.int .i64 0) ∧ Below w.heap.size w w'
  nfree : ∀ (w : World), Calls Try.prog 51 #[.pointer none] w fun e w' => e = .returned (.int .i64 0) ∧ Below w.heap.size w w'
  nall : ∀ (w : World), Calls Try.prog 38 #[.pointer none] w fun e w' => ∃ P c, e = .returned (.slice P 0 c) ∧ Below w.heap.size w w'
/-- both a queue's room and how many it holds -/
def QOk (room : Nat) (ls : List (List UInt8)) : Prop := 1 ≤ room ∧ room ≤ 16 ∧ ls.length ≤ room ∧ ∀ m ∈ ls, m.length ≤ 64
theorem QOk.push {room : Nat} {ls : List (List UInt8)} (h : QOk room ls) (m : List UInt8) : QOk room (quPush room ls m) := by
  unfold quPush quPushE
  by_cases h1 : 64 < m.length
  · simpa [if_pos h1] using h
  · rw [if_neg h1]
    by_cases h2 : room ≤ ls.length
    · simpa [if_pos h2] using h
    · rw [if_neg h2]
      simp only [if_true]
      obtain ⟨a, b, c, d⟩ := h
      refine ⟨a, b, by simp; omega, fun u hu => ?_⟩
      rcases List.mem_append.1 hu with hu | hu
      · exact d u hu
      · rw [List.mem_singleton.1 hu]; omega
theorem QOk.pop {room : Nat} {ls : List (List UInt8)} (h : QOk room ls) : QOk room ls.tail := ⟨h.1, h.2.1, by have := h.2.2.1; simp; omega, fun u hu => h.2.2.2 u (List.mem_of_mem_tail hu)⟩
theorem RQ.ok {g room : Nat} {ls : List (List UInt8)} {w : World} {X : Nat → Prop} (h : RQ g room ls w X) : QOk room ls := h.2.2.1
theorem rqpush_any (g room : Nat) (ls : List (List UInt8)) (A : Option Addr) (n c : Nat) (m : List UInt8) (w : World) (X : Nat → Prop) (hQ : RQ g room ls w X) (hB : Bys w A n c m) :
    Calls Try.prog 32 #[.pointer (some ⟨g, 0, none⟩), .slice A n c] w fun e w' => e = .returned (.int .i64 ((quPushE room ls n : Nat) : Int)) ∧ ∃ X', RQ g room (quPush room ls m) w' X' ∧ Turns X X' w w' := by
  have hl := hB.len
  by_cases h : quPushE room ls n = 0
  · have h1 : n ≤ 64 := by
      unfold quPushE at h
      by_cases h1 : 64 < n
      · rw [if_pos h1] at h; cases h
      · omega
    have h2 : ls.length < room := by
      unfold quPushE at h
      rw [if_neg (by omega)] at h
      by_cases h2 : room ≤ ls.length
      · rw [if_pos h2] at h; cases h
      · omega
    have e : quPush room ls m = ls ++ [m] := by unfold quPush; rw [hl, if_pos h]
    rw [e, h]
    exact rqpush_yes g room ls A n c m w X hQ hB h1 h2
  · have e : quPush room ls m = ls := by unfold quPush; rw [hl, if_neg h]
    rw [e]
    exact (rqpush_no g room ls A n c w X hQ h).mono fun _ _ ⟨h1, h2⟩ => ⟨h1, X, (RQ.holds g room ls).below hQ h2, Turns.of_below h2⟩
theorem rqpop_any2 (g room : Nat) (ls : List (List UInt8)) (w : World) (X : Nat → Prop) (hQ : RQ g room ls w X) :
    Calls Try.prog 36 #[.pointer (some ⟨g, 0, none⟩)] w fun e w' => ∃ A n c X', e = .returned (.tuple #[.slice A n c, .bool (!ls.isEmpty)]) ∧ Bys w' A n c (ls.headD []) ∧ RQ g room ls.tail w' X' ∧ Turns X X' w w' ∧ Av (fun k => X' k ∨ ¬ X k) n A := by
  match ls, hQ with
  | [], hQ =>
    refine (rqpop_no g room w X hQ).mono ?_
    rintro e w' ⟨rfl, rfl⟩
    exact ⟨_, _, _, X, rfl, Bys.nil _, hQ, Turns.of_below (Below.refl _ _), Av.none _ _⟩
  | m :: ls, hQ => exact rqpop_yes g room m ls w X hQ
theorem rqpop_any (g room : Nat) (ls : List (List UInt8)) (w : World) (X : Nat → Prop) (hQ : RQ g room ls w X) :
    Calls Try.prog 36 #[.pointer (some ⟨g, 0, none⟩)] w fun e w' => ∃ A n c X', e = .returned (.tuple #[.slice A n c, .bool (!ls.isEmpty)]) ∧ Bys w' A n c (ls.headD []) ∧ RQ g room ls.tail w' X' ∧ Turns X X' w w' ∧ Av X' n A :=
  (rqpop_any2 g room ls w X hQ).mono fun _ _ ⟨A, n, c, X', h1, h2, h3, h4, h5⟩ => ⟨A, n, c, X', h1, h2, h3, h4, h5.imp (fun _ hk => .inl hk)⟩
/-- an act: whether it pops, and the message -/
def rdAct19 (w : World) (b o : Nat) (x : Bool × List UInt8) : Prop := ∃ A c, w.cell? ⟨b, o, none⟩ = some (.bool x.1) ∧ w.cell? ⟨b, o + 1, none⟩ = some (.slice A x.2.length c) ∧ Bys w A x.2.length c x.2
theorem keeps19 : Keeps rdAct19 := fun _ _ b o _ hb T ⟨A, c, h1, h2, h3⟩ => ⟨A, c, (T.cell (p := ⟨b, o, none⟩) hb).trans h1, (T.cell (p := ⟨b, o + 1, none⟩) hb).trans h2, h3.below T⟩
def huge19 (l : List (Bool × List UInt8)) : Bool := decide (100 < l.length) || (l.take 200).any fun x => decide (200 < x.2.length)
theorem lit98 (w : World) : Bys (w.alloc (.cells #[.int .u8 98] 5 (1, 2))) (some ⟨w.heap.size, 0, none⟩) 1 1 [98] := Bys.litf w [98] (1, 2) (by decide)
theorem lit97q (w : World) : Bys (w.alloc (.cells #[.int .u8 97] 5 (1, 2))) (some ⟨w.heap.size, 0, none⟩) 1 1 [97] := Bys.litf w [97] (1, 2) (by decide)
end Go.Proofs.Ytoajbocpebfjoaa
