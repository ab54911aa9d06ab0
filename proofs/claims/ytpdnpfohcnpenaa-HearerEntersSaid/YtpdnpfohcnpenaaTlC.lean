/- Package tally by its contracts; what layer 18's law's own live, alike answer over them. -/
import Derived.Test.YtpdnpfohcnpenaaRal
namespace Go.Proofs.Ytpdnpfohcnpenaa
open Go.RowKit
set_option maxRecDepth 20000

/-- rows that were told: in memory of their own, at no block of Y, that may be written -/
def LFre (w : World) (Y : Nat → Prop) (P : Option Addr) (n c : Nat) (l : List Tal) : Prop :=
  l.length = n ∧ n ≤ c ∧ c ≤ maxLen ∧ Av Y n P ∧ (0 < n → ∃ b o, P = some ⟨b, o, none⟩ ∧ b < w.heap.size ∧ ∀ j (h : j < l.length), ∃ A d, w.cell? ⟨b, o + j * 3, none⟩ = some (.int .i64 l[j].1) ∧ w.cell? ⟨b, o + j * 3 + 1, none⟩ = some (.slice A l[j].2.1.length d) ∧ w.cell? ⟨b, o + j * 3 + 2, none⟩ = some (.int .u64 (l[j].2.2 : Int)) ∧ Fre w (fun k => Y k ∨ k = b) A l[j].2.1.length d l[j].2.1)
theorem LFre.below {w w' : World} {Y : Nat → Prop} {P : Option Addr} {n c : Nat} {l : List Tal} (h : LFre w Y P n c l) (T : Below w.heap.size w w') : LFre w' Y P n c l :=
  ⟨h.1, h.2.1, h.2.2.1, h.2.2.2.1, fun hn => by
    obtain ⟨b, o, e, hb, hc⟩ := h.2.2.2.2 hn
    refine ⟨b, o, e, by have := T.size; omega, fun j hj => ?_⟩
    obtain ⟨A, d, k0, k1, k2, k3⟩ := hc j hj
    exact ⟨A, d, (T.cell (p := ⟨b, o + j * 3, none⟩) hb).trans k0, (T.cell (p := ⟨b, o + j * 3 + 1, none⟩) hb).trans k1, (T.cell (p := ⟨b, o + j * 3 + 2, none⟩) hb).trans k2, k3.below T⟩⟩
def GivesRows (w : World) (l : List Tal) (e : Ending) (w' : World) : Prop := ∃ P n c, e = .returned (.slice P n c) ∧ LFre w' (· < w.heap.size) P n c l ∧ Below w.heap.size w w'
/-- what package tally answers, in plain words: T g l w X: at block g lies a tally of the rows l; its blocks are X -/
structure TlC (T : Nat → List Tal → World → (Nat → Prop) → Prop) : Prop where
  holds : ∀ g l, Holds (T g l)
  new : ∀ w : World, Calls Try.prog 25 #[] w fun e w' => ∃ g X, e = .returned (.pointer (some ⟨g, 0, none⟩)) ∧ T g [] w' X ∧ (∀ k, X k → w.heap.size ≤ k) ∧ Below w.heap.size w w'
  add : ∀ (g : Nat) (l : List Tal) (a : Int) (A : Option Addr) (n c : Nat) (d : List UInt8) (w : World) (X : Nat → Prop), T g l w X → AlOk l → l.length < 1000 → alCount l a d < 1000000 → I64 a → Bys w A n c d → n ≤ 140737488355328 → Calls Try.prog 46 #[.pointer (some ⟨g, 0, none⟩), .int .i64 a, .slice A n c] w fun e w' => e = .returned (.int .u64 ((alCount l a d : Nat) + 1 : Int)) ∧ ∃ X', T g (alAdd l a d) w' X' ∧ Turns X X' w w'
  best : ∀ (g : Nat) (l : List Tal) (a : Int) (w : World) (X : Nat → Prop), T g l w X → AlOk l → I64 a → Calls Try.prog 62 #[.pointer (some ⟨g, 0, none⟩), .int .i64 a] w (GivesBest w l a)
  clear : ∀ (g : Nat) (l : List Tal) (w : World) (X : Nat → Prop), T g l w X → AlOk l → Calls Try.prog 65 #[.pointer (some ⟨g, 0, none⟩)] w fun e w' => e = .returned (.tuple #[]) ∧ ∃ X', T g [] w' X' ∧ Turns X X' w w'
  nadd : ∀ (a : Int) (A : Option Addr) (n c : Nat) (d : List UInt8) (w : World), Bys w A n c d → Calls Try.prog 46 #[.pointer none, .int .i64 a, .slice A n c] w fun e w' => e = .returned (.int .u64 0) ∧ Below w.heap.size w w'
  nbest : ∀ (a : Int) (w : World), Calls Try.prog 62 #[.pointer none, .int .i64 a] w (GivesBest w [] a)
  nclear : ∀ w : World, Calls Try.prog 65 #[.pointer none] w fun e w' => e = .returned (.tuple #[]) ∧ Below w.heap.size w w'
theorem lit_f (w : World) (x : UInt8) : Bys (w.alloc (.cells #[.int .u8 (x.toNat : Int)] 5 (1, 2))) (some ⟨w.heap.size, 0, none⟩) 1 1 [x] := Bys.litf w [x] (1, 2) (by show 1 ≤ _; omega)
end Go.Proofs.Ytpdnpfohcnpenaa
