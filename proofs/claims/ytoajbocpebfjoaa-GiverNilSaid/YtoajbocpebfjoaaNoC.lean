/- Package nonce by its contracts; what layer 26's law's own live answers over them. -/
import Derived.Test.YtoajbocpebfjoaaRno
namespace Go.Proofs.Ytoajbocpebfjoaa
open Go.RowKit
set_option maxRecDepth 20000

def GivesUF (w : World) (l : List Nat) (e : Ending) (w' : World) : Prop := ∃ A n c, e = .returned (.slice A n c) ∧ UFre w' (· < w.heap.size) A n c l ∧ Below w.heap.size w w'
/-- what package nonce answers, in plain words: S g l k w X: at block g lies a source of the numbers l of which k were drawn; its blocks are X -/
structure NoC (S : Nat → List Nat → Nat → World → (Nat → Prop) → Prop) : Prop where
  holds : ∀ g l k, Holds (S g l k)
  new : ∀ (A : Option Addr) (n c : Nat) (l : List Nat) (w : World), Us w A n c l → (∀ x ∈ l, x < 18446744073709551616) → n ≤ 17592186043904 → Calls Try.prog 9 #[.slice A n c] w fun e w' => ∃ g X, e = .returned (.pointer (some ⟨g, 0, none⟩)) ∧ S g l 0 w' X ∧ (∀ k, X k → w.heap.size ≤ k) ∧ Below w.heap.size w w'
  next : ∀ (g : Nat) (l : List Nat) (k : Nat) (w : World) (X : Nat → Prop), S g l k w X → k < 1000000 → Calls Try.prog 25 #[.pointer (some ⟨g, 0, none⟩)] w fun e w' => e = .returned (.int .u64 ((nx l k : Nat) : Int)) ∧ ∃ X', S g l (k + 1) w' X' ∧ Turns X X' w w'
  used : ∀ (g : Nat) (l : List Nat) (k : Nat) (w : World) (X : Nat → Prop), S g l k w X → Calls Try.prog 23 #[.pointer (some ⟨g, 0, none⟩)] w (GivesUF w (drawn l k))
  nnext : ∀ w : World, Calls Try.prog 25 #[.pointer none] w fun e w' => e = .returned (.int .u64 0) ∧ Below w.heap.size w w'
  nused : ∀ w : World, Calls Try.prog 23 #[.pointer none] w fun e w' => (∃ P c, e = .returned (.slice P 0 c)) ∧ Below w.heap.size w w'
  first : ∀ (A : Option Addr) (n c : Nat) (l : List Nat) (w : World), Us w A n c l → (∀ x ∈ l, x < 18446744073709551616) → n ≤ 1000000 → Calls Try.prog 39 #[.slice A n c] w (GivesDup w l)
  apart : ∀ (A : Option Addr) (n c : Nat) (l : List Nat) (r : Nat × Nat × Bool) (w : World), Us w A n c l → (∀ x ∈ l, x < 18446744073709551616) → n ≤ 1000000 → Dup l r → Calls Try.prog 22 #[.slice A n c] w fun e w' => e = .returned (.bool (!r.2.2)) ∧ Below w.heap.size w w'
theorem dup1212 : Dup [1, 2, 1, 2] (0, 2, true) := by
  refine .inl ⟨0, 2, rfl, by omega, by decide, rfl, fun a b h1 h2 => ?_, fun a h => absurd h (by omega)⟩
  obtain rfl : b = 1 := by omega
  obtain rfl : a = 0 := by omega
  decide
theorem dup0 : Dup [] (0, 0, false) := .inr ⟨rfl, fun _ b _ h => absurd h (by simp)⟩
theorem Us.nil (w : World) : Us w none 0 0 [] := ⟨rfl, Nat.le_refl _, Nat.zero_le _, fun h => absurd h (by omega)⟩
theorem Us.lit5 (w : World) : Us (w.alloc (.cells #[.int .u64 5] 38)) (some ⟨w.heap.size, 0, none⟩) 1 1 [5] := Us.litz w 5 5 rfl
theorem Us.lit1212 (w : World) : Us (w.alloc (.cells #[.int .u64 1, .int .u64 2, .int .u64 1, .int .u64 2] 38)) (some ⟨w.heap.size, 0, none⟩) 4 4 [1, 2, 1, 2] :=
  ⟨rfl, Nat.le_refl _, by unfold maxLen; omega, fun _ => ⟨w.heap.size, 0, rfl, by simp, fun j hj => by
    match j, hj with
    | 0, _ => simp [uvs]
    | 1, _ => simp [uvs]
    | 2, _ => simp [uvs]
    | 3, _ => simp [uvs]⟩⟩
end Go.Proofs.Ytoajbocpebfjoaa
