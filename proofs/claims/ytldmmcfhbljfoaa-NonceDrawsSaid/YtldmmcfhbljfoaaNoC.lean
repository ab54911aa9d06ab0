/- Package nonce by its contracts; what layer 26's law's own live answers over them. -/
import Derived.Test.YtldmmcfhbljfoaaRno
namespace Go.Proofs.Ytldmmcfhbljfoaa
open Go.RowKit
set_option maxRecDepth 20000

def GivesUF (w : World) (l : List Nat) (e : Ending) (w' : World) : Prop := ∃ A n c, e = .returned (.slice A n c) ∧ UFre w' (· < w.heap.size) A n c l ∧ Below w.heap.size w w'
/-- what package nonce answers, in plain words: S g l k w X: at block g lies a source of the numbers l of which k were drawn; its blocks are X -/
structure NoC (S : Nat → List Nat → Nat → World → (Nat → Prop) → Prop) : Prop where
  holds : ∀ g l k, Holds (S g l k)
  new : ∀ (A : Option Addr) (n c : Nat) (l : List Nat) (w : World), Us w A n c l → (∀ x ∈ l, x < 18446744073709551616) → n ≤ 17592186043904 → Calls Try.prog 6 #[.slice A n c] w fun e w' => ∃ g X, e = .returned (.pointer (some ⟨g, 0, none⟩)) ∧ S g l 0 w' X ∧ (∀ k, X k → w.heap.size ≤ k) ∧ Below w.heap.size w w'
  next : ∀ (g : Nat) (l : List Nat) (k : Nat) (w : World) (X : Nat → Prop), S g l k w X → k < 1000000 → Calls Try.prog 8 #[.pointer (some ⟨g, 0, none⟩)] w fun e w' => e = .returned (.int .u64 ((nx l k : Nat) : Int)) ∧ ∃ X', S g l (k + 1) w' X' ∧ Turns X X' w w'
  used : ∀ (g : Nat) (l : List Nat) (k : Nat) (w : World) (X : Nat → Prop), S g l k w X → Calls Try.prog 10 #[.pointer (some ⟨g, 0, none⟩)] w (GivesUF w (drawn l k))
  nnext : ∀ w : World, Calls Try.prog 8 #[.pointer none] w fun e w' => e = .returned (.int .u64 0) ∧ Below w.heap.size w w'
  nused : ∀ w : World, Calls Try.prog 10 #[.pointer none] w fun e w' => (∃ P c, e = .returned (.slice P 0 c)) ∧ Below w.heap.size w w'
  first : ∀ (A : Option Addr) (n c : Nat) (l : List Nat) (w : World), Us w A n c l → (∀ x ∈ l, x < 18446744073709551616) → n ≤ 1000000 → Calls Try.prog 12 #[.slice A n c] w (GivesDup w l)
  apart : ∀ (A : Option Addr) (n c : Nat) (l : List Nat) (r : Nat × Nat × Bool) (w : World), Us w A n c l → (∀ x ∈ l, x < 18446744073709551616) → n ≤ 1000000 → Dup l r → Calls Try.prog 14 #[.slice A n c] w fun e w' => e = .returned (.bool (!r.2.2)) ∧ Below w.heap.size w w'
theorem dup1212 : Dup [1, 2, 1, 2] (0, 2, true) := by
  refine .inl ⟨0, 2, rfl, by omega, by decide, rfl, fun a b h1 h2 => ?_, fun a h => absurd h (by omega)⟩
  obtain rfl : b = 1 := by omega
  obtain rfl : a = 0 := by omega
  decide
theorem dup0 : Dup [] (0, 0, false) := .inr ⟨rfl, fun _ b _ h => absurd h (by simp)⟩
theorem Us.nil (w : World) : Us w none 0 0 [] := ⟨rfl, Nat.le_refl _, Nat.zero_le _, fun h => absurd h (by omega)⟩
theorem Us.lit5 (w : World) : Us (w.alloc (.cells #[.int .u64 5] 28)) (some ⟨w.heap.size, 0, none⟩) 1 1 [5] := Us.litz w 5 5 rfl
theorem Us.lit1212 (w : World) : Us (w.alloc (.cells #[.int .u64 1, .int .u64 2, .int .u64 1, .int .u64 2] 28)) (some ⟨w.heap.size, 0, none⟩) 4 4 [1, 2, 1, 2] :=
  ⟨rfl, Nat.le_refl _, by unfold maxLen; omega, fun _ => ⟨w.heap.size, 0, rfl, by simp, fun j hj => by
    match j, hj with
    | 0, _ => simp [uvs]
    | 1, _ => simp [uvs]
    | 2, _ => simp [uvs]
    | 3, _ => simp [uvs]⟩⟩
set_option maxHeartbeats 1000000 in
theorem live26_any {S : Nat → List Nat → Nat → World → (Nat → Prop) → Prop} (C : NoC S) (w : World) : Calls Try.prog 5 #[] w fun e w' => e = .returned (.bool true) ∧ Below w.heap.size w w' := by
  have H1 := Lib.hid (fun W A c h => C.new A 1 c [5] W h (by simp) (by omega))
  have H2 := Lib.hid (fun W A c h => C.first A 4 c [1, 2, 1, 2] W h (by simp) (by omega))
  have h3 := fun g W X h => C.next g [5] 0 W X h (by omega)
  have h4 := fun g W X h => C.next g [5] 1 W X h (by omega)
  rw [show nx [5] 0 = 5 by decide] at h3
  rw [show nx [5] 1 = 9223372036854775808 by decide] at h4
  have H3 := Lib.hid h3
  have H4 := Lib.hid h4
  have H5 := Lib.hid (fun W => C.apart none 0 0 [] _ W (Us.nil W) (by simp) (by omega) dup0)
  clear h3 h4
  go_enter Try.func5, Try.ntmps5
  go_wp2_with (fail)
  refine (H1.out _ _ _ (Us.lit5 w)).mono ?_
  rintro e w1 ⟨g, X1, rfl, q1, x1, T1⟩
  have T1 := nxt ((Below.refl w.heap.size w).alloc (Nat.le_refl _) (.cells #[.int .u64 5] 28)) T1
  have x1 : ∀ k, X1 k → w.heap.size ≤ k := fun k hk => by have := x1 k hk; simp at this; omega
  have T1a := T1.alloc T1.size (.cells #[.int .u64 1, .int .u64 2, .int .u64 1, .int .u64 2] 28)
  have Q1 := Lib.hid ((C.holds _ _ _).below q1 ((Below.refl w1.heap.size w1).alloc (Nat.le_refl _) (.cells #[.int .u64 1, .int .u64 2, .int .u64 1, .int .u64 2] 28)))
  clear q1
  go_wp2_with (fail)
  refine (H2.out _ _ _ (Us.lit1212 w1)).mono ?_
  rintro e w2 ⟨⟨k, i, t, rfl, hd⟩, T2⟩
  obtain ⟨rfl, rfl, rfl⟩ : k = 0 ∧ i = 2 ∧ t = true := by have := hd.unique dup1212; simpa using this
  have Q2 := Lib.hid ((C.holds _ _ _).below Q1.out T2)
  have T2 := nxt T1a T2
  clear hd Q1
  go_wp2_with (fail)
  refine (H3.out _ _ _ Q2.out).mono ?_
  rintro e w3 ⟨rfl, X3, q3, t3⟩
  have hX3 : ∀ k, X3 k → w.heap.size ≤ k := fun k hk => by
    rcases t3.grow k hk with h | h
    · exact x1 k h
    · exact Nat.le_trans T2.size h
  have T3 := T2.trans (t3.off.below x1 T2.size)
  have Q3 := Lib.hid q3
  clear q3 t3 Q2
  go_wp2_with (fail)
  refine (H4.out _ _ _ Q3.out).mono ?_
  rintro e w4 ⟨rfl, X4, q4, t4⟩
  have T4 := T3.trans (t4.off.below hX3 T3.size)
  clear q4 t4 Q3
  go_wp2_with (fail)
  refine (H5.out _).mono ?_
  rintro e w5 ⟨rfl, T5⟩
  have T5 := nxt T4 T5
  go_wp2
  go_ret
  exact ⟨rfl, T5⟩
end Go.Proofs.Ytldmmcfhbljfoaa
