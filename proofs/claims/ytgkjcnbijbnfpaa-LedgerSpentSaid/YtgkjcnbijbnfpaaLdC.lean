/- Package ledger by its contracts; what layer 17's law's own live answers over them. -/
import Derived.Test.YtgkjcnbijbnfpaaRld
namespace Go.Proofs.Ytgkjcnbijbnfpaa
open Go.RowKit
set_option maxRecDepth 20000

/-- what package ledger answers, in plain words: L w g o k: at block g lies a ledger, o open, k marked; Lz w g: one that nobody made -/
structure LdC (L : World → Nat → Nat → Nat → Prop) (Lz : World → Nat → Prop) : Prop where
  lt : ∀ {w : World} {g o k : Nat}, L w g o k → g < w.heap.size
  off : ∀ {w w' : World} {g o k : Nat} {X : Nat → Prop}, L w g o k → Off X w w' → ¬ X g → L w' g o k
  zlt : ∀ {w : World} {g : Nat}, Lz w g → g < w.heap.size
  zoff : ∀ {w w' : World} {g : Nat} {X : Nat → Prop}, Lz w g → Off X w w' → ¬ X g → Lz w' g
  new_ : ∀ (o : Nat) (w : World), o < 18446744073709551616 → Calls Try.prog 7 #[.int .u64 (o : Int)] w fun e w' => ∃ g, e = .returned (.pointer (some ⟨g, 0, none⟩)) ∧ w.heap.size ≤ g ∧ L w' g o o ∧ Below w.heap.size w w'
  ask : ∀ (g o k : Nat) (w : World), o < 18446744073709551616 → k < 18446744073709551616 → L w g o k → Calls Try.prog 14 #[.pointer (some ⟨g, 0, none⟩)] w fun e w' => e = .returned (.bool (!ldS o)) ∧ L w' g (ldAsk o) k ∧ Off (· = g) w w'
  hear : ∀ (g o k : Nat) (w : World), o < 18446744073709551616 → k < 18446744073709551616 → L w g o k → Calls Try.prog 16 #[.pointer (some ⟨g, 0, none⟩)] w fun e w' => e = .returned (.bool (ldCan o)) ∧ L w' g (ldHear o) k ∧ Off (· = g) w w'
  mark : ∀ (g o k : Nat) (w : World), o < 18446744073709551616 → k < 18446744073709551616 → L w g o k → Calls Try.prog 18 #[.pointer (some ⟨g, 0, none⟩)] w fun e w' => e = .returned (.tuple #[]) ∧ L w' g o (ldMark o k) ∧ Off (· = g) w w'
  enough : ∀ (g o k m : Nat) (w : World), o < 18446744073709551616 → k < 18446744073709551616 → m < 18446744073709551616 → L w g o k → Calls Try.prog 12 #[.pointer (some ⟨g, 0, none⟩), .int .u64 (m : Int)] w fun e w' => e = .returned (.bool (ldEnough o k m)) ∧ Below w.heap.size w w'
  out : ∀ (g o k : Nat) (w : World), L w g o k → Calls Try.prog 9 #[.pointer (some ⟨g, 0, none⟩)] w fun e w' => e = .returned (.int .u64 (o : Int)) ∧ Below w.heap.size w w'
  marked : ∀ (g o k : Nat) (w : World), L w g o k → Calls Try.prog 10 #[.pointer (some ⟨g, 0, none⟩)] w fun e w' => e = .returned (.int .u64 (k : Int)) ∧ Below w.heap.size w w'
  spent : ∀ (g o k : Nat) (w : World), L w g o k → Calls Try.prog 11 #[.pointer (some ⟨g, 0, none⟩)] w fun e w' => e = .returned (.bool (ldS o)) ∧ Below w.heap.size w w'
  nspent : ∀ (w : World), Calls Try.prog 11 #[.pointer none] w fun e w' => e = .returned (.bool true) ∧ Below w.heap.size w w'
  nask : ∀ (w : World), Calls Try.prog 14 #[.pointer none] w fun e w' => e = .returned (.bool false) ∧ Below w.heap.size w w'
  nhear : ∀ (w : World), Calls Try.prog 16 #[.pointer none] w fun e w' => e = .returned (.bool false) ∧ Below w.heap.size w w'
  nenough : ∀ (m : Nat) (w : World), m < 18446744073709551616 → Calls Try.prog 12 #[.pointer none, .int .u64 (m : Int)] w fun e w' => e = .returned (.bool false) ∧ Below w.heap.size w w'
  nout : ∀ (w : World), Calls Try.prog 9 #[.pointer none] w fun e w' => e = .returned (.int .u64 0) ∧ Below w.heap.size w w'
  zspent : ∀ (g : Nat) (w : World), Lz w g → Calls Try.prog 11 #[.pointer (some ⟨g, 0, none⟩)] w fun e w' => e = .returned (.bool true) ∧ Below w.heap.size w w'
  zask : ∀ (g : Nat) (w : World), Lz w g → Calls Try.prog 14 #[.pointer (some ⟨g, 0, none⟩)] w fun e w' => e = .returned (.bool false) ∧ Below w.heap.size w w'
  zenough : ∀ (g m : Nat) (w : World), m < 18446744073709551616 → Lz w g → Calls Try.prog 12 #[.pointer (some ⟨g, 0, none⟩), .int .u64 (m : Int)] w fun e w' => e = .returned (.bool false) ∧ Below w.heap.size w w'
theorem LdC.below {L : World → Nat → Nat → Nat → Prop} {Lz : World → Nat → Prop} (C : LdC L Lz) {w w' : World} {g o k : Nat} (h : L w g o k) (T : Below w.heap.size w w') : L w' g o k := C.off (X := fun _ => False) h (Off.of_below T) (fun h => h)
/-- behind a call that turns block g alone -/
theorem then_off {B g : Nat} {a b c : World} (h : Below B a b) (k : Off (· = g) b c) (hg : B ≤ g) (hB : B ≤ b.heap.size) : Below B a c := h.trans (k.below (fun j hj => by omega) hB)
set_option maxHeartbeats 2000000 in
theorem live17_any {L : World → Nat → Nat → Nat → Prop} {Lz : World → Nat → Prop} (C : LdC L Lz) (w : World) : Calls Try.prog 6 #[] w fun e w' => e = .returned (.bool true) ∧ Below w.heap.size w w' := by
  have h1 := fun W => C.new_ 2 W (by decide)
  have h2 := fun W => C.new_ 18446744073709551614 W (by decide)
  have h3 := fun g W h => C.enough g 2 2 2 W (by decide) (by decide) (by decide) h
  have h4 := fun g W h => C.enough g 2 2 3 W (by decide) (by decide) (by decide) h
  have h5 := fun g W h => C.ask g 18446744073709551614 18446744073709551614 W (by decide) (by decide) h
  have h6 := fun g W h => C.spent g 18446744073709551615 18446744073709551614 W h
  have h7 := fun g W h => C.enough g 18446744073709551615 18446744073709551614 18446744073709551615 W (by decide) (by decide) (by decide) h
  rw [show ldEnough 2 2 2 = false by decide] at h3
  rw [show ldEnough 2 2 3 = true by decide] at h4
  rw [show ldS 18446744073709551614 = false by decide, show ldAsk 18446744073709551614 = 18446744073709551615 by decide] at h5
  rw [show ldS 18446744073709551615 = true by decide] at h6
  rw [show ldEnough 18446744073709551615 18446744073709551614 18446744073709551615 = false by decide] at h7
  have H1 := Lib.hid h1
  have H2 := Lib.hid h2
  have H3 := Lib.hid h3
  have H4 := Lib.hid h4
  have H5 := Lib.hid h5
  have H6 := Lib.hid h6
  have H7 := Lib.hid h7
  clear h1 h2 h3 h4 h5 h6 h7
  go_enter Try.func6, Try.ntmps6
  go_wp2_with (fail)
  refine (H1.out _).mono ?_
  rintro e w1 ⟨ga, rfl, ha, La, T1⟩
  have HA := Lib.hid La
  clear La
  go_wp2_with (fail)
  refine (H2.out _).mono ?_
  rintro e w2 ⟨gb, rfl, hb, Lb, T2⟩
  have HA := Lib.hid (C.below HA.out T2)
  have HB := Lib.hid Lb
  have hbw : w.heap.size ≤ gb := Nat.le_trans T1.size hb
  have T2 := nxt T1 T2
  clear Lb
  go_wp2_with (fail)
  refine (H3.out _ _ HA.out).mono ?_
  rintro e w3 ⟨rfl, T3⟩
  have HA := Lib.hid (C.below HA.out T3)
  have HB := Lib.hid (C.below HB.out T3)
  have T3 := nxt T2 T3
  go_wp2_with (fail)
  refine (H4.out _ _ HA.out).mono ?_
  rintro e w4 ⟨rfl, T4⟩
  have HB := Lib.hid (C.below HB.out T4)
  have T4 := nxt T3 T4
  go_wp2_with (fail)
  refine (H5.out _ _ HB.out).mono ?_
  rintro e w5 ⟨rfl, Lb, O5⟩
  have HB := Lib.hid Lb
  have T5 := then_off T4 O5 hbw T4.size
  clear Lb
  go_wp2_with (fail)
  refine (H6.out _ _ HB.out).mono ?_
  rintro e w6 ⟨rfl, T6⟩
  have HB := Lib.hid (C.below HB.out T6)
  have T6 := nxt T5 T6
  go_wp2_with (fail)
  refine (H7.out _ _ HB.out).mono ?_
  rintro e w7 ⟨rfl, T7⟩
  have T7 := nxt T6 T7
  go_wp2
  go_ret
  exact ⟨rfl, T7⟩
end Go.Proofs.Ytgkjcnbijbnfpaa
