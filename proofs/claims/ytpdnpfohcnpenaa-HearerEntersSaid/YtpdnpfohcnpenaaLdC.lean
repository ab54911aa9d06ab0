/- Package ledger by its contracts; what layer 17's law's own live answers over them. -/
import Derived.Test.YtpdnpfohcnpenaaRld
namespace Go.Proofs.Ytpdnpfohcnpenaa
open Go.RowKit
set_option maxRecDepth 20000

/-- what package ledger answers, in plain words: L w g o k: at block g lies a ledger, o open, k marked; Lz w g: one that nobody made -/
structure LdC (L : World → Nat → Nat → Nat → Prop) (Lz : World → Nat → Prop) : Prop where
  lt : ∀ {w : World} {g o k : Nat}, L w g o k → g < w.heap.size
  off : ∀ {w w' : World} {g o k : Nat} {X : Nat → Prop}, L w g o k → Off X w w' → ¬ X g → L w' g o k
  zlt : ∀ {w : World} {g : Nat}, Lz w g → g < w.heap.size
  zoff : ∀ {w w' : World} {g : Nat} {X : Nat → Prop}, Lz w g → Off X w w' → ¬ X g → Lz w' g
  new_ : ∀ (o : Nat) (w : World), o < 18446744073709551616 → Calls Try.prog 24 #[.int .u64 (o : Int)] w fun e w' => ∃ g, e = .returned (.pointer (some ⟨g, 0, none⟩)) ∧ w.heap.size ≤ g ∧ L w' g o o ∧ Below w.heap.size w w'
  ask : ∀ (g o k : Nat) (w : World), o < 18446744073709551616 → k < 18446744073709551616 → L w g o k → Calls Try.prog 30 #[.pointer (some ⟨g, 0, none⟩)] w fun e w' => e = .returned (.bool (!ldS o)) ∧ L w' g (ldAsk o) k ∧ Off (· = g) w w'
  hear : ∀ (g o k : Nat) (w : World), o < 18446744073709551616 → k < 18446744073709551616 → L w g o k → Calls Try.prog 45 #[.pointer (some ⟨g, 0, none⟩)] w fun e w' => e = .returned (.bool (ldCan o)) ∧ L w' g (ldHear o) k ∧ Off (· = g) w w'
  mark : ∀ (g o k : Nat) (w : World), o < 18446744073709551616 → k < 18446744073709551616 → L w g o k → Calls Try.prog 66 #[.pointer (some ⟨g, 0, none⟩)] w fun e w' => e = .returned (.tuple #[]) ∧ L w' g o (ldMark o k) ∧ Off (· = g) w w'
  enough : ∀ (g o k m : Nat) (w : World), o < 18446744073709551616 → k < 18446744073709551616 → m < 18446744073709551616 → L w g o k → Calls Try.prog 63 #[.pointer (some ⟨g, 0, none⟩), .int .u64 (m : Int)] w fun e w' => e = .returned (.bool (ldEnough o k m)) ∧ Below w.heap.size w w'
  out : ∀ (g o k : Nat) (w : World), L w g o k → Calls Try.prog 39 #[.pointer (some ⟨g, 0, none⟩)] w fun e w' => e = .returned (.int .u64 (o : Int)) ∧ Below w.heap.size w w'
  marked : ∀ (g o k : Nat) (w : World), L w g o k → Calls Try.prog 40 #[.pointer (some ⟨g, 0, none⟩)] w fun e w' => e = .returned (.int .u64 (k : Int)) ∧ Below w.heap.size w w'
  spent : ∀ (g o k : Nat) (w : World), L w g o k → Calls Try.prog 41 #[.pointer (some ⟨g, 0, none⟩)] w fun e w' => e = .returned (.bool (ldS o)) ∧ Below w.heap.size w w'
  nspent : ∀ (w : World), Calls Try.prog 41 #[.pointer none] w fun e w' => e = .returned (.bool true) ∧ Below w.heap.size w w'
  nask : ∀ (w : World), Calls Try.prog 30 #[.pointer none] w fun e w' => e = .returned (.bool false) ∧ Below w.heap.size w w'
  nhear : ∀ (w : World), Calls Try.prog 45 #[.pointer none] w fun e w' => e = .returned (.bool false) ∧ Below w.heap.size w w'
  nenough : ∀ (m : Nat) (w : World), m < 18446744073709551616 → Calls Try.prog 63 #[.pointer none, .int .u64 (m : Int)] w fun e w' => e = .returned (.bool false) ∧ Below w.heap.size w w'
  nout : ∀ (w : World), Calls Try.prog 39 #[.pointer none] w fun e w' => e = .returned (.int .u64 0) ∧ Below w.heap.size w w'
  zspent : ∀ (g : Nat) (w : World), Lz w g → Calls Try.prog 41 #[.pointer (some ⟨g, 0, none⟩)] w fun e w' => e = .returned (.bool true) ∧ Below w.heap.size w w'
  zask : ∀ (g : Nat) (w : World), Lz w g → Calls Try.prog 30 #[.pointer (some ⟨g, 0, none⟩)] w fun e w' => e = .returned (.bool false) ∧ Below w.heap.size w w'
  zenough : ∀ (g m : Nat) (w : World), m < 18446744073709551616 → Lz w g → Calls Try.prog 63 #[.pointer (some ⟨g, 0, none⟩), .int .u64 (m : Int)] w fun e w' => e = .returned (.bool false) ∧ Below w.heap.size w w'
theorem LdC.below {L : World → Nat → Nat → Nat → Prop} {Lz : World → Nat → Prop} (C : LdC L Lz) {w w' : World} {g o k : Nat} (h : L w g o k) (T : Below w.heap.size w w') : L w' g o k := C.off (X := fun _ => False) h (Off.of_below T) (fun h => h)
/-- behind a call that turns block g alone -/
theorem then_off {B g : Nat} {a b c : World} (h : Below B a b) (k : Off (· = g) b c) (hg : B ≤ g) (hB : B ≤ b.heap.size) : Below B a c := h.trans (k.below (fun j hj => by omega) hB)
end Go.Proofs.Ytpdnpfohcnpenaa
