/- What the walks of layer 2's statements ask of package crc: one contract a call. 'Tab w a': a table that New made lies at a. -/
import Derived.Test.YtjpmfomabofjpaaCrcR
import Derived.Test.YtjpmfomabofjpaaOwn
import Derived.Test.YtjpmfomabofjpaaSame
namespace Go.Proofs.Ytjpmfomabofjpaa
open Go.RowKit

structure CrcC (Tab : World → Addr → Prop) : Prop where
  below : ∀ {w w' : World} {a : Addr}, Tab w a → Below w.heap.size w w' → Tab w' a
  new_ : ∀ w : World, Calls Try.prog 15 #[] w fun e w' => ∃ a, e = .returned (.pointer (some a)) ∧ Tab w' a ∧ Below w.heap.size w w'
  sum_ : ∀ (a : Addr) (P : Option Addr) (n c : Nat) (ls : List (List UInt8)) (w : World), Tab w a → Rws w P n c ls → n ≤ 5000 → Lib.lens ls ≤ 5000 →
    Calls Try.prog 57 #[.pointer (some a), .slice P n c] w fun e w' => e = .returned (.int .u32 (crcOf ls.flatten : Int)) ∧ Below w.heap.size w w'
  more_ : ∀ (a : Addr) (x : Nat) (A : Option Addr) (n c : Nat) (l : List UInt8) (w : World), Tab w a → x < 4294967296 → Bys w A n c l → n ≤ 5000 →
    Calls Try.prog 60 #[.pointer (some a), .int .u32 x, .slice A n c] w fun e w' => e = .returned (.int .u32 (crcMore x l : Int)) ∧ Below w.heap.size w w'
  put_ : ∀ (a : Addr) (A : Option Addr) (n c : Nat) (l : List UInt8) (w : World), Tab w a → Bys w A n c l → n ≤ 5000 →
    Calls Try.prog 50 #[.pointer (some a), .slice A n c] w (GivesO w (crcPut l))
  check_ : ∀ (a : Addr) (A : Option Addr) (n c : Nat) (l : List UInt8) (w : World), Tab w a → Bys w A n c l → n ≤ 5000 →
    Calls Try.prog 49 #[.pointer (some a), .slice A n c] w (GivesU w (crcChk l))
  sum_nil : ∀ (P : Option Addr) (n c : Nat) (ls : List (List UInt8)) (w : World), Rws w P n c ls → Calls Try.prog 57 #[.pointer none, .slice P n c] w fun e w' => e = .returned (.int .u32 0) ∧ Below w.heap.size w w'
  put_nil : ∀ (A : Option Addr) (n c : Nat) (w : World), Calls Try.prog 50 #[.pointer none, .slice A n c] w (GivesB w [])
  check_nil : ∀ (A : Option Addr) (n c : Nat) (l : List UInt8) (w : World), Bys w A n c l → Calls Try.prog 49 #[.pointer none, .slice A n c] w (GivesU w none)
theorem CrcC.al {Tab : World → Addr → Prop} (K : CrcC Tab) {w : World} {a : Addr} (h : Tab w a) (o : Obj) : Tab (w.alloc o) a := K.below h ((Below.refl _ _).alloc (Nat.le_refl _) _)
end Go.Proofs.Ytjpmfomabofjpaa
