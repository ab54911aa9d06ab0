/- What kedgeref02's Feed, Sum, More, Put and Check answer. -/
import Derived.Test.YtoaccikhklfeiaaFresh
import Derived.Test.YtoaccikhklfeiaaWords
import Derived.Test.YtoaccikhklfeiaaCrcM
namespace Go.Proofs.Ytoaccikhklfeiaa
open Go.RowKit
set_option maxRecDepth 20000

theorem csteps_succ (x k : Nat) : csteps x (k + 1) = cstep (csteps x k) := by rw [csteps_add]; rfl
theorem u32_x (a b : Nat) (ha : a < 4294967296) (hb : b < 4294967296) : bits BinOp.xor IntKind.u32 (a : Int) (b : Int) = ((a ^^^ b : Nat) : Int) := u32_xor_nat a b ha hb
theorem u32_poly (a : Nat) (ha : a < 4294967296) : bits BinOp.xor IntKind.u32 (a : Int) 3988292384 = ((a ^^^ 3988292384 : Nat) : Int) := u32_xor_nat a 3988292384 ha (by decide)
theorem u32_ones (a : Nat) (ha : a < 4294967296) : bits BinOp.xor IntKind.u32 (a : Int) 4294967295 = ((a ^^^ 4294967295 : Nat) : Int) := u32_xor_nat a 4294967295 ha (by decide)
theorem feed_take (x : Nat) (l : List UInt8) (k : Nat) (h : k < l.length) : feed x (l.take (k + 1)) = csteps (feed x (l.take k) ^^^ l[k].toNat) 8 := by
  rw [List.take_succ_eq_append_getElem h, feed_snoc]; rfl

theorem leB_take (s : Nat) : ∀ k, k < 4 → leB s (k + 1) = leB s k ++ [UInt8.ofNat (s / 256 ^ k)] := by
  have gen : ∀ k s, leB s (k + 1) = leB s k ++ [UInt8.ofNat (s / 256 ^ k)] := by
    intro k
    induction k with
    | zero => intro s; simp [leB]
    | succ k ih =>
      intro s
      have := ih (s / 256)
      show UInt8.ofNat s :: leB (s / 256) (k + 1) = UInt8.ofNat s :: leB (s / 256) k ++ _
      rw [this, Nat.div_div_eq_div_mul, Nat.pow_succ, Nat.mul_comm 256]
      rfl
  exact fun k _ => gen k s

theorem crcChk_short (q : List UInt8) (h : q.length < 4) : crcChk q = none := by rw [crcChk, if_neg (by omega)]
theorem crcChk_no (q : List UInt8) (h : q ≠ crcPut (q.take (q.length - 4))) : crcChk q = none := by rw [crcChk, if_neg (fun hh => h hh.2)]
theorem crcChk_yes (q : List UInt8) (h4 : 4 ≤ q.length) (h : q = crcPut (q.take (q.length - 4))) : crcChk q = some (q.take (q.length - 4)) := by rw [crcChk, if_pos ⟨h4, h⟩]

end Go.Proofs.Ytoaccikhklfeiaa
