/- What bytes.Compare, octet.Order and kedgeref01.Order answer. -/
import Derived.Test.YtgiedccfeialiaaOsame
namespace Go.Proofs.Ytgiedccfeialiaa
open Go.RowKit

set_option maxHeartbeats 1000000 in
theorem compare_any (A A' : Option Addr) (n c n' c' : Nat) (l m : List UInt8) (w : World) (h : Bys w A n c l) (h' : Bys w A' n' c' m) :
    Calls Try.prog 19 #[.slice A n c, .slice A' n' c'] w fun e w' => e = .returned (.int .i64 (Lib.compareBytes l m)) ∧ w' = w := by
  have hrun : (Extern.BytealgCompare.compare #[.slice A n c, .slice A' n' c']).run Try.prog w = .ok (.int .i64 (Lib.compareBytes l m)) w := by
    change Sem.run Try.prog (do pure (goInt (Extern.BytealgCompare.cmp (← Extern.Bytes.bytesOf (.slice A n c)) (← Extern.Bytes.bytesOf (.slice A' n' c'))))) w = _
    rw [Sem.run_bind, load_bys h]
    simp only [Result.andThen, Sem.run_bind, load_bys h', Sem.run_pure]
    rw [Lib.cmp_eq]
    rfl
  clear h h'
  go_enter Try.func19, Try.ntmps19
  go_wp2
  rw [run_callFunc_extern (P := Try.prog) (f := 22) Try.func22 (by kernel_rfl) (by kernel_rfl) (by kernel_rfl) (e := Extern.BytealgCompare.compare) (by kernel_rfl), hrun]
  simp only [Result.andThen]
  rw [Oper.upon_value]
  go_wp2
  go_ret
  exact ⟨rfl, rfl⟩

set_option maxHeartbeats 1000000 in
theorem order_any (A A' : Option Addr) (n c n' c' : Nat) (l m : List UInt8) (w : World) (h : Bys w A n c l) (h' : Bys w A' n' c' m) :
    Calls Try.prog 15 #[.slice A n c, .slice A' n' c'] w fun e w' => e = .returned (.int .i64 (Lib.compareBytes l m)) ∧ w' = w := by
  have H := Lib.hid (compare_any A A' n c n' c' l m w h h')
  clear h h'
  go_enter Try.func15, Try.ntmps15
  go_wp2_with (fail)
  refine H.out.mono ?_
  rintro e w' ⟨rfl, rfl⟩
  go_wp2
  go_ret
  exact ⟨rfl, rfl⟩

theorem cb_nil (m : List UInt8) : Lib.compareBytes [] m = if m.length = 0 then 0 else -1 := by cases m <;> simp [Lib.compareBytes]
theorem cb_nil2 (l : List UInt8) : Lib.compareBytes l [] = if l.length = 0 then 0 else 1 := by cases l <;> simp [Lib.compareBytes]
theorem cb_self (l : List UInt8) : Lib.compareBytes l l = 0 := by
  induction l with
  | nil => rfl
  | cons a l ih => simp [Lib.compareBytes, ih]
theorem cb_zero : ∀ (l m : List UInt8), Lib.compareBytes l m = 0 → l = m
  | [], [], _ => rfl
  | [], _ :: _, h => by simp [Lib.compareBytes] at h
  | _ :: _, [], h => by simp [Lib.compareBytes] at h
  | a :: l, b :: m, h => by
    unfold Lib.compareBytes at h
    by_cases h1 : a < b
    · simp [h1] at h
    · by_cases h2 : b < a
      · simp [h1, h2] at h
      · simp only [h1, h2, if_false] at h
        rw [cb_zero l m h, UInt8.le_antisymm (UInt8.not_lt.1 h2) (UInt8.not_lt.1 h1)]
theorem cb_swap : ∀ (l m : List UInt8), Lib.compareBytes m l = -Lib.compareBytes l m
  | [], [] => rfl
  | [], _ :: _ => rfl
  | _ :: _, [] => rfl
  | a :: l, b :: m => by
    unfold Lib.compareBytes
    by_cases h1 : a < b
    · have h2 : ¬ b < a := UInt8.not_lt.2 (UInt8.le_of_lt h1)
      simp [h1, h2]
    · by_cases h2 : b < a
      · simp [h1, h2]
      · simp only [h1, h2, if_false]
        exact cb_swap l m
theorem cb_end (l m : List UInt8) (k : Nat) (h1 : l.length ≤ k) (h2 : k < m.length) : Lib.compareBytes (l.drop k) (m.drop k) = -1 := by
  rw [List.drop_eq_nil_of_le h1, cb_nil, if_neg (by simp; omega)]
theorem cb_end2 (l m : List UInt8) (k : Nat) (h1 : k < l.length) (h2 : m.length ≤ k) : Lib.compareBytes (l.drop k) (m.drop k) = 1 := by
  rw [List.drop_eq_nil_of_le h2, cb_nil2, if_neg (by simp; omega)]
theorem cb_end3 (l m : List UInt8) (k : Nat) (h1 : l.length ≤ k) (h2 : m.length ≤ k) : Lib.compareBytes (l.drop k) (m.drop k) = 0 := by
  rw [List.drop_eq_nil_of_le h2, List.drop_eq_nil_of_le h1]; rfl
theorem cb_drop (l m : List UInt8) (k : Nat) (h1 : k < l.length) (h2 : k < m.length) : Lib.compareBytes (l.drop k) (m.drop k) = if l[k].toNat < m[k].toNat then -1 else if m[k].toNat < l[k].toNat then 1 else Lib.compareBytes (l.drop (k + 1)) (m.drop (k + 1)) := by
  rw [List.drop_eq_getElem_cons h1, List.drop_eq_getElem_cons h2]
  simp only [Lib.compareBytes, UInt8.lt_iff_toNat_lt]

end Go.Proofs.Ytgiedccfeialiaa
