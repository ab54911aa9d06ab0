/- What bytes.Equal, octet.Same, bytes.Compare, octet.Order and kedgeref01.Order answer. -/
import Derived.Test.YtndieoohlncfcaaSame
import Derived.Lib.BytesEntry
import Derived.Lib.Bytealg
import Derived.Laws.Externs
import Derived.Laws.BytesArg
namespace Go.Proofs.Ytndieoohlncfcaa
open Go.RowKit

def nums (l : List UInt8) : List Int := l.map fun b => (b.toNat : Int)
theorem bytesOf_nums (l : List UInt8) : Lib.bytesOf (nums l) = l := by
  simp only [Lib.bytesOf, nums, List.map_map]
  refine (List.map_congr_left fun b _ => ?_).trans (List.map_id l)
  simp
theorem str_nums (l : List UInt8) : strOfNums (nums l) = ⟨l.toArray⟩ := by
  have := bytesOf_nums l
  unfold Lib.bytesOf at this
  unfold strOfNums
  rw [this]
theorem load_bys {w : World} {A : Option Addr} {n c : Nat} {l : List UInt8} (h : Bys w A n c l) : (Extern.Bytes.bytesOf (.slice A n c)).run Try.prog w = .ok ⟨l.toArray⟩ w := by
  have hl := h.len
  rcases Nat.eq_zero_or_pos n with h0 | h0
  · subst h0
    have : l = [] := List.eq_nil_of_length_eq_zero hl
    subst this
    rcases A with _ | ad
    · rfl
    · rfl
  · obtain ⟨b, o, rfl, _, hc⟩ := h.at_ h0
    have := Lib.run_loadBytesX (P := Try.prog) w (nums l) ⟨b, o, none⟩ .empty (fun j x hj => by
      have hjl : j < l.length := by
        have := (List.getElem?_eq_some_iff.1 hj).1
        simpa [nums] using this
      have e : (⟨b, o, none⟩ : Addr).add j = ⟨b, o + j, none⟩ := by unfold Addr.add; split <;> simp_all
      rw [e, hc j hjl]
      have : (nums l)[j]? = some (l[j].toNat : Int) := by simp [nums, hjl]
      rw [this] at hj
      injection hj with hj
      rw [hj])
    rw [bytesOf_nums] at this
    have hl2 : (nums l).length = n := by simp [nums, hl]
    rw [hl2] at this
    show Sem.run _ (Extern.Bytes.loadBytes ⟨b, o, none⟩ n .empty) w = _
    rw [this]
    congr 1
    apply ByteArray.ext
    show (#[] : Array UInt8) ++ l.toArray = l.toArray
    simp
theorem conv_bys {w : World} {A : Option Addr} {n c : Nat} {l : List UInt8} (h : Bys w A n c l) : (convert 24 9 (.slice A n c)).run Try.prog w = .ok (.string ⟨l.toArray⟩) w := by
  have hl := h.len
  rcases Nat.eq_zero_or_pos n with h0 | h0
  · subst h0
    have : l = [] := List.eq_nil_of_length_eq_zero hl
    subst this
    rw [run_convert_bytes_string w 24 9 5 _ 0 c Try.underlying24 Try.underlying5 Try.underlying9]
    rcases A with _ | ad
    · simp [Conv.bytesToString]; rfl
    · simp [Conv.bytesToString]; rfl
  · obtain ⟨b, o, rfl, _, hc⟩ := h.at_ h0
    rw [run_convert_bytes_arg (P := Try.prog) w 24 5 Try.underlying24 Try.underlying5 b o n c (nums l) (by simp [nums, hl]) (fun i hi => by
      rw [hc i (by omega)]
      simp [nums, List.getElem?_eq_getElem (show i < l.length by omega)]) 9 Try.underlying9, str_nums]

set_option maxHeartbeats 1000000 in
theorem equal_any (A A' : Option Addr) (n c n' c' : Nat) (l m : List UInt8) (w : World) (h : Bys w A n c l) (h' : Bys w A' n' c' m) :
    Calls Try.prog 27 #[.slice A n c, .slice A' n' c'] w fun e w' => e = .returned (.bool (sameB l m)) ∧ w' = w := by
  have k1 := conv_bys h
  have k2 := conv_bys h'
  clear h h'
  go_enter Try.func27, Try.ntmps27
  go_wp2
  go_ret
  refine ⟨ret_bool ?_, rfl⟩
  rw [Bool.eq_iff_iff, sameB_iff]
  simp

set_option maxHeartbeats 1000000 in
theorem osame_any (A A' : Option Addr) (n c n' c' : Nat) (l m : List UInt8) (w : World) (h : Bys w A n c l) (h' : Bys w A' n' c' m) :
    Calls Try.prog 18 #[.slice A n c, .slice A' n' c'] w fun e w' => e = .returned (.bool (sameB l m)) ∧ w' = w := by
  have H := Lib.hid (equal_any A A' n c n' c' l m w h h')
  clear h h'
  go_enter Try.func18, Try.ntmps18
  go_wp2_with (fail)
  refine H.out.mono ?_
  rintro e w' ⟨rfl, rfl⟩
  go_wp2
  go_ret
  exact ⟨rfl, rfl⟩

set_option maxHeartbeats 1000000 in
theorem compare_any (A A' : Option Addr) (n c n' c' : Nat) (l m : List UInt8) (w : World) (h : Bys w A n c l) (h' : Bys w A' n' c' m) :
    Calls Try.prog 28 #[.slice A n c, .slice A' n' c'] w fun e w' => e = .returned (.int .i64 (Lib.compareBytes l m)) ∧ w' = w := by
  have hrun : (Extern.BytealgCompare.compare #[.slice A n c, .slice A' n' c']).run Try.prog w = .ok (.int .i64 (Lib.compareBytes l m)) w := by
    change Sem.run Try.prog (do pure (goInt (Extern.BytealgCompare.cmp (← Extern.Bytes.bytesOf (.slice A n c)) (← Extern.Bytes.bytesOf (.slice A' n' c'))))) w = _
    rw [Sem.run_bind, load_bys h]
    simp only [Result.andThen, Sem.run_bind, load_bys h', Sem.run_pure]
    rw [Lib.cmp_eq]
    rfl
  clear h h'
  go_enter Try.func28, Try.ntmps28
  go_wp2
  rw [run_callFunc_extern (P := Try.prog) (f := 32) Try.func32 (by kernel_rfl) (by kernel_rfl) (by kernel_rfl) (e := Extern.BytealgCompare.compare) (by kernel_rfl), hrun]
  simp only [Result.andThen]
  rw [Oper.upon_value]
  go_wp2
  go_ret
  exact ⟨rfl, rfl⟩

set_option maxHeartbeats 1000000 in
theorem order_any (A A' : Option Addr) (n c n' c' : Nat) (l m : List UInt8) (w : World) (h : Bys w A n c l) (h' : Bys w A' n' c' m) :
    Calls Try.prog 19 #[.slice A n c, .slice A' n' c'] w fun e w' => e = .returned (.int .i64 (Lib.compareBytes l m)) ∧ w' = w := by
  have H := Lib.hid (compare_any A A' n c n' c' l m w h h')
  clear h h'
  go_enter Try.func19, Try.ntmps19
  go_wp2_with (fail)
  refine H.out.mono ?_
  rintro e w' ⟨rfl, rfl⟩
  go_wp2
  go_ret
  exact ⟨rfl, rfl⟩

theorem cb_nil (m : List UInt8) : Lib.compareBytes [] m = if m.length = 0 then 0 else -1 := by cases m <;> simp [Lib.compareBytes]
theorem cb_nil2 (l : List UInt8) : Lib.compareBytes l [] = if l.length = 0 then 0 else 1 := by cases l <;> simp [Lib.compareBytes]
theorem cb_self (l : List UInt8) : Lib.compareBytes l l = 0 := by
  induction l with
  | nil => rfl
  | cons a l ih => simp [Lib.compareBytes, ih]
theorem cb_zero : ∀ (l m : List UInt8), Lib.compareBytes l m = 0 → l = m
  | [], [], _ => rfl
  | [], _ :: _, h => by simp [Lib.compareBytes] at h
  | _ :: _, [], h => by simp [Lib.compareBytes] at h
  | a :: l, b :: m, h => by
    unfold Lib.compareBytes at h
    by_cases h1 : a < b
    · simp [h1] at h
    · by_cases h2 : b < a
      · simp [h1, h2] at h
      · simp only [h1, h2, if_false] at h
        rw [cb_zero l m h, UInt8.le_antisymm (UInt8.not_lt.1 h2) (UInt8.not_lt.1 h1)]
theorem cb_swap : ∀ (l m : List UInt8), Lib.compareBytes m l = -Lib.compareBytes l m
  | [], [] => rfl
  | [], _ :: _ => rfl
  | _ :: _, [] => rfl
  | a :: l, b :: m => by
    unfold Lib.compareBytes
    by_cases h1 : a < b
    · have h2 : ¬ b < a := UInt8.not_lt.2 (UInt8.le_of_lt h1)
      simp [h1, h2]
    · by_cases h2 : b < a
      · simp [h1, h2]
      · simp only [h1, h2, if_false]
        exact cb_swap l m
theorem cb_end (l m : List UInt8) (k : Nat) (h1 : l.length ≤ k) (h2 : k < m.length) : Lib.compareBytes (l.drop k) (m.drop k) = -1 := by
  rw [List.drop_eq_nil_of_le h1, cb_nil, if_neg (by simp; omega)]
theorem cb_end2 (l m : List UInt8) (k : Nat) (h1 : k < l.length) (h2 : m.length ≤ k) : Lib.compareBytes (l.drop k) (m.drop k) = 1 := by
  rw [List.drop_eq_nil_of_le h2, cb_nil2, if_neg (by simp; omega)]
theorem cb_end3 (l m : List UInt8) (k : Nat) (h1 : l.length ≤ k) (h2 : m.length ≤ k) : Lib.compareBytes (l.drop k) (m.drop k) = 0 := by
  rw [List.drop_eq_nil_of_le h2, List.drop_eq_nil_of_le h1]; rfl
theorem cb_drop (l m : List UInt8) (k : Nat) (h1 : k < l.length) (h2 : k < m.length) : Lib.compareBytes (l.drop k) (m.drop k) = if l[k].toNat < m[k].toNat then -1 else if m[k].toNat < l[k].toNat then 1 else Lib.compareBytes (l.drop (k + 1)) (m.drop (k + 1)) := by
  rw [List.drop_eq_getElem_cons h1, List.drop_eq_getElem_cons h2]
  simp only [Lib.compareBytes, UInt8.lt_iff_toNat_lt]

set_option maxHeartbeats 2000000 in
theorem rorder_any (A A' : Option Addr) (n c n' c' : Nat) (l m : List UInt8) (w : World) (h : Bys w A n c l) (h' : Bys w A' n' c' m) :
    Calls Try.prog 20 #[.slice A n c, .slice A' n' c'] w fun e w' => e = .returned (.int .i64 (Lib.compareBytes l m)) ∧ ∃ k, w' = w.drewN k := by
  obtain ⟨hl, hnc, hcm, hcell⟩ := h
  obtain ⟨hl', hnc', hcm', hcell'⟩ := h'
  unfold maxLen at hcm hcm'
  subst hl
  subst hl'
  have HC := Lib.hid hcell; clear hcell
  have HC' := Lib.hid hcell'; clear hcell'
  go_enter Try.func20, Try.ntmps20
  go_wp2
  go_loopw [5] (fun i wr => ∃ k : Nat, k ≤ l.length ∧ k ≤ m.length ∧ i = .int .i64 k ∧ Lib.compareBytes (l.drop k) (m.drop k) = Lib.compareBytes l m ∧ ∃ nd, wr = w.drewN nd) (fun i _ => l.length - (intOf i).toNat)
  case atStart => exact ⟨0, Nat.zero_le _, Nat.zero_le _, rfl, by simp, 0, rfl⟩
  case round =>
    obtain ⟨k, hk, hk', rfl, heq, nd, rfl⟩ := hrel
    have HE := Lib.hid heq; clear heq
    by_cases h1 : k < l.length
    · have hd : decide (k < l.length) = true := by simpa using h1
      by_cases h2 : k < m.length
      · obtain ⟨b, o, rfl, hb, hc⟩ := HC.out (by omega)
        obtain ⟨b', o', rfl, hb', hc'⟩ := HC'.out (by omega)
        have c1 := hc k h1
        have c2 := hc' k h2
        clear hc hc'
        have HD := Lib.hid (cb_drop l m k h1 h2)
        go_wp2
        go_quiet (fail)
        go_wp2
        · have hlt : l[k].toNat < m[k].toNat := by first | assumption | omega
          go_ret
          refine ⟨ret_int ?_, by (first | exact ⟨_, rfl⟩ | (simp only [World.drewN_drewN]; exact ⟨_, rfl⟩))⟩
          rw [← HE.out, HD.out, if_pos (by omega)]
        · have hlt : ¬ l[k].toNat < m[k].toNat := by omega
          go_quiet (fail)
          go_wp2
          · have hlt2 : m[k].toNat < l[k].toNat := by first | assumption | omega
            go_ret
            refine ⟨ret_int ?_, by (first | exact ⟨_, rfl⟩ | (simp only [World.drewN_drewN]; exact ⟨_, rfl⟩))⟩
            rw [← HE.out, HD.out, if_neg (by omega), if_pos (by omega)]
          · have hlt2 : ¬ m[k].toNat < l[k].toNat := by omega
            go_roundw
            case rel =>
              refine ⟨k + 1, by omega, by omega, by go_num, ?_, by (first | exact ⟨_, rfl⟩ | (simp only [World.drewN_drewN]; exact ⟨_, rfl⟩))⟩
              rw [← HE.out, HD.out, if_neg (by omega), if_neg (by omega)]
            case measure => simp [intOf]; omega
      · go_wp2
        go_ret
        refine ⟨ret_int ?_, by (first | exact ⟨_, rfl⟩ | (simp only [World.drewN_drewN]; exact ⟨_, rfl⟩))⟩
        rw [← HE.out, cb_end2 l m k h1 (by omega)]
    · have hd : decide (k < l.length) = false := by simpa using h1
      by_cases h2 : k < m.length
      · go_wp2
        go_ret
        refine ⟨ret_int ?_, by (first | exact ⟨_, rfl⟩ | (simp only [World.drewN_drewN]; exact ⟨_, rfl⟩))⟩
        rw [← HE.out, cb_end l m k (by omega) h2]
      · go_wp2
        go_ret
        refine ⟨ret_int ?_, by (first | exact ⟨_, rfl⟩ | (simp only [World.drewN_drewN]; exact ⟨_, rfl⟩))⟩
        rw [← HE.out, cb_end3 l m k (by omega) (by omega)]
end Go.Proofs.Ytndieoohlncfcaa
