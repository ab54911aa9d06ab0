/- What bytes.Clone and octet.Cut answer. -/
import Derived.Test.YtndieoohlncfcaaBase
namespace Go.Proofs.Ytndieoohlncfcaa
open Go.RowKit

set_option maxHeartbeats 1000000 in
theorem clone_any (A : Option Addr) (n c : Nat) (l : List UInt8) (w : World) (hB : Bys w A n c l) (hn : n ≤ 140737488355328) :
    Calls Try.prog 25 #[.slice A n c] w (GivesB w l) := by
  have q22 : ∀ (w : World) (a : Option Addr) (n c n' c' : Nat), (binOp .eql 24 (.slice a n c) (.slice none n' c')).run Try.prog w = .ok (.bool a.isNone) w := fun w a n c n' c' => Lib.run_eql_slice_nil w _ _ a n c n' c' Try.underlying24
  rcases A with _ | ad
  · have h0 : n = 0 := by
      rcases Nat.eq_zero_or_pos n with h | h
      · exact h
      · obtain ⟨b, o, e, _⟩ := hB.at_ h
        cases e
    have hl : l = [] := List.eq_nil_of_length_eq_zero (by rw [hB.len, h0])
    subst h0
    subst hl
    clear hB
    go_enter Try.func25, Try.ntmps25
    go_wp2
    go_ret
    exact ⟨_, _, _, rfl, Bys.nil _, Below.refl _ _⟩
  · go_enter Try.func25, Try.ntmps25
    go_wp2_with ((with_reducible refine app_bys _ rfl (.tmp 5) (.tmp 6) rfl w.heap.size (.slice (some ⟨w.heap.size, 0, none⟩) 0 0) 0 [] rfl ?c1 (some ad) n c l rfl (hB.alloc _) ?c2 ?c3 ?_); rotate_right; intro v1 w1 hown1 hgrow1 hwhere1)
    case c1 => exact World.ownsRow_made w #[] 0 (Nat.le_refl _) (Nat.zero_le _) rfl
    case c2 => omega
    case c3 => simp
    go_ret
    simp only [Nat.zero_add, List.nil_append] at hown1
    obtain ⟨A1, c1, rfl⟩ := own_shape hown1
    exact ⟨_, _, _, rfl, Bys.of_own hown1, ((Below.refl _ w).alloc (Nat.le_refl _) _).grown hgrow1 (by simp) (by intro k hk; simp [Value.ownBlock] at hk; omega)⟩

theorem Bys.take {w : World} {A : Option Addr} {n c : Nat} {l : List UInt8} (h : Bys w A n c l) (k : Nat) (hk : k ≤ n) : Bys w A k c (l.take k) := by
  have hl := h.len
  have hle := h.le
  refine ⟨by simp; omega, by omega, h.2.2.1, fun hp => ?_⟩
  obtain ⟨b, o, e, hb, hc⟩ := h.at_ (by omega)
  refine ⟨b, o, e, hb, fun j hj => ?_⟩
  simp at hj
  have := hc j (by omega)
  simpa using this
theorem Bys.drop {w : World} {A : Option Addr} {n c : Nat} {l : List UInt8} (h : Bys w A n c l) (k : Nat) (hk : k ≤ n) : Bys w (if c = k then A else A.map (·.add k)) (n - k) (c - k) (l.drop k) := by
  have hl := h.len
  have hle := h.le
  have hcap := h.cap
  refine ⟨by simp; omega, by omega, by unfold maxLen; omega, fun hp => ?_⟩
  obtain ⟨b, o, rfl, hb, hc⟩ := h.at_ (by omega)
  rw [if_neg (by omega)]
  refine ⟨b, o + k, ?_, hb, fun j hj => ?_⟩
  · unfold Addr.add
    by_cases h0 : k = 0
    · subst h0; rfl
    · simp [h0]
  · simp at hj
    have := hc (k + j) (by omega)
    simpa [Nat.add_assoc] using this

theorem map_add0 (A : Option Addr) : A.map (·.add 0) = A := by
  rcases A with _ | ad
  · rfl
  · simp [Addr.add]
/-- 'b[:k]', 'b[k:]' in the walk's words, with no test left in the address -/
theorem slice_hi (A : Option Addr) (n c k : Nat) (hk : k ≤ c) (w : World) : (Instr.slice 24 (.slice A n c) none (some (.int .i64 k)) none).run Try.prog w = .ok (.slice A k c) w := by
  obtain ⟨i0, hi, hz0, hz1, hz2⟩ := info_parts Try.info5
  have ht : Try.prog.underlying 24 = some (.slice (Try.prog.elem 24)) := by kernel_rfl
  have he : Try.prog.elem 24 = 5 := by kernel_rfl
  rw [run_slice_h _ _ _ _ _ ht .i64 k (by omega) (by omega), he]
  simp [Go.sizeOf, typeInfo, hi, hz1, sliced, map_add0]
theorem slice_lo (A : Option Addr) (n c k : Nat) (hk : k ≤ n) (w : World) : (Instr.slice 24 (.slice A n c) (some (.int .i64 k)) none none).run Try.prog w = .ok (.slice (if c = k then A else A.map (·.add k)) (n - k) (c - k)) w := by
  obtain ⟨i0, hi, hz0, hz1, hz2⟩ := info_parts Try.info5
  have ht : Try.prog.underlying 24 = some (.slice (Try.prog.elem 24)) := by kernel_rfl
  have he : Try.prog.elem 24 = 5 := by kernel_rfl
  rw [run_slice_l _ _ _ _ _ ht .i64 k (by omega) (by omega), he]
  simp [Go.sizeOf, typeInfo, hi, hz1, sliced]
theorem at_slice (x : Value) (lo hi mx : Option Value) (w : World) : (Instr.sliceAt 24 x lo hi mx).run Try.prog w = (Instr.slice 24 x lo hi mx).run Try.prog w :=
  run_sliceAt_slice _ _ x lo hi mx (by kernel_rfl)
theorem cut_lo {w : World} {A : Option Addr} {n c : Nat} {l : List UInt8} (h : Bys w A n c l) (k : Nat) (hk : k ≤ n) :
    ∃ A2, (∀ W, (Instr.sliceAt 24 (.slice A n c) (some (.int .i64 k)) none none).run Try.prog W = .ok (.slice A2 (n - k) (c - k)) W) ∧ Bys w A2 (n - k) (c - k) (l.drop k) :=
  ⟨_, fun W => (at_slice _ _ _ _ W).trans (slice_lo A n c k hk W), h.drop k hk⟩
theorem cut_hi {w : World} {A : Option Addr} {n c : Nat} {l : List UInt8} (h : Bys w A n c l) (k : Nat) (hk : k ≤ n) :
    (∀ W, (Instr.sliceAt 24 (.slice A n c) none (some (.int .i64 k)) none).run Try.prog W = .ok (.slice A k c) W) ∧ Bys w A k c (l.take k) :=
  ⟨fun W => (at_slice _ _ _ _ W).trans (slice_hi A n c k (by have := h.le; omega) W), h.take k hk⟩

theorem clone_in (A : Option Addr) (n c : Nat) (l : List UInt8) (w : World) (hB : Bys w A n c l) (hn : n ≤ 140737488355328) (W : World) (hw : Below w.heap.size w W) :
    Calls Try.prog 25 #[.slice A n c] W fun e w' => ∃ A1 c1, e = .returned (.slice A1 n c1) ∧ Bys w' A1 n c1 l ∧ Below w.heap.size w w' ∧ Below W.heap.size W w' := by
  refine (clone_any A n c l W (hB.below hw) hn).mono ?_
  rintro e w' ⟨A1, n1, c1, rfl, h1, h2⟩
  obtain rfl : n1 = n := h1.len.symm.trans hB.len
  exact ⟨A1, c1, rfl, h1, below_step hw hw.size h2, h2⟩

set_option maxHeartbeats 1000000 in
theorem cut_yes (A : Option Addr) (n c k : Nat) (l : List UInt8) (w : World) (hB : Bys w A n c l) (hn : n ≤ 140737488355328) (hk : k ≤ n) :
    Calls Try.prog 15 #[.slice A n c, .int .i64 k] w fun e w' => ∃ A1 c1 A2 c2, e = .returned (.tuple #[.slice A1 k c1, .slice A2 (n - k) c2, .bool true]) ∧ Bys w' A1 k c1 (l.take k) ∧ Bys w' A2 (n - k) c2 (l.drop k) ∧ Below w.heap.size w w' := by
  have hle := hB.le
  have hcap := hB.cap
  obtain ⟨s1, b1⟩ := cut_hi hB k hk
  obtain ⟨A2', s2, b2⟩ := cut_lo hB k hk
  have H1 := clone_in _ _ _ _ _ b1 (by omega)
  have H2 := clone_in _ _ _ _ _ b2 (by omega)
  have H1 := Lib.hid H1
  have H2 := Lib.hid H2
  go_enter Try.func15, Try.ntmps15
  go_wp2_with (fail)
  go_region_with (first | (go_at_call 25; with_reducible refine (H1.out _ ?_).mono ?_; (first | assumption | exact Below.refl _ _ | exact (Below.refl _ _).drew); rintro e w1 ⟨A1, c1, rfl, B1, G1, L1⟩) | (go_at_call 25; with_reducible refine (H2.out _ ?_).mono ?_; (first | assumption | exact Below.refl _ _ | exact (Below.refl _ _).drew); rintro e w2 ⟨A2, c2, rfl, B2, G2, L2⟩))
  go_wp2
  go_ret3
  exact ⟨_, _, _, _, rfl, B1.below L2, B2, G2⟩

set_option maxHeartbeats 1000000 in
theorem cut_no (A : Option Addr) (n c : Nat) (x : Int) (w : World) (h : x < 0 ∨ (n : Int) < x) :
    Calls Try.prog 15 #[.slice A n c, .int .i64 x] w fun e w' => e = .returned (.tuple #[.slice none 0 0, .slice none 0 0, .bool false]) ∧ w' = w := by
  rcases h with h | h
  · have hd : decide (x < 0) = true := by simpa using h
    go_enter Try.func15, Try.ntmps15
    go_wp2
    go_ret3
    exact ⟨rfl, rfl⟩
  · have hd : decide (x < 0) = false := by simp; omega
    have hd2 : decide ((n : Int) < x) = true := by simpa using h
    go_enter Try.func15, Try.ntmps15
    go_wp2
    go_ret3
    exact ⟨rfl, rfl⟩
end Go.Proofs.Ytndieoohlncfcaa
