/- What bytes.Clone and octet.Cut answer. -/
import Derived.Test.YtjpmfomabofjpaaFresh
namespace Go.Proofs.Ytjpmfomabofjpaa
open Go.RowKit

set_option maxHeartbeats 1000000 in
theorem clone_fr (A : Option Addr) (n c : Nat) (l : List UInt8) (w : World) (hB : Bys w A n c l) (hn : n ≤ 140737488355328) :
    Calls Try.prog 20 #[.slice A n c] w (GivesBf w l) := by
  have q22 : ∀ (w : World) (a : Option Addr) (n c n' c' : Nat), (binOp .eql 22 (.slice a n c) (.slice none n' c')).run Try.prog w = .ok (.bool a.isNone) w := fun w a n c n' c' => Lib.run_eql_slice_nil w _ _ a n c n' c' Try.underlying22
  rcases A with _ | ad
  · have h0 : n = 0 := by
      rcases Nat.eq_zero_or_pos n with h | h
      · exact h
      · obtain ⟨b, o, e, _⟩ := hB.at_ h
        cases e
    have hl : l = [] := List.eq_nil_of_length_eq_zero (by rw [hB.len, h0])
    subst h0
    subst hl
    clear hB
    go_enter Try.func20, Try.ntmps20
    go_wp2
    go_ret
    exact ⟨_, _, _, rfl, Bys.nil _, Av.none _ _, Below.refl _ _⟩
  · go_enter Try.func20, Try.ntmps20
    go_wp2_with ((with_reducible refine app_bys _ rfl (.tmp 5) (.tmp 6) rfl w.heap.size (.slice (some ⟨w.heap.size, 0, none⟩) 0 0) 0 [] rfl ?c1 (some ad) n c l rfl (hB.alloc _) ?c2 ?c3 ?_); rotate_right; intro v1 w1 hown1 hgrow1 hwhere1)
    case c1 => exact World.ownsRow_made w #[] 0 (Nat.le_refl _) (Nat.zero_le _) rfl
    case c2 => omega
    case c3 => simp
    go_ret
    simp only [Nat.zero_add, List.nil_append] at hown1
    obtain ⟨A1, c1, rfl⟩ := own_shape hown1
    exact ⟨_, _, _, rfl, Bys.of_own hown1, (own_fr hown1).imp (fun k hk => hk), ((Below.refl _ w).alloc (Nat.le_refl _) _).grown hgrow1 (by simp) (by intro k hk; simp [Value.ownBlock] at hk; omega)⟩

theorem clone_any (A : Option Addr) (n c : Nat) (l : List UInt8) (w : World) (hB : Bys w A n c l) (hn : n ≤ 140737488355328) :
    Calls Try.prog 20 #[.slice A n c] w (GivesB w l) := (clone_fr A n c l w hB hn).mono fun _ _ h => h.givesB

theorem clone_in (A : Option Addr) (n c : Nat) (l : List UInt8) (w : World) (hB : Bys w A n c l) (hn : n ≤ 140737488355328) (W : World) (hw : Below w.heap.size w W) :
    Calls Try.prog 20 #[.slice A n c] W fun e w' => ∃ A1 c1, e = .returned (.slice A1 n c1) ∧ Bys w' A1 n c1 l ∧ Av (· < w.heap.size) n A1 ∧ Below w.heap.size w w' ∧ Below W.heap.size W w' := by
  refine (clone_fr A n c l W (hB.below hw) hn).mono ?_
  rintro e w' ⟨A1, n1, c1, rfl, h1, hf, h2⟩
  obtain rfl : n1 = n := h1.len.symm.trans hB.len
  exact ⟨A1, c1, rfl, h1, hf.mono hw.size, below_step hw hw.size h2, h2⟩

set_option maxHeartbeats 1000000 in
theorem cut_fr (A : Option Addr) (n c k : Nat) (l : List UInt8) (w : World) (hB : Bys w A n c l) (hn : n ≤ 140737488355328) (hk : k ≤ n) :
    Calls Try.prog 53 #[.slice A n c, .int .i64 k] w fun e w' => ∃ A1 c1 A2 c2, e = .returned (.tuple #[.slice A1 k c1, .slice A2 (n - k) c2, .bool true]) ∧ Bys w' A1 k c1 (l.take k) ∧ Bys w' A2 (n - k) c2 (l.drop k) ∧ Av (· < w.heap.size) k A1 ∧ Av (· < w.heap.size) (n - k) A2 ∧ Below w.heap.size w w' := by
  have hle := hB.le
  have hcap := hB.cap
  obtain ⟨s1, b1⟩ := cut_hi hB k hk
  obtain ⟨A2', s2, b2⟩ := cut_lo hB k hk
  have H1 := clone_in _ _ _ _ _ b1 (by omega)
  have H2 := clone_in _ _ _ _ _ b2 (by omega)
  have H1 := Lib.hid H1
  have H2 := Lib.hid H2
  go_enter Try.func53, Try.ntmps53
  go_wp2_with (fail)
  go_region_with (first | (go_at_call 20; with_reducible refine (H1.out _ ?_).mono ?_; (first | assumption | exact Below.refl _ _ | exact (Below.refl _ _).drew); rintro e w1 ⟨A1, c1, rfl, B1, F1, G1, L1⟩) | (go_at_call 20; with_reducible refine (H2.out _ ?_).mono ?_; (first | assumption | exact Below.refl _ _ | exact (Below.refl _ _).drew); rintro e w2 ⟨A2, c2, rfl, B2, F2, G2, L2⟩))
  go_wp2
  go_ret3
  exact ⟨_, _, _, _, rfl, B1.below L2, B2, F1, F2, G2⟩

theorem cut_yes (A : Option Addr) (n c k : Nat) (l : List UInt8) (w : World) (hB : Bys w A n c l) (hn : n ≤ 140737488355328) (hk : k ≤ n) :
    Calls Try.prog 53 #[.slice A n c, .int .i64 k] w fun e w' => ∃ A1 c1 A2 c2, e = .returned (.tuple #[.slice A1 k c1, .slice A2 (n - k) c2, .bool true]) ∧ Bys w' A1 k c1 (l.take k) ∧ Bys w' A2 (n - k) c2 (l.drop k) ∧ Below w.heap.size w w' :=
  (cut_fr A n c k l w hB hn hk).mono fun _ _ ⟨A1, c1, A2, c2, h1, h2, h3, _, _, h4⟩ => ⟨A1, c1, A2, c2, h1, h2, h3, h4⟩

set_option maxHeartbeats 1000000 in
theorem cut_no (A : Option Addr) (n c : Nat) (x : Int) (w : World) (h : x < 0 ∨ (n : Int) < x) :
    Calls Try.prog 53 #[.slice A n c, .int .i64 x] w fun e w' => e = .returned (.tuple #[.slice none 0 0, .slice none 0 0, .bool false]) ∧ w' = w := by
  rcases h with h | h
  · have hd : decide (x < 0) = true := by simpa using h
    go_enter Try.func53, Try.ntmps53
    go_wp2
    go_ret3
    exact ⟨rfl, rfl⟩
  · have hd : decide (x < 0) = false := by simp; omega
    have hd2 : decide ((n : Int) < x) = true := by simpa using h
    go_enter Try.func53, Try.ntmps53
    go_wp2
    go_ret3
    exact ⟨rfl, rfl⟩
end Go.Proofs.Ytjpmfomabofjpaa
