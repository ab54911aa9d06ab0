/- Package queue, as landed: At, Front. -/
import Derived.Test.YtoajbocpebfjoaaQuK1
namespace Go.Proofs.Ytoajbocpebfjoaa
open Go.RowKit
set_option maxRecDepth 20000

set_option maxHeartbeats 4000000 in
theorem quat_any (g room : Nat) (ls : List (List UInt8)) (i : Int) (w : World) (X : Nat → Prop) (hQ : QuP g room ls w X) :
    Calls Try.prog 48 #[.pointer (some ⟨g, 0, none⟩), .int .i64 i] w fun e w' => ∃ A n c, e = .returned (.tuple #[.slice A n c, .bool (decide (0 ≤ i ∧ i < ls.length))]) ∧ Fre w' (· < w.heap.size) A n c (if 0 ≤ i ∧ i < ls.length then ls.getD i.toNat [] else []) ∧ Below w.heap.size w w' := by
  obtain ⟨hgw, f, hf, _, c17, c18, _, _, hcl⟩ := hQ.cells
  have hall := hQ.2.2.1.2.2.2
  have h16 : ls.length ≤ 16 := by have := hQ.2.2.1; unfold QOk at this; omega
  clear hQ
  have HL := Lib.hid (qulen_any g ls.length w c18)
  by_cases hi : 0 ≤ i ∧ i < ls.length
  · rw [if_pos hi, show decide (0 ≤ i ∧ i < (ls.length : Int)) = true by simpa using hi]
    obtain ⟨k, rfl⟩ := Int.eq_ofNat_of_zero_le hi.1
    have hk : k < ls.length := by omega
    obtain ⟨A, d, hc, hB⟩ := hcl k hk
    have hm := hall _ (List.getElem_mem hk)
    have HX : Hid (ls.getD k [] = ls[k]) := by show _ = _; simp [hk]
    have HC : Hid (∀ W, Below w.heap.size w W → Calls Try.prog 50 #[.slice A ls[k].length d] W (GivesW W ls[k])) := fun W T => quclone_any A _ d ls[k] W (hB.below T) (by omega)
    have HP : Hid (∀ W, Below w.heap.size w W → Calls Try.prog 46 #[.pointer (some ⟨g, 0, none⟩), .int .i64 (k : Int)] W fun e w' => e = .returned (.int .i64 ((rgAt f k : Nat) : Int)) ∧ W = w') := fun W T => quplace_any g f k W hf (by omega) ((T.cell (p := ⟨g, 17, none⟩) hgw).trans c17)
    have HK : Hid (∀ W, Below w.heap.size w W → W.cell? ⟨g, 1 + rgAt f k, none⟩ = some (.slice A ls[k].length d)) := fun W T => (T.cell (p := ⟨g, 1 + rgAt f k, none⟩) hgw).trans hc
    have hr := rgAt_lt f k
    rw [show ((k : Int)).toNat = k from rfl, HX.out]
    generalize ls[k] = x at *
    generalize rgAt f k = r at *
    obtain ⟨L, hL⟩ : ∃ L, x.length = L := ⟨_, rfl⟩
    rw [hL] at hc HC hm HK
    have d1 : decide ((k : Int) < 0) = false := by simp
    have d2 : decide ((ls.length : Int) ≤ (k : Int)) = false := by simp; omega
    have d3 : ¬ ((ls.length : Int) ≤ (k : Int)) := by omega
    have P0 := (Below.refl w.heap.size w).drew
    have b0 : (0 : Int) ≤ (r : Int) := by omega
    have b1 : (r : Int) < 16 := by omega
    have b2 : (r : Int) < ((16 : Nat) : Int) := by omega
    clear hi hB hall hcl c17 c18 HX hc
    go_enter Try.func48, Try.ntmps48
    go_wp2_with (fail)
    refine HL.out.mono ?_
    rintro e w1 ⟨rfl, rfl⟩
    go_wp2_with (fail)
    go_region_held3 (fun w' => w'.cell? ⟨g, 1 + r, none⟩ = some (.slice A L d)) (first | exact q2 | exact HK.out _ (Below.refl _ _) | exact HK.out _ P0)
      (first
        | (go_at_call 46; (with_reducible refine (HP.out _ (by first | exact Below.refl _ _ | exact P0)).mono ?_); rintro e w1 ⟨rfl, rfl⟩)
        | (go_at_call 50; (with_reducible refine (HC.out _ (by first | exact Below.refl _ _ | exact P0)).mono ?_); rintro e w2 ⟨v1, rfl, hw1, U1⟩; obtain ⟨A1, cA, rfl⟩ := own_shape hw1; rw [hL] at hw1; have HF := Lib.hid (Fre.of_own hw1); have U2 : Below w.heap.size w w2 := (by first | exact U1 | exact undrew U1); have q2 := HK.out _ U2; clear hw1 U1))
    all_goals
      go_wp2
      go_ret2
      exact ⟨_, _, _, rfl, HF.out, U2⟩
  · rw [if_neg hi, show decide (0 ≤ i ∧ i < (ls.length : Int)) = false by simpa using hi]
    clear hall hcl
    by_cases h1 : i < 0
    · have d1 : decide (i < 0) = true := by simpa using h1
      clear hi h1
      go_enter Try.func48, Try.ntmps48
      go_wp2
      go_ret2
      exact ⟨_, _, _, rfl, Fre.nil _ _, Below.refl _ _⟩
    · have d1 : decide (i < 0) = false := by simpa using h1
      have d2 : decide ((ls.length : Int) ≤ i) = true := by simp; omega
      clear hi h1
      go_enter Try.func48, Try.ntmps48
      go_wp2_with (fail)
      refine HL.out.mono ?_
      rintro e w1 ⟨rfl, rfl⟩
      go_wp2
      go_ret2
      exact ⟨_, _, _, rfl, Fre.nil _ _, Below.refl _ _⟩
set_option maxHeartbeats 1000000 in
theorem qufront_any (g room : Nat) (ls : List (List UInt8)) (w : World) (X : Nat → Prop) (hQ : QuP g room ls w X) :
    Calls Try.prog 45 #[.pointer (some ⟨g, 0, none⟩)] w fun e w' => ∃ A n c, e = .returned (.tuple #[.slice A n c, .bool (!ls.isEmpty)]) ∧ Fre w' (· < w.heap.size) A n c (ls.headD []) ∧ Below w.heap.size w w' := by
  have h := quat_any g room ls 0 w X hQ
  have e1 : decide ((0 : Int) ≤ 0 ∧ (0 : Int) < (ls.length : Int)) = !ls.isEmpty := by cases ls <;> simp
  have e2 : (if (0 : Int) ≤ 0 ∧ (0 : Int) < (ls.length : Int) then ls.getD (0 : Int).toNat [] else []) = ls.headD [] := by cases ls <;> simp
  rw [e1, e2] at h
  have H := Lib.hid h
  clear h hQ e1 e2
  go_enter Try.func45, Try.ntmps45
  go_wp2_with (fail)
  refine H.out.mono ?_
  rintro e w1 ⟨A, n, c, rfl, hF, T⟩
  go_wp2
  go_ret2
  exact ⟨_, _, _, rfl, hF, T⟩
set_option maxHeartbeats 1000000 in
theorem qunat_any (i : Int) (w : World) : Calls Try.prog 48 #[.pointer none, .int .i64 i] w fun e w' => e = .returned (.tuple #[.slice none 0 0, .bool false]) ∧ w = w' := by
  have HL := Lib.hid (qunlen_any w)
  by_cases h1 : i < 0
  · have d1 : decide (i < 0) = true := by simpa using h1
    clear h1
    go_enter Try.func48, Try.ntmps48
    go_wp2
    go_ret2
    exact ⟨rfl, rfl⟩
  · have d1 : decide (i < 0) = false := by simpa using h1
    have d2 : decide ((0 : Int) ≤ i) = true := by simp; omega
    clear h1
    go_enter Try.func48, Try.ntmps48
    go_wp2_with (fail)
    refine HL.out.mono ?_
    rintro e w1 ⟨rfl, rfl⟩
    go_wp2
    go_ret2
    exact ⟨rfl, rfl⟩
set_option maxHeartbeats 1000000 in
theorem qunfront_any (w : World) : Calls Try.prog 45 #[.pointer none] w fun e w' => e = .returned (.tuple #[.slice none 0 0, .bool false]) ∧ w = w' := by
  have H := Lib.hid (qunat_any 0 w)
  go_enter Try.func45, Try.ntmps45
  go_wp2_with (fail)
  refine H.out.mono ?_
  rintro e w1 ⟨rfl, rfl⟩
  go_wp2
  go_ret2
  exact ⟨rfl, rfl⟩
set_option maxHeartbeats 1000000 in
theorem qunpop_any (w : World) : Calls Try.prog 34 #[.pointer none] w fun e w' => e = .returned (.tuple #[.slice none 0 0, .bool false]) ∧ w = w' := by
  have H := Lib.hid (qunfront_any w)
  go_enter Try.func34, Try.ntmps34
  go_wp2_with (fail)
  refine H.out.mono ?_
  rintro e w1 ⟨rfl, rfl⟩
  go_wp2
  go_ret2
  exact ⟨rfl, rfl⟩
set_option maxHeartbeats 1000000 in
theorem qunpush_any (A : Option Addr) (n c : Nat) (w : World) : Calls Try.prog 49 #[.pointer none, .slice A n c] w fun e w' => e = .returned (.int .i64 5) ∧ w = w' := by
  go_enter Try.func49, Try.ntmps49
  go_wp2
  go_ret
  exact ⟨rfl, rfl⟩
set_option maxHeartbeats 1000000 in
theorem qunall_any (w : World) : Calls Try.prog 38 #[.pointer none] w fun e w' => ∃ P c, e = .returned (.slice P 0 c) ∧ Below w.heap.size w w' := by
  have H := Lib.hid (qunlen_any w)
  obtain ⟨i0, hi, hz0, hz1, hz2⟩ := info_parts Try.infoBs
  go_enter Try.func38, Try.ntmps38
  go_wp2_with (fail)
  refine H.out.mono ?_
  rintro e w1 ⟨rfl, rfl⟩
  go_wp2_with (at_make; refine wpList_make_full _ rfl _ _ 57 rfl w.heap.size 39 i0 (.slice none 0 0) 1 Try.underlying57 hi hz0 hz1 .i64 .i64 _ _ 0 rfl rfl rfl rfl (by rw [hz2]; omega) (by unfold maxLen; omega) (Nat.le_refl _) ?_; intro w1 hown hgrow; have HON := Lib.hid (And.intro hown hgrow); clear hown hgrow)
  have B1 : Below w.heap.size w w1 := (Below.refl _ _).grown HON.out.2 (Nat.le_refl _) (by simp)
  have HE : Hid (∃ P c, Ending.returned (.slice (some ⟨w.heap.size, 0, none⟩) 0 0) = .returned (.slice P 0 c) ∧ Below w.heap.size w w1) := ⟨_, _, rfl, B1⟩
  clear HON
  go_loopw [10] (fun i wr => i = .int .i64 0 ∧ w1 = wr) (fun _ _ => 0)
  case atStart => exact ⟨rfl, rfl⟩
  case round =>
    obtain ⟨rfl, rfl⟩ := hrel
    go_wp2
    go_ret
    exact HE.out
end Go.Proofs.Ytoajbocpebfjoaa
