/- Package queue, as landed: Push. -/
import Derived.Test.YtoajbocpebfjoaaQuK3
namespace Go.Proofs.Ytoajbocpebfjoaa
open Go.RowKit
set_option maxRecDepth 20000

set_option maxHeartbeats 2000000 in
theorem qupush_no (g room : Nat) (ls : List (List UInt8)) (A : Option Addr) (n c : Nat) (w : World) (X : Nat → Prop) (hQ : QuP g room ls w X) (hn : quPushE room ls n ≠ 0) :
    Calls Try.prog 49 #[.pointer (some ⟨g, 0, none⟩), .slice A n c] w fun e w' => e = .returned (.int .i64 ((quPushE room ls n : Nat) : Int)) ∧ Below w.heap.size w w' := by
  obtain ⟨hgw, f, hf, c0, c17, c18, _, _, _⟩ := hQ.cells
  have hok := hQ.2.2.1
  have hr1 := hok.1
  have hl := hok.2.2.1
  have HFR := Lib.hid (qufree_any g room ls.length w c0 c18 hok.2.1 hok.2.2.1)
  have d0 : ((room : Int) == 0) = false := by simp; omega
  clear hQ hok
  unfold quPushE at *
  by_cases h1 : 64 < n
  · rw [if_pos h1]
    have d1 : decide ((64 : Int) < (n : Int)) = true := by simp; omega
    clear h1 hn
    go_enter Try.func49, Try.ntmps49
    go_wp2
    go_ret
    exact ⟨rfl, Below.refl _ _⟩
  · rw [if_neg h1] at hn ⊢
    by_cases h2 : room ≤ ls.length
    · rw [if_pos h2]
      have d1 : decide ((64 : Int) < (n : Int)) = false := by simp; omega
      have e2 : (room : Int) - (ls.length : Int) = 0 := by omega
      rw [e2] at HFR
      clear h1 hn
      go_enter Try.func49, Try.ntmps49
      go_wp2_with (fail)
      refine HFR.out.mono ?_
      rintro e w1 ⟨rfl, T1⟩
      go_wp2
      go_ret
      exact ⟨rfl, T1⟩
    · exact absurd (if_neg h2) hn
set_option maxHeartbeats 4000000 in
theorem qupush_yes (g room : Nat) (ls : List (List UInt8)) (A : Option Addr) (n c : Nat) (m : List UInt8) (w : World) (X : Nat → Prop) (hQ : QuP g room ls w X) (hB : Bys w A n c m) (h1 : n ≤ 64) (h2 : ls.length < room) :
    Calls Try.prog 49 #[.pointer (some ⟨g, 0, none⟩), .slice A n c] w fun e w' => e = .returned (.int .i64 0) ∧ ∃ X', QuP g room (ls ++ [m]) w' X' ∧ Turns X X' w w' := by
  obtain ⟨hX, hlt, hok, cs, f, hg, hS, hT⟩ := hQ
  have hgw := hlt g hX
  have hl16 : ls.length < 16 := by have := hok.2.1; omega
  have hL : m.length = n := hB.len
  have HE : Hid (∀ w1 A c, Below w.heap.size w w1 → Fre w1 (· < w.heap.size) A m.length c m → ∃ X', QuP g room (ls ++ [m]) ((w1.setCell ⟨g, 1 + rgAt f ls.length, none⟩ (.slice A m.length c)).setCell ⟨g, 18, none⟩ (.int .i64 ((ls.length : Int) + 1))) X' ∧
    Turns X X' w ((w1.setCell ⟨g, 1 + rgAt f ls.length, none⟩ (.slice A m.length c)).setCell ⟨g, 18, none⟩ (.int .i64 ((ls.length : Int) + 1)))) := fun w1 A c T hF => QuP.pushed hX hlt hok hg hS hT h2 (by omega) T hF
  obtain ⟨s0, s1, s2, s3, hf⟩ := hS
  have hr1 := hok.1
  have c0 : w.cell? ⟨g, 0, none⟩ = some (.int .i64 (room : Int)) := (cell_of_row _ _ _ _ _ _ hg).trans s1
  have HFR := Lib.hid (qufree_any g room ls.length w c0 ((cell_of_row _ _ _ _ _ _ hg).trans s3) hok.2.1 hok.2.2.1)
  have hr := rgAt_lt f ls.length
  have HC : Hid (∀ W, Below w.heap.size w W → W.cell? ⟨g, 18, none⟩ = some (.int .i64 (ls.length : Int)) ∧ (∃ u, W.cell? ⟨g, 1 + rgAt f ls.length, none⟩ = some u) ∧ ∀ r, W.frozen? ⟨g, r, none⟩ = false) := fun W T => by
    have h1 := (T.block g hgw).trans hg
    exact ⟨(cell_of_row _ _ _ _ _ _ h1).trans s3, ⟨cs[1 + rgAt f ls.length], (cell_of_row _ _ _ _ _ _ h1).trans (Array.getElem?_eq_getElem (by omega))⟩, fun r => frozen_of_row _ _ _ _ _ h1⟩
  have HP : Hid (∀ W, Below w.heap.size w W → Calls Try.prog 46 #[.pointer (some ⟨g, 0, none⟩), .int .i64 (ls.length : Int)] W fun e w' => e = .returned (.int .i64 ((rgAt f ls.length : Nat) : Int)) ∧ W = w') := fun W T => quplace_any g f _ W hf hl16 ((T.cell (p := ⟨g, 17, none⟩) hgw).trans ((cell_of_row _ _ _ _ _ _ hg).trans s2))
  have HCL : Hid (∀ W, Below w.heap.size w W → Calls Try.prog 50 #[.slice A n c] W (GivesW W m)) := fun W T => quclone_any A n c m W (hB.below T) (by omega)
  have d0 : ((room : Int) == 0) = false := by simp; omega
  have d1 : decide ((64 : Int) < (n : Int)) = false := by simp; omega
  have d2 : (((room : Int) - (ls.length : Int)) == 0) = false := by simp; omega
  rw [hL] at HE
  clear hok hT hg s0 s1 s2 s3 hlt hB
  generalize rgAt f ls.length = r at *
  generalize ls.length = ln at *
  have b0 : (0 : Int) ≤ (r : Int) := by omega
  have b1 : (r : Int) < 16 := by omega
  have b2 : (r : Int) < ((16 : Nat) : Int) := by omega
  go_enter Try.func49, Try.ntmps49
  go_wp2_with (fail)
  refine HFR.out.mono ?_
  rintro e w1 ⟨rfl, T1⟩
  have P0 := T1.drew
  have c18 := (HC.out _ T1).1
  go_wp2_with (fail)
  go_region_law
    (first
      | (go_simp; go_at_call 46; (with_reducible refine (HP.out _ (by first | exact T1 | exact P0)).mono ?_); rintro e w2 ⟨rfl, rfl⟩)
      | (go_simp; go_at_call 50; (with_reducible refine (HCL.out _ (by first | exact T1 | exact P0)).mono ?_); rintro e w2 ⟨v1, rfl, hw1, U1⟩; obtain ⟨A1, cA, rfl⟩ := own_shape hw1; rw [hL] at hw1; have HF := Lib.hid (Fre.of_own hw1); have U2 : Below w.heap.size w w2 := (by first | exact nxt T1 U1 | exact nxt P0 U1); obtain ⟨c18', ⟨u, cu⟩, fr⟩ := HC.out _ U2; clear hw1 U1))
  all_goals
    have hs1 : w.heap.size ≤ w1.heap.size := T1.size
    have HEE := Lib.hid (HE.out w2 A1 cA U2 (HF.out.imp (fun k hk => Nat.lt_of_lt_of_le hk hs1)))
    have n18 : ¬ (1 + r = 18) := by omega
    have e18 : (w2.setCell ⟨g, 1 + r, none⟩ (.slice A1 n cA)).cell? ⟨g, 18, none⟩ = some (.int .i64 (ln : Int)) := (World.cell?_setCell_other _ _ _ _ (fun e => by injection e with _ e; omega)).trans c18'
    clear c18' cu HE HF
    go_wp2
    go_ret
    exact ⟨rfl, HEE.out⟩
theorem qupush_any (g room : Nat) (ls : List (List UInt8)) (A : Option Addr) (n c : Nat) (m : List UInt8) (w : World) (X : Nat → Prop) (hQ : QuP g room ls w X) (hB : Bys w A n c m) :
    Calls Try.prog 49 #[.pointer (some ⟨g, 0, none⟩), .slice A n c] w fun e w' => e = .returned (.int .i64 ((quPushE room ls n : Nat) : Int)) ∧ ∃ X', QuP g room (quPush room ls m) w' X' ∧ Turns X X' w w' := by
  have hl := hB.len
  by_cases h : quPushE room ls n = 0
  · have h1 : n ≤ 64 := by
      unfold quPushE at h
      by_cases h1 : 64 < n
      · rw [if_pos h1] at h; cases h
      · omega
    have h2 : ls.length < room := by
      unfold quPushE at h
      rw [if_neg (by omega)] at h
      by_cases h2 : room ≤ ls.length
      · rw [if_pos h2] at h; cases h
      · omega
    have e : quPush room ls m = ls ++ [m] := by unfold quPush; rw [hl, if_pos h]
    rw [e, h]
    exact qupush_yes g room ls A n c m w X hQ hB h1 h2
  · have e : quPush room ls m = ls := by unfold quPush; rw [hl, if_neg h]
    rw [e]
    exact (qupush_no g room ls A n c w X hQ h).mono fun _ _ ⟨h1, h2⟩ => ⟨h1, X, (QuP.holds g room ls).below hQ h2, Turns.of_below h2⟩
end Go.Proofs.Ytoajbocpebfjoaa
