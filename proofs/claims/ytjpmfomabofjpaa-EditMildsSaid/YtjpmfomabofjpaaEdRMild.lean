/- What kedgeref06.Mild answers. -/
import Derived.Test.YtjpmfomabofjpaaEdMild
namespace Go.Proofs.Ytjpmfomabofjpaa
open Go.RowKit

set_option maxHeartbeats 4000000 in
theorem rmild_any (A : Option Addr) (n c : Nat) (b : List UInt8) (A2 : Option Addr) (n2 c2 : Nat) (l : List Ed) (w : World) (hB : Bys w A n c b) (hE : Eds w A2 n2 c2 l) (hn : n ≤ 1000000) :
    Calls Try.prog 14 #[.slice A n c, .slice A2 n2 c2] w fun e w' => e = .returned (.bool (decide (edMild b l))) ∧ Below w.heap.size w w' := by
  have HC := Lib.hid (rplain_any A n c b w hB (by omega))
  obtain rfl := hB.len
  obtain ⟨hl, hnc, hcm, hcell⟩ := hE
  unfold maxLen at hcm
  subst hl
  have HE := Lib.hid hcell
  clear hcell hB
  go_enter Try.func14, Try.ntmps14
  go_wp2_with (fail)
  refine HC.out.mono ?_
  rintro e w1 ⟨A1, c1, rfl, hv, T1⟩
  rw [plainV_length] at hv ⊢
  have HV := Lib.hid hv
  have hle := hv.le
  have hcap := hv.cap
  clear hv HC
  go_wp2_with (fail)
  go_loopw [6, 7, 8] (fun lo hi i wr => ∃ k : Nat, k ≤ l.length ∧ i = .int .i64 k ∧ ∃ (x y : Int), lo = .int .i64 x ∧ hi = .int .i64 y ∧ edSpan b (l.take k) x y ∧ (k = 0 → x = 0 ∧ y = 0) ∧ Below w.heap.size w wr ∧ Below w1.heap.size w1 wr) (fun _ _ i _ => l.length - (intOf i).toNat)
  case atStart => exact ⟨0, Nat.zero_le _, rfl, _, _, rfl, rfl, edSpan_nil _ _ _ (by omega), fun _ => ⟨rfl, rfl⟩, T1, Below.refl _ _⟩
  case round =>
    obtain ⟨k, hk, rfl, lo, hi, rfl, rfl, hsp, hfirst, hbel, hbel1⟩ := hrel
    by_cases hlt : k < l.length
    · obtain ⟨g, o, rfl, hg, hc⟩ := HE.out (by omega)
      obtain ⟨e1, e2, e3⟩ := hc k hlt
      have e1 := (hbel.cell (p := ⟨g, o + k * 3, none⟩) hg).trans e1
      have e2 := (hbel.cell (p := ⟨g, o + k * 3 + 1, none⟩) hg).trans e2
      have e3 := (hbel.cell (p := ⟨g, o + k * 3 + 2, none⟩) hg).trans e3
      have hmem : l[k] ∈ l := List.getElem_mem hlt
      have htk := List.take_succ_eq_append_getElem hlt
      generalize l[k] = x at *
      obtain ⟨xk, xa, xb⟩ := x
      simp only at e1 e2 e3
      have HS := Lib.hid (And.intro hsp (And.intro hfirst (And.intro hmem htk)))
      clear hsp hfirst hmem htk hc
      by_cases k0 : xk = 0
      · subst k0
        by_cases a0 : 0 ≤ xa
        · obtain ⟨m, rfl⟩ : ∃ m : Nat, xa = m := ⟨xa.toNat, by omega⟩
          have d0 : decide ((m : Int) < 0) = false := by simp
          by_cases am : m < b.length
          · have d1 : decide ((b.length : Int) ≤ (m : Int)) = false := by simp; omega
            obtain ⟨g1, o1, rfl, hg1, hc1⟩ := HV.out.at_ (by omega)
            have p1 := hc1 m (by rw [plainV_length]; exact am)
            have q1 : (plainV b b.length)[m]'(by rw [plainV_length]; exact am) = .bool (plainAt b m) := by
              have := plainV_at b b.length m am
              rw [List.getElem?_eq_getElem (by rw [plainV_length]; exact am)] at this
              injection this
            rw [q1] at p1
            have p1 := (hbel1.cell (p := ⟨g1, o1 + m, none⟩) hg1).trans p1
            have hg1z : g1 < wr.heap.size := by have := hbel1.size; omega
            have hE : edFit b ⟨0, m, xb⟩ ↔ plainAt b m = true ∧ xb ≠ 0x7e ∧ xb ≠ 0x7d := by
              unfold edFit
              simp only [Int.toNat_natCast]
              constructor
              · rintro ⟨_, _, _, h1, h2, h3⟩; exact ⟨h1, h2, h3⟩
              · rintro ⟨h1, h2, h3⟩; exact ⟨trivial, by omega, by omega, h1, h2, h3⟩
            clear hc1 q1
            generalize plainAt b m = p at *
            cases p with
            | false =>
              have hno : ¬ edFit b ⟨0, m, xb⟩ := by rw [hE]; simp
              clear hE
              have HR := Lib.hid (edMild_no HS.out.2.2.1 hno)
              clear hno
              go_wp2
              go_ret
              exact ⟨ret_bool HR.out.symm, hbel.alloc hbel.size _⟩
            | true =>
              by_cases x1 : xb = 0x7e
              · have f2 : ((xb.toNat : Int) == 126) = true := by subst x1; rfl
                have hno : ¬ edFit b ⟨0, m, xb⟩ := by rw [hE]; simp [x1]
                clear hE x1
                have HR := Lib.hid (edMild_no HS.out.2.2.1 hno)
                clear hno
                go_wp2
                go_ret
                exact ⟨ret_bool HR.out.symm, hbel.alloc hbel.size _⟩
              · have f2 : ((xb.toNat : Int) == 126) = false := u8_ne (b := 0x7e) x1
                by_cases x2 : xb = 0x7d
                · have f3 : ((xb.toNat : Int) == 125) = true := by subst x2; rfl
                  have hno : ¬ edFit b ⟨0, m, xb⟩ := by rw [hE]; simp [x2]
                  clear hE x1 x2
                  have HR := Lib.hid (edMild_no HS.out.2.2.1 hno)
                  clear hno
                  go_wp2
                  go_ret
                  exact ⟨ret_bool HR.out.symm, hbel.alloc hbel.size _⟩
                · have f3 : ((xb.toNat : Int) == 125) = false := u8_ne (b := 0x7d) x2
                  have HFT : Hid (edFit b ⟨0, m, xb⟩) := hE.2 ⟨rfl, x1, x2⟩
                  clear hE x1 x2
                  by_cases h0 : k = 0
                  · have g0 : ((k : Int) == 0) = true := by simp; omega
                    have H0 := Lib.hid h0
                    clear h0
                    go_wp2
                    go_roundw
                    case rel =>
                      refine ⟨k + 1, by omega, by go_num, m, m, rfl, rfl, ?_, fun h => absurd h (by omega), hbel.alloc hbel.size _, hbel1.alloc hbel1.size _⟩
                      obtain ⟨hsp, hfirst, -, htk⟩ := HS.out
                      have h0 := H0.out
                      rw [htk]
                      have hnil : l.take k ≠ [] → k ≠ 0 := by rintro h rfl; exact h rfl
                      have hnn : k ≠ 0 → l.take k ≠ [] := fun h e => by have := congrArg List.length e; rw [List.length_take, List.length_nil] at this; omega
                      exact edSpan_snoc hsp HFT.out (by dsimp only; omega) (fun h => by have := hnil h; omega) (.inl rfl) (.inl rfl)
                    case measure => simp [intOf]; omega
                  · have g0 : ((k : Int) == 0) = false := by simp; omega
                    have H0 := Lib.hid h0
                    clear h0
                    by_cases y1 : (m : Int) < lo
                    · have z1 : decide ((m : Int) < lo) = true := by simpa using y1
                      by_cases y2 : hi < (m : Int)
                      · have z2 : decide (hi < (m : Int)) = true := by simpa using y2
                        go_wp2
                        go_roundw
                        case rel =>
                          refine ⟨k + 1, by omega, by go_num, m, m, rfl, rfl, ?_, fun h => absurd h (by omega), hbel.alloc hbel.size _, hbel1.alloc hbel1.size _⟩
                          obtain ⟨hsp, hfirst, -, htk⟩ := HS.out
                          have h0 := H0.out
                          rw [htk]
                          have hnil : l.take k ≠ [] → k ≠ 0 := by rintro h rfl; exact h rfl
                          have hnn : k ≠ 0 → l.take k ≠ [] := fun h e => by have := congrArg List.length e; rw [List.length_take, List.length_nil] at this; omega
                          exact edSpan_snoc hsp HFT.out (by dsimp only; omega) (fun h => by have := hnil h; omega) (.inl rfl) (.inl rfl)
                        case measure => simp [intOf]; omega
                      · have z2 : decide (hi < (m : Int)) = false := by simpa using y2
                        go_wp2
                        go_roundw
                        case rel =>
                          refine ⟨k + 1, by omega, by go_num, m, hi, rfl, rfl, ?_, fun h => absurd h (by omega), hbel.alloc hbel.size _, hbel1.alloc hbel1.size _⟩
                          obtain ⟨hsp, hfirst, -, htk⟩ := HS.out
                          have h0 := H0.out
                          rw [htk]
                          have hnil : l.take k ≠ [] → k ≠ 0 := by rintro h rfl; exact h rfl
                          have hnn : k ≠ 0 → l.take k ≠ [] := fun h e => by have := congrArg List.length e; rw [List.length_take, List.length_nil] at this; omega
                          exact edSpan_snoc hsp HFT.out (by dsimp only; omega) (fun h => by have := hnil h; omega) (.inl rfl) (.inr ⟨hnn (by omega), rfl⟩)
                        case measure => simp [intOf]; omega
                    · have z1 : decide ((m : Int) < lo) = false := by simpa using y1
                      by_cases y2 : hi < (m : Int)
                      · have z2 : decide (hi < (m : Int)) = true := by simpa using y2
                        go_wp2
                        go_roundw
                        case rel =>
                          refine ⟨k + 1, by omega, by go_num, lo, m, rfl, rfl, ?_, fun h => absurd h (by omega), hbel.alloc hbel.size _, hbel1.alloc hbel1.size _⟩
                          obtain ⟨hsp, hfirst, -, htk⟩ := HS.out
                          have h0 := H0.out
                          rw [htk]
                          have hnil : l.take k ≠ [] → k ≠ 0 := by rintro h rfl; exact h rfl
                          have hnn : k ≠ 0 → l.take k ≠ [] := fun h e => by have := congrArg List.length e; rw [List.length_take, List.length_nil] at this; omega
                          exact edSpan_snoc hsp HFT.out (by dsimp only; omega) (fun h => by have := hnil h; omega) (.inr ⟨hnn (by omega), rfl⟩) (.inl rfl)
                        case measure => simp [intOf]; omega
                      · have z2 : decide (hi < (m : Int)) = false := by simpa using y2
                        go_wp2
                        go_roundw
                        case rel =>
                          refine ⟨k + 1, by omega, by go_num, lo, hi, rfl, rfl, ?_, fun h => absurd h (by omega), hbel.alloc hbel.size _, hbel1.alloc hbel1.size _⟩
                          obtain ⟨hsp, hfirst, -, htk⟩ := HS.out
                          have h0 := H0.out
                          rw [htk]
                          have hnil : l.take k ≠ [] → k ≠ 0 := by rintro h rfl; exact h rfl
                          have hnn : k ≠ 0 → l.take k ≠ [] := fun h e => by have := congrArg List.length e; rw [List.length_take, List.length_nil] at this; omega
                          exact edSpan_snoc hsp HFT.out (by dsimp only; omega) (fun h => by have := hnil h; omega) (.inr ⟨hnn (by omega), rfl⟩) (.inr ⟨hnn (by omega), rfl⟩)
                        case measure => simp [intOf]; omega
          · have d1 : decide ((b.length : Int) ≤ (m : Int)) = true := by simp; omega
            have hno : ¬ edFit b ⟨0, m, xb⟩ := by rintro ⟨_, _, h1, _⟩; simp only at h1; omega
            have HR := Lib.hid (edMild_no HS.out.2.2.1 hno)
            clear hno
            go_wp2
            go_ret
            exact ⟨ret_bool HR.out.symm, hbel.alloc hbel.size _⟩
        · have d0 : decide (xa < 0) = true := by simp; omega
          have hno : ¬ edFit b ⟨0, xa, xb⟩ := by rintro ⟨_, h1, _⟩; simp only at h1; omega
          have HR := Lib.hid (edMild_no HS.out.2.2.1 hno)
          clear hno
          go_wp2
          go_ret
          exact ⟨ret_bool HR.out.symm, hbel.alloc hbel.size _⟩
      · have k1 : (xk != 0) = true := by simpa using k0
        have hno : ¬ edFit b ⟨xk, xa, xb⟩ := by rintro ⟨h1, _⟩; exact k0 h1
        have HR := Lib.hid (edMild_no HS.out.2.2.1 hno)
        clear hno
        go_wp2
        go_ret
        exact ⟨ret_bool HR.out.symm, hbel.alloc hbel.size _⟩
    · obtain rfl : k = l.length := by omega
      rw [List.take_length] at hsp
      have HS := Lib.hid (edSpan_end hsp (fun h => by have := hfirst (by rw [h]; rfl); omega))
      have HW : Hid (wrap64 (hi - lo) = hi - lo) := IntWalk.wrap64_in _ (by have := hsp.2.2; omega)
      clear hsp hfirst
      go_wp2
      go_ret
      refine ⟨ret_bool ?_, hbel⟩
      rw [HS.out, HW.out]
end Go.Proofs.Ytjpmfomabofjpaa
