/- What kedgeref03.Plain answers. -/
import Derived.Test.YtjpmfomabofjpaaPlainM
namespace Go.Proofs.Ytjpmfomabofjpaa
open Go.RowKit

set_option maxRecDepth 20000 in
set_option maxHeartbeats 2000000 in
theorem rplain_any (A : Option Addr) (n c : Nat) (l : List UInt8) (w : World) (h : Bys w A n c l) (hn : n ≤ 140737488355328) :
    Calls Try.prog 26 #[.slice A n c] w (GivesV w (plainV l l.length)) := by
  obtain ⟨hl, hnc, hcm, hcell⟩ := h
  unfold maxLen at hcm
  subst hl
  have HC := Lib.hid hcell; clear hcell
  obtain ⟨i0, hi, hz0, hz1, hz2⟩ := info_parts Try.infoB
  go_enter Try.func26, Try.ntmps26
  go_wp2_with (at_make; refine wpList_make_full _ rfl _ _ 41 rfl w.heap.size 4 i0 (.bool false) 1 Try.underlying41 hi hz0 hz1 .i64 .i64 _ _ l.length rfl rfl rfl rfl (by rw [hz2]; omega) (by unfold maxLen; omega) (Nat.le_refl _) ?_; intro w1 hown hgrow)
  go_loopw [4, 5] (fun v i wr => ∃ k : Nat, k ≤ l.length ∧ i = .int .i64 k ∧ ∃ tk : Bool, v = .bool tk ∧ tk = takenAt l k ∧ wr.ownsRow w.heap.size 4 1 (.slice (some ⟨w.heap.size, 0, none⟩) l.length l.length) l.length (plainV l k ++ List.replicate (l.length - k) (.bool false)) ∧ Below w.heap.size w wr) (fun _ i _ => l.length - (intOf i).toNat)
  case atStart => exact ⟨0, Nat.zero_le _, rfl, false, rfl, rfl, by simpa [toList_madeCells_one, Value.cells, plainV] using hown, (Below.refl _ _).grown hgrow (Nat.le_refl _) (by simp)⟩
  case round =>
    obtain ⟨k, hk, rfl, tk, rfl, htk, hown2, hbel⟩ := hrel
    by_cases hlt : k < l.length
    · obtain ⟨b, o, rfl, hb, hc⟩ := HC.out (by omega)
      have c1 := (hbel.cell (p := ⟨b, o + k, none⟩) hb).trans (hc k hlt)
      clear hc
      have hgx := getD_at l k hlt
      obtain ⟨x, hx⟩ : ∃ x, l[k] = x := ⟨_, rfl⟩
      rw [hx] at c1 hgx
      clear hx
      have HSK := Lib.hid (plainV_skip l k l.length hlt)
      have HST := Lib.hid (plainV_set l k l.length hlt)
      have hT1 : takenAt l (k + 1) = (!tk && x == 0x7d) := by simp only [takenAt, ← htk, hgx]
      have hP1 : plainAt l k = (!tk && x != 0x7e && x != 0x7d) := by simp only [plainAt, ← htk, hgx]
      have HT1 := Lib.hid hT1
      have HP1 := Lib.hid hP1
      clear hT1 hP1 htk hgx
      cases tk with
      | true =>
        go_wp2
        go_roundw
        case rel =>
          refine ⟨k + 1, by omega, by go_num, false, rfl, by rw [HT1.out]; rfl, ?_, hbel⟩
          rw [HSK.out (by rw [HP1.out]; rfl)] at hown2
          exact hown2
        case measure => simp [intOf]; omega
      | false =>
        have c2 : wr.cell? ⟨w.heap.size, k, none⟩ = some (.bool false) := by
          rw [hown2.cellAt _ (by omega), List.getElem?_append_right (by simp [plainV]), List.getElem?_replicate, if_pos (by simp [plainV]; omega)]
        have f1 := hown2.frozenAt k
        have hst := fun u => hown2.stored k u
        have HSR := Lib.hid hst; clear hst
        clear hown2
        by_cases h3 : x = 0x7e
        · have e1 : ((x.toNat : Int) != 126) = false := by subst h3; rfl
          have e2 : ((x.toNat : Int) == 125) = false := by subst h3; rfl
          have HT2 : Hid (takenAt l (k + 1) = false) := by rw [HT1.out, h3]; rfl
          have HP2 : Hid (plainAt l k = false) := by rw [HP1.out, h3]; rfl
          clear h3
          go_wp2
          go_roundw
          case rel =>
            refine ⟨k + 1, by omega, by go_num, false, rfl, HT2.out.symm, ?_, hbel.setCell (Nat.le_refl _) _⟩
            rw [← HST.out false HP2.out]
            exact (HSR.out _).1
          case measure => simp [intOf]; omega
        · have e1 : ((x.toNat : Int) != 126) = true := by have := u8_ne (b := 0x7e) h3; simpa [bne] using this
          obtain ⟨bx, hbx⟩ : ∃ bx, (x == 0x7d) = bx := ⟨_, rfl⟩
          have e2 : ((x.toNat : Int) == 125) = bx := by
            rw [← hbx]
            by_cases h2 : x = 0x7d
            · subst h2; rfl
            · rw [show ((x.toNat : Int) == 125) = false from u8_ne (b := 0x7d) h2]; simp [h2]
          have e3 : ((x.toNat : Int) != 125) = !bx := by rw [← e2]; rfl
          have HT2 : Hid (takenAt l (k + 1) = bx) := by rw [HT1.out, hbx]; rfl
          have HP2 : Hid (plainAt l k = !bx) := by rw [HP1.out, ← hbx]; simp [Hid, h3, bne]
          clear h3 hbx
          go_wp2
          go_roundw
          case rel =>
            refine ⟨k + 1, by omega, by go_num, bx, rfl, HT2.out.symm, ?_, hbel.setCell (Nat.le_refl _) _⟩
            rw [← HST.out (!bx) HP2.out]
            exact (HSR.out _).1
          case measure => simp [intOf]; omega
    · go_wp2
      go_ret
      obtain rfl : k = l.length := by omega
      rw [Nat.sub_self, List.replicate_zero, List.append_nil] at hown2
      have hv := Vals.of_own hown2
      refine ⟨some ⟨w.heap.size, 0, none⟩, l.length, ?_, ?_, hbel⟩
      · rw [plainV_length]; rfl
      · rw [plainV_length]; exact hv
end Go.Proofs.Ytjpmfomabofjpaa
