/- What kedgeref03.Put answers. -/
import Derived.Test.YtjpmfomabofjpaaStuffM
namespace Go.Proofs.Ytjpmfomabofjpaa
open Go.RowKit

set_option maxRecDepth 20000 in
set_option maxHeartbeats 2000000 in
theorem rstput_any (A : Option Addr) (n c : Nat) (l : List UInt8) (w : World) (h : Bys w A n c l) (hn : (stuffB l).length ≤ 140737488355328) :
    Calls Try.prog 33 #[.slice A n c] w (GivesB w (stuffB l)) := by
  have hn1 : n ≤ 140737488355328 := by have := (stuffB_len l).1; have := h.len; omega
  obtain ⟨hl, hnc, hcm, hcell⟩ := h
  unfold maxLen at hcm
  subst hl
  have HC := Lib.hid hcell; clear hcell
  have HN := Lib.hid hn; clear hn
  go_enter Try.func33, Try.ntmps33
  go_wp2
  go_loopw [3, 4] (fun v i wr => ∃ k : Nat, k ≤ l.length ∧ i = .int .i64 k ∧ ∃ m, (stuffB (l.take k)).length = m ∧ wr.ownsRow w.heap.size 5 1 v m (bvs (stuffB (l.take k))) ∧ Below w.heap.size w wr) (fun _ i _ => l.length - (intOf i).toNat)
  case atStart => exact ⟨0, Nat.zero_le _, rfl, 0, by simp [stuffB], World.ownsRow_nil _ _ _ _, Below.refl _ _⟩
  case round =>
    obtain ⟨k, hk, rfl, m, hm, hown2, hbel⟩ := hrel
    by_cases hlt : k < l.length
    · obtain ⟨b, o, rfl, hb, hc⟩ := HC.out (by omega)
      have c1 := (hbel.cell (p := ⟨b, o + k, none⟩) hb).trans (hc k hlt)
      clear hc
      have HT := stuffB_take l k hlt
      have HP := stuffB_part l k hlt
      have hn := HN.out
      rw [hm] at HP
      generalize l[k] = x at *
      by_cases h1 : x = 0x7e ∨ x = 0x7d
      · rw [stuff1_yes x h1] at HT HP
        simp only [List.length_cons, List.length_nil] at HP
        have hmn : m + 2 ≤ 140737488355328 := by omega
        have ht := u8_turn x
        have hxl := lt256 (x ^^^ 0x20)
        generalize x ^^^ 0x20 = y at *
        have HM : Hid ((stuffB (l.take (k + 1))).length = m + 2) := by rw [HT]; simp [Hid, hm]
        have HT := Lib.hid HT
        clear hm hn HP
        have hnew : Hid (∀ W : World, Bys (W.alloc (.cells #[.int .u8 125, .int .u8 (y.toNat : Int)] 5)) (some ⟨W.heap.size, 0, none⟩) 2 2 [0x7d, y]) := fun W => Bys.lit W [0x7d, y] (by simp)
        rcases h1 with h1 | h1
        all_goals
          first
            | (have e1 : ((x.toNat : Int) == 126) = true := by subst h1; rfl)
            | (have e1 : ((x.toNat : Int) == 126) = false := by subst h1; rfl
               have e2 : ((x.toNat : Int) == 125) = true := by subst h1; rfl)
          clear h1
          go_wp2_with ((with_reducible refine app_bys _ rfl (.tmp 23) (.tmp 29) rfl w.heap.size u3 m (bvs (stuffB (l.take k))) rfl ?_ (some ⟨wr.heap.size, 0, none⟩) 2 2 [0x7d, y] rfl ?_ ?_ ?_ ?_); (exact hown2.alloc _); (exact hnew.out wr); (omega); (have := hbel.size; simp; omega); intro v2 w2 hown3 hgrow2 hwhere2)
          go_roundw
          case rel =>
            rw [← bvs_append, ← HT.out] at hown3
            exact ⟨k + 1, by omega, by go_num, m + 2, HM.out, hown3, (hbel.alloc hbel.size _).grown hgrow2 (by have := hbel.size; simp; omega) (fun g hg => (hown2.lt g hg).1)⟩
          case measure => simp [intOf]; omega
      · have h2 : x ≠ 0x7e := fun e => h1 (.inl e)
        have h3 : x ≠ 0x7d := fun e => h1 (.inr e)
        rw [stuff1_no x h2 h3] at HT HP
        simp only [List.length_cons, List.length_nil] at HP
        have hmn : m + 1 ≤ 140737488355328 := by omega
        have e1 : ((x.toNat : Int) == 126) = false := u8_ne (b := 0x7e) h2
        have e2 : ((x.toNat : Int) == 125) = false := u8_ne (b := 0x7d) h3
        have HM : Hid ((stuffB (l.take (k + 1))).length = m + 1) := by rw [HT]; simp [Hid, hm]
        have HT := Lib.hid HT
        clear hm h1 h2 h3 hn HP
        have hxl := lt256 x
        have hnew : Hid (∀ W : World, Bys (W.alloc (.cells #[.int .u8 (x.toNat : Int)] 5)) (some ⟨W.heap.size, 0, none⟩) 1 1 [x]) := fun W => Bys.lit W [x] (by simp)
        go_wp2_with ((with_reducible refine app_bys _ rfl (.tmp 31) (.tmp 36) rfl w.heap.size u3 m (bvs (stuffB (l.take k))) rfl ?_ (some ⟨wr.heap.size, 0, none⟩) 1 1 [x] rfl ?_ ?_ ?_ ?_); (exact hown2.alloc _); (exact hnew.out wr); (omega); (have := hbel.size; simp; omega); intro v2 w2 hown3 hgrow2 hwhere2)
        go_roundw
        case rel =>
          rw [← bvs_append, ← HT.out] at hown3
          exact ⟨k + 1, by omega, by go_num, m + 1, HM.out, hown3, (hbel.alloc hbel.size _).grown hgrow2 (by have := hbel.size; simp; omega) (fun g hg => (hown2.lt g hg).1)⟩
        case measure => simp [intOf]; omega
    · go_wp2
      go_ret
      obtain rfl : k = l.length := by omega
      rw [List.take_length] at hown2
      obtain ⟨A1, c1, rfl⟩ := own_shape hown2
      exact ⟨_, _, _, rfl, Bys.of_own hown2, hbel⟩
end Go.Proofs.Ytjpmfomabofjpaa
