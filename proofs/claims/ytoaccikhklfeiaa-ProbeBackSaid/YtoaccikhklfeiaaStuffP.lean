/- What stuff.Size and stuff.Put answer. -/
import Derived.Test.YtoaccikhklfeiaaStuffM
import Derived.Test.YtoaccikhklfeiaaRoom
namespace Go.Proofs.Ytoaccikhklfeiaa
open Go.RowKit

set_option maxRecDepth 20000 in
set_option maxHeartbeats 1000000 in
theorem stsize_any (A : Option Addr) (n c : Nat) (l : List UInt8) (w : World) (h : Bys w A n c l) (hn : n ≤ 140737488355328) :
    Calls Try.prog 29 #[.slice A n c] w fun e w' => e = .returned (.int .i64 ((stuffB l).length : Int)) ∧ w = w' := by
  obtain ⟨hl, hnc, hcm, hcell⟩ := h
  unfold maxLen at hcm
  subst hl
  have HC := Lib.hid hcell; clear hcell
  go_enter Try.func29, Try.ntmps29
  go_wp2
  go_loopw [3, 10] (fun v i wr => ∃ k : Nat, k ≤ l.length ∧ i = .int .i64 k ∧ ∃ m : Nat, v = .int .i64 m ∧ m + k = l.length + (stuffB (l.take k)).length ∧ wr = w) (fun _ i _ => l.length - (intOf i).toNat)
  case atStart => exact ⟨0, Nat.zero_le _, rfl, l.length, rfl, by simp [stuffB], rfl⟩
  case round =>
    obtain ⟨k, hk, rfl, m, rfl, hm, rfl⟩ := hrel
    have hle := (stuffB_len (l.take k)).2
    have hm2 : m ≤ 281474976710656 := by simp at hle; omega
    clear hle
    by_cases hlt : k < l.length
    · obtain ⟨b, o, rfl, hb, hc⟩ := HC.out (by omega)
      have c1 := hc k hlt
      clear hc
      have HT := stuffB_take l k hlt
      generalize l[k] = x at *
      by_cases h1 : x = 0x7e
      · have e1 : ((x.toNat : Int) == 126) = true := by subst h1; rfl
        have HM : Hid (m + 1 + (k + 1) = l.length + (stuffB (l.take (k + 1))).length) := by
          rw [HT, stuff1_yes x (.inl h1), List.length_append]; simp [Hid]; omega
        clear HT hm h1
        go_wp2
        go_roundw
        case rel => exact ⟨k + 1, by omega, by go_num, m + 1, by go_num, HM.out, trivial⟩
        case measure => simp [intOf]; omega
      · have e1 : ((x.toNat : Int) == 126) = false := u8_ne (b := 0x7e) h1
        by_cases h2 : x = 0x7d
        · have e2 : ((x.toNat : Int) == 125) = true := by subst h2; rfl
          have HM : Hid (m + 1 + (k + 1) = l.length + (stuffB (l.take (k + 1))).length) := by
            rw [HT, stuff1_yes x (.inr h2), List.length_append]; simp [Hid]; omega
          clear HT hm h1 h2
          go_wp2
          go_roundw
          case rel => exact ⟨k + 1, by omega, by go_num, m + 1, by go_num, HM.out, trivial⟩
          case measure => simp [intOf]; omega
        · have e2 : ((x.toNat : Int) == 125) = false := u8_ne (b := 0x7d) h2
          have HM : Hid (m + (k + 1) = l.length + (stuffB (l.take (k + 1))).length) := by
            rw [HT, stuff1_no x h1 h2, List.length_append]; simp [Hid]; omega
          clear HT hm h1 h2
          go_wp2
          go_roundw
          case rel => exact ⟨k + 1, by omega, by go_num, m, rfl, HM.out, trivial⟩
          case measure => simp [intOf]; omega
    · obtain rfl : k = l.length := by omega
      rw [List.take_length] at hm
      obtain rfl : m = (stuffB l).length := by omega
      clear hm
      go_wp2
      go_ret
      exact ⟨rfl, rfl⟩

set_option maxRecDepth 20000 in
set_option maxHeartbeats 2000000 in
theorem stput_any (A : Option Addr) (n c : Nat) (l : List UInt8) (w : World) (h : Bys w A n c l) (hn1 : n ≤ 140737488355328) (hn : (stuffB l).length ≤ 281474976710656) :
    Calls Try.prog 25 #[.slice A n c] w (GivesB w (stuffB l)) := by
  have HS := Lib.hid (stsize_any A n c l w h hn1)
  obtain ⟨hl, hnc, hcm, hcell⟩ := h
  unfold maxLen at hcm
  subst hl
  have HC := Lib.hid hcell; clear hcell
  obtain ⟨N, hN⟩ : ∃ N, (stuffB l).length = N := ⟨_, rfl⟩
  rw [hN] at HS hn
  have HN := Lib.hid hN; clear hN
  obtain ⟨i0, hi, hz0, hz1, hz2⟩ := info_parts Try.info5
  go_enter Try.func25, Try.ntmps25
  go_wp2_with (fail)
  refine HS.out.mono ?_
  rintro e w0 ⟨rfl, rfl⟩
  go_wp2_with (at_make; refine wpList_make_own _ rfl _ _ 22 rfl w.heap.size 5 i0 (.int .u8 0) 1 Try.underlying22 hi hz0 hz1 .i64 .i64 _ N rfl rfl (by omega) (by rw [hz2]; omega) (by unfold maxLen; omega) (Nat.le_refl _) ?_; intro w1 hown hgrow)
  go_loopw [3, 11] (fun v i wr => ∃ k : Nat, k ≤ l.length ∧ i = .int .i64 k ∧ ∃ m, (stuffB (l.take k)).length = m ∧ v = .slice (some ⟨w.heap.size, 0, none⟩) m N ∧ wr.ownsRow w.heap.size 5 1 (.slice (some ⟨w.heap.size, 0, none⟩) m N) m (bvs (stuffB (l.take k))) ∧ Below w.heap.size w wr) (fun _ i _ => l.length - (intOf i).toNat)
  case atStart => exact ⟨0, Nat.zero_le _, rfl, 0, by simp [stuffB], rfl, by simpa [stuffB, bvs] using hown, (Below.refl _ _).grown hgrow (Nat.le_refl _) (by simp)⟩
  case round =>
    obtain ⟨k, hk, rfl, m, hm, rfl, hown2, hbel⟩ := hrel
    by_cases hlt : k < l.length
    · obtain ⟨b, o, rfl, hb, hc⟩ := HC.out (by omega)
      have c1 := (hbel.cell (p := ⟨b, o + k, none⟩) hb).trans (hc k hlt)
      clear hc
      have HT := stuffB_take l k hlt
      have HP := stuffB_part l k hlt
      rw [HN.out, hm] at HP
      generalize l[k] = x at *
      by_cases h1 : x = 0x7e ∨ x = 0x7d
      · rw [stuff1_yes x h1] at HT HP
        simp only [List.length_cons, List.length_nil] at HP
        have ht := u8_turn x
        have hxl := lt256 (x ^^^ 0x20)
        generalize x ^^^ 0x20 = y at *
        have HM : Hid ((stuffB (l.take (k + 1))).length = m + 2) := by rw [HT]; simp [Hid, hm]
        have HT := Lib.hid HT
        clear hm
        have hesc : Hid (∀ W : World, Bys (W.alloc (.cells #[.int .u8 125] 5)) (some ⟨W.heap.size, 0, none⟩) 1 1 [0x7d]) := fun W => Bys.lit W [0x7d] (by simp)
        have hnew : Hid (∀ W : World, Bys (W.alloc (.cells #[.int .u8 (y.toNat : Int)] 5)) (some ⟨W.heap.size, 0, none⟩) 1 1 [y]) := fun W => Bys.lit W [y] (by simp)
        rcases h1 with h1 | h1
        all_goals
          first
            | (have e1 : ((x.toNat : Int) == 126) = true := by subst h1; rfl)
            | (have e1 : ((x.toNat : Int) == 126) = false := by subst h1; rfl
               have e2 : ((x.toNat : Int) == 125) = true := by subst h1; rfl)
          clear h1
          go_wp2_with (first
            | ((with_reducible refine app_room _ rfl (.tmp 19) (.tmp 20) rfl w.heap.size w.heap.size N m (bvs (stuffB (l.take k))) rfl ?_ (some ⟨wr.heap.size, 0, none⟩) 1 1 [0x7d] rfl ?_ ?_ ?_ ?_); (exact hown2.alloc _); (exact hesc.out wr); (omega); (omega); intro w1 hown1 hgrow1)
            | ((with_reducible refine app_room _ rfl (.tmp 24) (.tmp 26) rfl w.heap.size w.heap.size N (m + 1) (bvs (stuffB (l.take k)) ++ bvs [0x7d]) rfl ?_ (some ⟨w1.heap.size, 0, none⟩) 1 1 [y] rfl ?_ ?_ ?_ ?_); (exact hown1.alloc _); (exact hnew.out w1); (omega); (omega); intro w2 hown3 hgrow2))
          go_roundw
          case rel =>
            have e : bvs (stuffB (l.take k)) ++ bvs [0x7d] ++ bvs [y] = bvs (stuffB (l.take (k + 1))) := by rw [HT.out, ← bvs_append, ← bvs_append]; simp
            rw [e] at hown3
            have hs1 := hgrow1.size
            have hs2 := hbel.size
            simp at hs1
            have b1 : Below w.heap.size w w1 := (hbel.alloc hbel.size _).grown hgrow1 (by simp; omega) (by intro g hg; injection hg with hg; omega)
            have b2 : Below w.heap.size w w2 := (b1.alloc b1.size _).grown hgrow2 (by have := b1.size; simp; omega) (by intro g hg; injection hg with hg; omega)
            exact ⟨k + 1, by omega, by go_num, m + 2, HM.out, rfl, hown3, b2⟩
          case measure => simp [intOf]; omega
      · have h2 : x ≠ 0x7e := fun e => h1 (.inl e)
        have h3 : x ≠ 0x7d := fun e => h1 (.inr e)
        rw [stuff1_no x h2 h3] at HT HP
        simp only [List.length_cons, List.length_nil] at HP
        have e1 : ((x.toNat : Int) == 126) = false := u8_ne (b := 0x7e) h2
        have e2 : ((x.toNat : Int) == 125) = false := u8_ne (b := 0x7d) h3
        have HM : Hid ((stuffB (l.take (k + 1))).length = m + 1) := by rw [HT]; simp [Hid, hm]
        have HT := Lib.hid HT
        clear hm h1 h2 h3
        have hxl := lt256 x
        have hnew : Hid (∀ W : World, Bys (W.alloc (.cells #[.int .u8 (x.toNat : Int)] 5)) (some ⟨W.heap.size, 0, none⟩) 1 1 [x]) := fun W => Bys.lit W [x] (by simp)
        go_wp2_with ((with_reducible refine app_room _ rfl (.tmp 24) (.tmp 26) rfl w.heap.size w.heap.size N m (bvs (stuffB (l.take k))) rfl ?_ (some ⟨wr.heap.size, 0, none⟩) 1 1 [x] rfl ?_ ?_ ?_ ?_); (exact hown2.alloc _); (exact hnew.out wr); (omega); (omega); intro w2 hown3 hgrow2)
        go_roundw
        case rel =>
          rw [← bvs_append, ← HT.out] at hown3
          exact ⟨k + 1, by omega, by go_num, m + 1, HM.out, rfl, hown3, (hbel.alloc hbel.size _).grown hgrow2 (by have := hbel.size; simp; omega) (by intro g hg; injection hg with hg; omega)⟩
        case measure => simp [intOf]; omega
    · go_wp2
      go_ret
      obtain rfl : k = l.length := by omega
      rw [List.take_length] at hown2
      exact ⟨_, _, _, rfl, Bys.of_own hown2, hbel⟩
end Go.Proofs.Ytoaccikhklfeiaa
