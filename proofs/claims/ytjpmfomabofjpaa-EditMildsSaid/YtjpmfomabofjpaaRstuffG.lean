/- What kedgeref03.Get answers. -/
import Derived.Test.YtjpmfomabofjpaaStuffM
namespace Go.Proofs.Ytjpmfomabofjpaa
open Go.RowKit

set_option maxRecDepth 20000 in
set_option maxHeartbeats 4000000 in
theorem rstget_any (A : Option Addr) (n c : Nat) (l : List UInt8) (w : World) (h : Bys w A n c l) (hn : n ≤ 140737488355328) :
    Calls Try.prog 44 #[.slice A n c] w (GivesN w (unstE (unst l)) ((unst l).getD [])) := by
  obtain ⟨hl, hnc, hcm, hcell⟩ := h
  unfold maxLen at hcm
  subst hl
  have HC := Lib.hid hcell; clear hcell
  go_enter Try.func44, Try.ntmps44
  go_wp2
  go_loopw [4, 5] (fun v i wr => ∃ k : Nat, k ≤ l.length ∧ i = .int .i64 k ∧ ∃ t, Hid (Uinv l k t) ∧ wr.ownsRow w.heap.size 5 1 v t.length (bvs t) ∧ Below w.heap.size w wr) (fun _ i _ => l.length - (intOf i).toNat)
  case atStart => exact ⟨0, Nat.zero_le _, rfl, [], Lib.hid (Uinv.zero l), World.ownsRow_nil _ _ _ _, Below.refl _ _⟩
  case round =>
    obtain ⟨k, hk, rfl, t, HU, hown2, hbel⟩ := hrel
    have htk := HU.out.2
    by_cases hlt : k < l.length
    · obtain ⟨b, o, rfl, hb, hc⟩ := HC.out (by omega)
      have c1 := (hbel.cell (p := ⟨b, o + k, none⟩) hb).trans (hc k hlt)
      obtain ⟨x, hx⟩ : ∃ x, l[k] = x := ⟨_, rfl⟩
      rw [hx] at c1
      have HX := Lib.hid hx; clear hx
      by_cases h1 : x = 0x7e
      · have e1 : ((x.toNat : Int) == 126) = true := by subst h1; rfl
        have HN : Hid (unst l = none) := HU.out.flag hlt (HX.out.trans h1)
        clear h1 hc
        go_wp2
        go_ret2
        rw [HN.out]
        exact ⟨_, _, _, rfl, Bys.nil _, hbel⟩
      · have e1 : ((x.toNat : Int) == 126) = false := u8_ne (b := 0x7e) h1
        by_cases h2 : x = 0x7d
        · have e2 : ((x.toNat : Int) != 125) = false := by subst h2; rfl
          have HX2 : Hid (l[k] = 0x7d) := HX.out.trans h2
          clear HX h1 h2
          by_cases hlast : k + 1 = l.length
          · have HN : Hid (unst l = none) := HU.out.last hlt HX2.out hlast
            have eq1 : decide (((l.length : Int)) ≤ ((k : Int) + 1)) = true := by simp; omega
            clear hc
            go_wp2
            go_ret2
            rw [HN.out]
            exact ⟨_, _, _, rfl, Bys.nil _, hbel⟩
          · have eq1 : decide (((l.length : Int)) ≤ ((k : Int) + 1)) = false := by simp; omega
            have hlt2 : k + 1 < l.length := by omega
            have c2 := (hbel.cell (p := ⟨b, o + (k + 1), none⟩) hb).trans (hc (k + 1) hlt2)
            obtain ⟨y, hy⟩ : ∃ y, l[k + 1] = y := ⟨_, rfl⟩
            rw [hy] at c2
            have HY := Lib.hid hy; clear hy
            clear hc
            by_cases h3 : y = 0x5e ∨ y = 0x5d
            · have HU2 := Lib.hid (HU.out.esc hlt2 HX2.out (by rw [HY.out]; exact h3))
              rw [HY.out] at HU2
              have ht := u8_turn y
              have hxl := lt256 (y ^^^ 0x20)
              obtain ⟨z, hz⟩ : ∃ z, y ^^^ 0x20 = z := ⟨_, rfl⟩
              rw [hz] at ht hxl HU2
              have HZ := Lib.hid hz; clear hz
              have hnew : Hid (∀ W : World, Bys (W.alloc (.cells #[.int .u8 (z.toNat : Int)] 5)) (some ⟨W.heap.size, 0, none⟩) 1 1 [z]) := fun W => Bys.lit W [z] (by simp)
              rcases h3 with h3 | h3
              all_goals
                first
                  | (have e3 : ((y.toNat : Int) != 94) = false := by subst h3; rfl)
                  | (have e3 : ((y.toNat : Int) != 94) = true := by subst h3; rfl
                     have e4 : ((y.toNat : Int) != 93) = false := by subst h3; rfl)
                clear h3
                go_wp2_with ((with_reducible refine app_bys _ rfl (.tmp 49) (.tmp 55) rfl w.heap.size u4 t.length (bvs t) rfl ?_ (some ⟨wr.heap.size, 0, none⟩) 1 1 [z] rfl ?_ ?_ ?_ ?_); (exact hown2.alloc _); (exact hnew.out wr); (omega); (have := hbel.size; simp; omega); intro v2 w2 hown3 hgrow2 hwhere2)
                go_roundw
                case rel =>
                  rw [← bvs_append] at hown3
                  exact ⟨k + 2, by omega, by go_num, t ++ [z], HU2, by simpa using hown3, (hbel.alloc hbel.size _).grown hgrow2 (by have := hbel.size; simp; omega) (fun g hg => (hown2.lt g hg).1)⟩
                case measure => simp [intOf]; omega
            · have HN : Hid (unst l = none) := HU.out.bad hlt2 HX2.out (by rw [HY.out]; exact fun e => h3 (.inl e)) (by rw [HY.out]; exact fun e => h3 (.inr e))
              have e3 : ((y.toNat : Int) != 94) = true := by have := u8_ne (a := y) (b := 0x5e) (fun e => h3 (.inl e)); simpa [bne] using this
              have e4 : ((y.toNat : Int) != 93) = true := by have := u8_ne (a := y) (b := 0x5d) (fun e => h3 (.inr e)); simpa [bne] using this
              clear h3
              go_wp2
              go_ret2
              rw [HN.out]
              exact ⟨_, _, _, rfl, Bys.nil _, hbel⟩
        · have e2 : ((x.toNat : Int) != 125) = true := by have := u8_ne (a := x) (b := 0x7d) h2; simpa [bne] using this
          have HU2 := Lib.hid (HU.out.plain hlt (by rw [HX.out]; exact h1) (by rw [HX.out]; exact h2))
          rw [HX.out] at HU2
          clear h1 h2 HU hc
          have hxl := lt256 x
          have hnew : Hid (∀ W : World, Bys (W.alloc (.cells #[.int .u8 (x.toNat : Int)] 5)) (some ⟨W.heap.size, 0, none⟩) 1 1 [x]) := fun W => Bys.lit W [x] (by simp)
          go_wp2_with ((with_reducible refine app_bys _ rfl (.tmp 22) (.tmp 27) rfl w.heap.size u4 t.length (bvs t) rfl ?_ (some ⟨wr.heap.size, 0, none⟩) 1 1 [x] rfl ?_ ?_ ?_ ?_); (exact hown2.alloc _); (exact hnew.out wr); (omega); (have := hbel.size; simp; omega); intro v2 w2 hown3 hgrow2 hwhere2)
          go_roundw
          case rel =>
            rw [← bvs_append] at hown3
            exact ⟨k + 1, by omega, by go_num, t ++ [x], HU2, by simpa using hown3, (hbel.alloc hbel.size _).grown hgrow2 (by have := hbel.size; simp; omega) (fun g hg => (hown2.lt g hg).1)⟩
          case measure => simp [intOf]; omega
    · obtain rfl : k = l.length := by omega
      have HN : Hid (unst l = some t) := HU.out.all
      go_wp2
      go_ret2
      rw [HN.out]
      obtain ⟨A1, c1, rfl⟩ := own_shape hown2
      exact ⟨_, _, _, rfl, Bys.of_own hown2, hbel⟩
end Go.Proofs.Ytjpmfomabofjpaa
