/- What stuff.Get answers. -/
import Derived.Test.YtjpmfomabofjpaaStuffM
import Derived.Test.YtjpmfomabofjpaaRoom
namespace Go.Proofs.Ytjpmfomabofjpaa
open Go.RowKit

def turnedB (x : UInt8) : Bool := x == 0x5e || x == 0x5d
theorem turned_any (x : UInt8) (w : World) : Calls Try.prog 51 #[.int .u8 (x.toNat : Int)] w fun e w' => e = .returned (.bool (turnedB x)) ∧ w = w' := by
  by_cases h1 : x = 0x5e
  · have e1 : ((x.toNat : Int) == 94) = true := by subst h1; rfl
    have hr : turnedB x = true := by subst h1; rfl
    rw [hr]
    clear hr h1
    go_enter Try.func51, Try.ntmps51
    go_wp2
    go_ret
    exact ⟨rfl, rfl⟩
  · have e1 : ((x.toNat : Int) == 94) = false := u8_ne (b := 0x5e) h1
    by_cases h2 : x = 0x5d
    · have e2 : ((x.toNat : Int) == 93) = true := by subst h2; rfl
      have hr : turnedB x = true := by subst h2; rfl
      rw [hr]
      clear hr h1 h2
      go_enter Try.func51, Try.ntmps51
      go_wp2
      go_ret
      exact ⟨rfl, rfl⟩
    · have e2 : ((x.toNat : Int) == 93) = false := u8_ne (b := 0x5d) h2
      have hr : turnedB x = false := by simp [turnedB, h1, h2]
      rw [hr]
      clear hr h1 h2
      go_enter Try.func51, Try.ntmps51
      go_wp2
      go_ret
      exact ⟨rfl, rfl⟩

set_option maxRecDepth 20000 in
set_option maxHeartbeats 4000000 in
theorem stget_any (A : Option Addr) (n c : Nat) (l : List UInt8) (w : World) (h : Bys w A n c l) (hn : n ≤ 281474976710656) :
    Calls Try.prog 48 #[.slice A n c] w (GivesN w (unstE (unst l)) ((unst l).getD [])) := by
  obtain ⟨hl, hnc, hcm, hcell⟩ := h
  unfold maxLen at hcm
  subst hl
  have HC := Lib.hid hcell; clear hcell
  obtain ⟨i0, hi, hz0, hz1, hz2⟩ := info_parts Try.info5
  go_enter Try.func48, Try.ntmps48
  go_wp2_with (at_make; refine wpList_make_own _ rfl _ _ 22 rfl w.heap.size 5 i0 (.int .u8 0) 1 Try.underlying22 hi hz0 hz1 .i64 .i64 _ l.length rfl rfl (by omega) (by rw [hz2]; omega) (by unfold maxLen; omega) (Nat.le_refl _) ?_; intro w1 hown hgrow)
  go_loopw [4, 5] (fun v i wr => ∃ k : Nat, k ≤ l.length ∧ i = .int .i64 k ∧ ∃ t, Hid (Uinv l k t) ∧ v = .slice (some ⟨w.heap.size, 0, none⟩) t.length l.length ∧ wr.ownsRow w.heap.size 5 1 (.slice (some ⟨w.heap.size, 0, none⟩) t.length l.length) t.length (bvs t) ∧ Below w.heap.size w wr) (fun _ i _ => l.length - (intOf i).toNat)
  case atStart => exact ⟨0, Nat.zero_le _, rfl, [], Lib.hid (Uinv.zero l), rfl, by simpa [bvs] using hown, (Below.refl _ _).grown hgrow (Nat.le_refl _) (by simp)⟩
  case round =>
    obtain ⟨k, hk, rfl, t, HU, rfl, hown2, hbel⟩ := hrel
    have htk := HU.out.2
    by_cases hlt : k < l.length
    · obtain ⟨b, o, rfl, hb, hc⟩ := HC.out (by omega)
      have c1 := (hbel.cell (p := ⟨b, o + k, none⟩) hb).trans (hc k hlt)
      obtain ⟨x, hx⟩ : ∃ x, l[k] = x := ⟨_, rfl⟩
      rw [hx] at c1
      have HX := Lib.hid hx; clear hx
      by_cases h1 : x = 0x7e
      · have e1 : ((x.toNat : Int) == 126) = true := by subst h1; rfl
        have HN : Hid (unst l = none) := HU.out.flag hlt (HX.out.trans h1)
        clear h1 hc
        go_wp2
        go_ret2
        rw [HN.out]
        exact ⟨_, _, _, rfl, Bys.nil _, hbel⟩
      · have e1 : ((x.toNat : Int) == 126) = false := u8_ne (b := 0x7e) h1
        by_cases h2 : x = 0x7d
        · have e2 : ((x.toNat : Int) == 125) = true := by subst h2; rfl
          have HX2 : Hid (l[k] = 0x7d) := HX.out.trans h2
          clear HX h1 h2
          by_cases hlast : k + 1 = l.length
          · have HN : Hid (unst l = none) := HU.out.last hlt HX2.out hlast
            have eq1 : (((k : Int) + 1) == (l.length : Int)) = true := by simp; omega
            clear hc
            go_wp2
            go_ret2
            rw [HN.out]
            exact ⟨_, _, _, rfl, Bys.nil _, hbel⟩
          · have eq1 : (((k : Int) + 1) == (l.length : Int)) = false := by simp; omega
            have hlt2 : k + 1 < l.length := by omega
            have c2 := (hbel.cell (p := ⟨b, o + (k + 1), none⟩) hb).trans (hc (k + 1) hlt2)
            obtain ⟨y, hy⟩ : ∃ y, l[k + 1] = y := ⟨_, rfl⟩
            rw [hy] at c2
            have HY := Lib.hid hy; clear hy
            clear hc
            by_cases h3 : y = 0x5e ∨ y = 0x5d
            · have et : turnedB y = true := by rcases h3 with rfl | rfl <;> rfl
              have HU2 := Lib.hid (HU.out.esc hlt2 HX2.out (by rw [HY.out]; exact h3))
              rw [HY.out] at HU2
              clear h3 HU
              have ht := u8_turn y
              have hxl := lt256 (y ^^^ 0x20)
              generalize y ^^^ 0x20 = z at *
              have hnew : Hid (∀ W : World, Bys (W.alloc (.cells #[.int .u8 (z.toNat : Int)] 5)) (some ⟨W.heap.size, 0, none⟩) 1 1 [z]) := fun W => Bys.lit W [z] (by simp)
              go_wp2_with (first
                | (go_at_call 51; refine (turned_any _ _).mono ?_; rintro e w' ⟨rfl, rfl⟩)
                | ((with_reducible refine app_room _ rfl (.tmp 44) (.tmp 46) rfl w.heap.size w.heap.size l.length t.length (bvs t) rfl ?_ (some ⟨wr.heap.size, 0, none⟩) 1 1 [z] rfl ?_ ?_ ?_ ?_); (exact hown2.alloc _); (exact hnew.out wr); (omega); (omega); intro w2 hown3 hgrow2))
              go_roundw
              case rel =>
                rw [← bvs_append] at hown3
                exact ⟨k + 2, by omega, by go_num, t ++ [z], HU2, by simp, by simpa using hown3, (hbel.alloc hbel.size _).grown hgrow2 (by have := hbel.size; simp; omega) (by intro g hg; injection hg with hg; omega)⟩
              case measure => simp [intOf]; omega
            · have et : turnedB y = false := by simp [turnedB]; exact ⟨fun e => h3 (.inl e), fun e => h3 (.inr e)⟩
              have HN : Hid (unst l = none) := HU.out.bad hlt2 HX2.out (by rw [HY.out]; exact fun e => h3 (.inl e)) (by rw [HY.out]; exact fun e => h3 (.inr e))
              clear h3
              go_wp2_with (go_at_call 51; refine (turned_any _ _).mono ?_; rintro e w' ⟨rfl, rfl⟩)
              go_ret2
              rw [HN.out]
              exact ⟨_, _, _, rfl, Bys.nil _, hbel⟩
        · have e2 : ((x.toNat : Int) == 125) = false := u8_ne (b := 0x7d) h2
          have HU2 := Lib.hid (HU.out.plain hlt (by rw [HX.out]; exact h1) (by rw [HX.out]; exact h2))
          rw [HX.out] at HU2
          clear h1 h2 HU hc
          have hxl := lt256 x
          have hnew : Hid (∀ W : World, Bys (W.alloc (.cells #[.int .u8 (x.toNat : Int)] 5)) (some ⟨W.heap.size, 0, none⟩) 1 1 [x]) := fun W => Bys.lit W [x] (by simp)
          go_wp2_with ((with_reducible refine app_room _ rfl (.tmp 44) (.tmp 46) rfl w.heap.size w.heap.size l.length t.length (bvs t) rfl ?_ (some ⟨wr.heap.size, 0, none⟩) 1 1 [x] rfl ?_ ?_ ?_ ?_); (exact hown2.alloc _); (exact hnew.out wr); (omega); (omega); intro w2 hown3 hgrow2)
          go_roundw
          case rel =>
            rw [← bvs_append] at hown3
            exact ⟨k + 1, by omega, by go_num, t ++ [x], HU2, by simp, by simpa using hown3, (hbel.alloc hbel.size _).grown hgrow2 (by have := hbel.size; simp; omega) (by intro g hg; injection hg with hg; omega)⟩
          case measure => simp [intOf]; omega
    · obtain rfl : k = l.length := by omega
      have HN : Hid (unst l = some t) := HU.out.all
      go_wp2
      go_ret2
      rw [HN.out]
      exact ⟨_, _, _, rfl, Bys.of_own hown2, hbel⟩
end Go.Proofs.Ytjpmfomabofjpaa
