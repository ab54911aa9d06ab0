/- Package timer, as landed: it answers as its contracts say. -/
import Derived.Test.YtdkebneiikdohaaTmK3
namespace Go.Proofs.Ytdkebneiikdohaa
open Go.RowKit Go.Maps
set_option maxRecDepth 20000

theorem GivesOZ.gives {w w' : World} {l : List Int} {e : Ending} (h : GivesOZ w l e w') : GivesZ w l e w' := by
  obtain ⟨v, rfl, hv, T⟩ := h
  obtain ⟨A, c, rfl, hz, _⟩ := hv.shape
  exact ⟨A, _, c, rfl, hz, T⟩
theorem tmtick_any (g : Nat) (most : Int) (l : List Tmr) (w : World) (X : Nat → Prop) (hT : TmP g most l w X) (hok : TmOk most l) (hl : l.length ≤ 1000) :
    Calls Try.prog 21 #[.pointer (some ⟨g, 0, none⟩)] w fun e w' => ∃ A n c X', e = .returned (.slice A n c) ∧ Zs w' A n c (tmDue l) ∧ (0 < n → ∀ p, A = some p → X p.block ∨ w.heap.size ≤ p.block) ∧ TmP g most (tmTick most l) w' X' ∧ Turns X X' w w' := by
  obtain ⟨m, hI, hX, hXm, hlt⟩ := hT
  refine (tmtick_i g m most l w hI hok hl).mono ?_
  rintro e w' ⟨v, rfl, hv, hI', O⟩
  obtain ⟨A, c, rfl, hz, hp, hb⟩ := hv.shape
  refine ⟨A, _, c, X, rfl, hz, fun hn p hp' => ?_, ⟨m, hI', hX, hXm, fun k hk => Nat.lt_of_lt_of_le (hlt k hk) O.size⟩, O.more (fun k hk => by subst hk; exact hXm), fun k hk => .inl hk⟩
  obtain ⟨b, rfl, hb1⟩ := hb hn
  injection hp' with hp'
  subst hp'
  exact .inr (hv.lt b hb1).1
set_option maxHeartbeats 1000000 in
theorem tmntick_any (w : World) : Calls Try.prog 21 #[.pointer none] w (GivesZ w []) := by
  have H1 := Lib.hid (tmnkeys_any w)
  have HN : Hid (∀ W, Zs W none 0 0 []) := fun W => ⟨rfl, Nat.le_refl _, Nat.zero_le _, fun h => absurd h (by simp)⟩
  go_enter Try.func21, Try.ntmps21
  go_wp2_with (fail)
  refine H1.out.mono ?_
  rintro e w1 ⟨v, rfl, hv, T1⟩
  obtain ⟨A, c, rfl, -⟩ := hv.shape
  simp only [List.length_nil] at hv ⊢
  clear hv H1
  go_wp2_with (fail)
  go_loopw [3, 10] (fun v i wr => v = .slice none 0 0 ∧ i = .int .i64 0 ∧ Below w.heap.size w wr) (fun _ _ _ => 0)
  case atStart => exact ⟨rfl, rfl, T1⟩
  case round =>
    obtain ⟨rfl, rfl, hbel⟩ := hrel
    go_wp2
    go_ret
    exact ⟨none, 0, 0, rfl, HN.out _, hbel⟩
theorem tmC : TmC TmP where
  holds := TmP.holds
  new_no := fun r w _ h => tmnew_no r w h
  new_yes := tmnew_yes
  set := fun g most l key w X h hok hk hl => tmset_any g most l key w X h hok hk hl
  clear := fun g most l key w X h hok hk _ => tmclear_any g most l key w X h hok hk
  tick := tmtick_any
  keys := fun g most l w X h hok hl => by
    obtain ⟨m, hI, _⟩ := h
    exact (tmkeys_any g m most l w hI hok.2.1 (by omega)).mono (fun e w' h => h.gives)
  nset := tmnset_any
  nclear := tmnclear_any
  ntick := tmntick_any
  nkeys := fun w => (tmnkeys_any w).mono (fun e w' h => h.gives)
end Go.Proofs.Ytdkebneiikdohaa
