/- The walks of layer 7's statements, over phase's contracts: each law answers true and leaves what was there as it was. -/
import Derived.Test.YtmpelpmgpklidaaPhL
import Derived.Test.YtmpelpmgpklidaaSame
namespace Go.Proofs.Ytmpelpmgpklidaa
open Go.RowKit

theorem mid_slice (p : Pt) : Mid (sliceP p) := by unfold Mid sliceP; simp only; refine ⟨?_, ?_, ?_, ?_⟩ <;> split <;> decide
theorem low_mid {p : Pt} (h : Low p) : Mid p := by unfold Low at h; unfold Mid; omega
theorem low_tame {l : List Pt} (h : ∀ p ∈ l, Low p) : Tame l := fun p hp => by have := h p hp; unfold Low at this; omega
theorem low_turn {l : List Pt} (k : Int) (h : ∀ p ∈ l, Low p) : ∀ p ∈ turnB l k, Low p := by
  intro p hp
  obtain ⟨x, hx, rfl⟩ := List.mem_map.1 hp
  exact rotN_small _ (h x hx)
theorem turn_turn (l : List Pt) (k n : Int) : turnB (turnB l k) n = turnB l (k + n) := by
  unfold turnB
  rw [List.map_map]
  exact List.map_congr_left fun p _ => rotK_add k n p
theorem turn_len (l : List Pt) (k : Int) : (turnB l k).length = l.length := by unfold turnB; simp
theorem wP_unit (s : List Nat) : ∀ p ∈ wP s, ∃ q, q < 4 ∧ p = unit q := by
  have key : ∀ (s : List Nat) (q : Nat), ∀ p ∈ walkP (unit q) s, ∃ q, q < 4 ∧ p = unit q := by
    intro s
    induction s with
    | nil => intro q p hp; simp [walkP] at hp
    | cons k r ih =>
      intro q p hp
      simp only [walkP, List.mem_cons] at hp
      rw [unit_rot] at hp
      rcases hp with hp | hp
      · exact ⟨_, Nat.mod_lt _ (by decide), hp⟩
      · exact ih _ p hp
  intro p hp
  unfold wP at hp
  rcases List.mem_cons.1 hp with rfl | hp
  · exact ⟨0, by decide, rfl⟩
  · exact key s 0 p hp
theorem points_mid (b : List UInt8) : ∀ p ∈ pointsB b, Mid p := by
  intro p hp
  unfold pointsB at hp
  split at hp
  · cases hp
  · obtain ⟨q, h1, rfl⟩ := wP_unit (stepsB b) p hp
    have := unit_parts q h1
    unfold Mid
    omega
theorem points_len (b : List UInt8) : (pointsB b).length ≤ 16385 := by
  unfold pointsB
  split
  · simp
  · rw [List.length_cons, walkP_len, stepsB_len]; omega
end Go.Proofs.Ytmpelpmgpklidaa
