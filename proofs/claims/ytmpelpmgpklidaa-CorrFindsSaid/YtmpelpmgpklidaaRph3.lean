/- What kedgeref07's Points answers. -/
import Derived.Test.YtmpelpmgpklidaaRph2
import Derived.Deep.RegionWith
namespace Go.Proofs.Ytmpelpmgpklidaa
open Go.RowKit

theorem twos_all (c : UInt8) : (List.range 4).map (twoB c) = [twoB c 0, twoB c 1, twoB c 2, twoB c 3] := rfl
theorem twos_succ (c : UInt8) (j : Nat) : (List.range (j + 1)).map (twoB c) = (List.range j).map (twoB c) ++ [twoB c j] := by rw [List.range_succ, List.map_append]; rfl
/-- the points so far -/
def wP (s : List Nat) : List Pt := (1, 1) :: walkP (1, 1) s
theorem wP_snoc (s : List Nat) (k : Nat) : wP (s ++ [k]) = wP s ++ [rotN k (endP (1, 1) s)] := by unfold wP; rw [walkP_snoc]; rfl
theorem wP_len (s : List Nat) : (wP s).length = s.length + 1 := by unfold wP; rw [List.length_cons, walkP_len]
theorem endP_unit (s : List Nat) : ∃ q, q < 4 ∧ endP (1, 1) s = unit q := by
  have key : ∀ (s : List Nat) (q : Nat), ∃ q', endP (unit q) s = unit (q' % 4) := by
    intro s
    induction s with
    | nil => intro q; exact ⟨q, by rw [show endP (unit q) [] = unit q from rfl]; unfold unit; exact rotN_mod _ _⟩
    | cons k r ih =>
      intro q
      have : endP (unit q) (k :: r) = endP (rotN k (unit q)) r := rfl
      rw [this, unit_rot]
      exact ih _
  obtain ⟨q', h⟩ := key s 0
  exact ⟨q' % 4, by omega, h⟩
theorem unit_parts (q : Nat) (h : q < 4) : ((unit q).1 = 1 ∨ (unit q).1 = -1) ∧ ((unit q).2 = 1 ∨ (unit q).2 = -1) := by
  match q, h with
  | 0, _ => decide +kernel
  | 1, _ => decide +kernel
  | 2, _ => decide +kernel
  | 3, _ => decide +kernel
theorem endP_tame (s : List Nat) : -4611686018427387904 ≤ (endP (1, 1) s).1 ∧ (endP (1, 1) s).1 ≤ 4611686018427387904 ∧ -4611686018427387904 ≤ (endP (1, 1) s).2 ∧ (endP (1, 1) s).2 ≤ 4611686018427387904 := by
  obtain ⟨q, h1, h2⟩ := endP_unit s
  rw [h2]
  have := unit_parts q h1
  omega
theorem twoB_lt (c : UInt8) (k : Nat) : twoB c k < 4 := by unfold twoB; omega

theorem OwnP.set {w : World} {B : Nat} {v : Value} {l : List Pt} (h : OwnP w B v l) (g k : Nat) (u : Value) (hg : g < B) : OwnP (w.setCell ⟨g, k, none⟩ u) B v l := by
  refine ⟨h.1, ?_⟩
  rcases h.2 with h2 | ⟨g', cap, cur, hv, hb, hh, r⟩
  · exact .inl h2
  · exact .inr ⟨g', cap, cur, hv, hb, (heap_setCell_other w ⟨g, k, none⟩ g' u (by show g' ≠ g; omega)).trans hh, r⟩
end Go.Proofs.Ytmpelpmgpklidaa
