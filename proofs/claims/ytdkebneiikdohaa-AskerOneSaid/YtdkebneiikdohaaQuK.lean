/- Package queue, as landed: All, and all of its contracts. -/
import Derived.Test.YtdkebneiikdohaaQuK4
namespace Go.Proofs.Ytdkebneiikdohaa
open Go.RowKit
set_option maxRecDepth 20000

/-- the list that All makes: its place b, so many cells, of them the first ones filled -/
def QuA (w0 w : World) (b n : Nat) (ms : List (List UInt8)) : Prop :=
  ∃ vs : List Value, w.ownsRow w0.heap.size 39 1 (.slice (some ⟨b, 0, none⟩) n n) n vs ∧ vs.length = n ∧ ∀ j (h : j < ms.length), ∃ A d, vs[j]? = some (.slice A ms[j].length d) ∧ Fre w (fun k => k < w0.heap.size ∨ k = b) A ms[j].length d ms[j]
theorem QuA.below {w0 w w' : World} {b n : Nat} {ms : List (List UInt8)} (h : QuA w0 w b n ms) (T : Below w.heap.size w w') : QuA w0 w' b n ms := by
  obtain ⟨vs, h1, h2, h3⟩ := h
  refine ⟨vs, own_block_off (X := fun _ => False) h1 (Off.of_below T) (fun _ _ h => h), h2, fun j hj => ?_⟩
  obtain ⟨A, d, k1, k2⟩ := h3 j hj
  exact ⟨A, d, k1, k2.below T⟩
theorem QuA.cell {w0 w : World} {b n : Nat} {ms : List (List UInt8)} (h : QuA w0 w b n ms) (j : Nat) (hj : j < n) : (∃ u, w.cell? ⟨b, j, none⟩ = some u) ∧ w.frozen? ⟨b, j, none⟩ = false := by
  obtain ⟨vs, h1, h2, _⟩ := h
  exact ⟨⟨vs[j], (World.ownsRow.cellAt h1 j (by omega)).trans (List.getElem?_eq_getElem (by omega))⟩, World.ownsRow.frozenAt h1 j⟩
theorem QuA.stored {w0 w : World} {b n : Nat} {ms : List (List UInt8)} (h : QuA w0 w b n ms) (hn : ms.length < n) {A : Option Addr} {d : Nat} {x : List UInt8} (hF : Fre w (fun k => k < w0.heap.size ∨ k = b) A x.length d x) :
    QuA w0 (w.setCell ⟨b, ms.length, none⟩ (.slice A x.length d)) b n (ms ++ [x]) := by
  obtain ⟨vs, h1, h2, h3⟩ := h
  have O : Off (· = b) w (w.setCell ⟨b, ms.length, none⟩ (.slice A x.length d)) := (Off.refl (· = b) w).one _ _
  refine ⟨vs.set ms.length (.slice A x.length d), (World.ownsRow.stored h1 ms.length (.slice A x.length d)).1, by simpa using h2, fun j hj => ?_⟩
  by_cases h : j < ms.length
  · have e : (ms ++ [x])[j] = ms[j] := List.getElem_append_left h
    rw [e]
    obtain ⟨A', d', k1, k2⟩ := h3 j h
    exact ⟨A', d', by rw [List.getElem?_set_ne (by omega)]; exact k1, k2.off O (fun k hk => .inr hk)⟩
  · obtain rfl : j = ms.length := by simp at hj; omega
    have e : (ms ++ [x])[ms.length] = x := by simp
    rw [e]
    exact ⟨A, d, List.getElem?_set_self (by omega), hF.off O (fun k hk => .inr hk)⟩
theorem QuA.fre {w0 w : World} {b n : Nat} {ms : List (List UInt8)} (h : QuA w0 w b n ms) (hl : ms.length = n) (hb : w0.heap.size ≤ b) (hw : b < w.heap.size) : RFre w (· < w0.heap.size) (some ⟨b, 0, none⟩) n n ms := by
  obtain ⟨vs, h1, h2, h3⟩ := h
  have hm : n ≤ maxLen := by
    rcases h1.2 with ⟨hv, hn⟩ | ⟨g, cap, cur, hv, hg, hh, hnc, hcm, hcs, ht⟩
    · cases hv
    · injection hv with e1 e2 e3
      omega
  refine ⟨hl, Nat.le_refl _, hm, Av.of (by show ¬ b < _; omega), fun hn => ⟨b, 0, rfl, hw, fun j hj => ?_⟩⟩
  obtain ⟨A, d, k1, k2⟩ := h3 j hj
  exact ⟨A, d, by rw [Nat.zero_add]; exact (World.ownsRow.cellAt h1 j (by omega)).trans k1, k2⟩
theorem quC : QuC QuP where
  holds := QuP.holds
  new_no := fun r w _ h => (qunew_no r w h).mono fun _ _ ⟨h1, h2⟩ => ⟨h1, h2 ▸ Below.refl _ _⟩
  new_yes := qunew_yes
  push := qupush_any
  pop := qupop_any
  front := qufront_any
  at_ := fun g room ls i w X _ hQ => quat_any g room ls i w X hQ
  len := fun g room ls w X hQ => by
    obtain ⟨_, f, _, _, _, c18, _⟩ := hQ.cells
    exact (qulen_any g ls.length w c18).mono fun _ _ ⟨h1, h2⟩ => ⟨h1, h2 ▸ Below.refl _ _⟩
  free := fun g room ls w X hQ => by
    obtain ⟨_, f, _, c0, _, c18, _⟩ := hQ.cells
    exact qufree_any g room ls.length w c0 c18 hQ.2.2.1.2.1 hQ.2.2.1.2.2.1
  npush := fun A n c m w _ => (qunpush_any A n c w).mono fun _ _ ⟨h1, h2⟩ => ⟨h1, h2 ▸ Below.refl _ _⟩
  npop := fun w => (qunpop_any w).mono fun _ _ ⟨h1, h2⟩ => ⟨h1, h2 ▸ Below.refl _ _⟩
  nfront := fun w => (qunfront_any w).mono fun _ _ ⟨h1, h2⟩ => ⟨h1, h2 ▸ Below.refl _ _⟩
  nlen := fun w => (qunlen_any w).mono fun _ _ ⟨h1, h2⟩ => ⟨h1, h2 ▸ Below.refl _ _⟩
  nfree := fun w => (qunfree_any w).mono fun _ _ ⟨h1, h2⟩ => ⟨h1, h2 ▸ Below.refl _ _⟩
end Go.Proofs.Ytdkebneiikdohaa
