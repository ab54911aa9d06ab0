/- The document's own timers (kedgeref23) as an object: New, At, Set, Clear, Tick. -/
import Derived.Test.YtdkebneiikdohaaTimV
import Derived.Deep.RegionHeld3
import Derived.Deep.RegionLaw
import Derived.IntWalk
namespace Go.Proofs.Ytdkebneiikdohaa
open Go.RowKit
set_option maxRecDepth 20000

theorem row2t {w : World} {g : Nat} {t : TypeId} {a b : Value} (h : w.heap[g]? = some (.cells #[a, b] t (0, 0))) :
    w.cell? ⟨g, 0, none⟩ = some a ∧ w.cell? ⟨g, 1, none⟩ = some b ∧ w.frozen? ⟨g, 0, none⟩ = false ∧ w.frozen? ⟨g, 1, none⟩ = false :=
  ⟨cell_of_row _ _ _ _ _ _ h, cell_of_row _ _ _ _ _ _ h, frozen_of_row w _ _ _ _ h, frozen_of_row w _ _ _ _ h⟩
theorem Recs.take {w : World} {P : Option Addr} {n c : Nat} {l : List Tmr} (h : Recs rdTm 3 w P n c l) (k : Nat) (hk : k ≤ n) : Recs rdTm 3 w P k c (l.take k) :=
  ⟨by have := h.1; simp; omega, by have := h.2.1; omega, h.2.2.1, fun h0 => by
    obtain ⟨b, o, e, hb, hc⟩ := h.2.2.2 (by omega)
    refine ⟨b, o, e, hb, fun j hj => ?_⟩
    have hj' : j < l.length := by simp at hj; omega
    simpa using hc j hj'⟩
theorem Recs.drop {w : World} {b o n c : Nat} {l : List Tmr} (h : Recs rdTm 3 w (some ⟨b, o, none⟩) n c l) (k : Nat) (hk : k ≤ n) : Recs rdTm 3 w (some ⟨b, o + k * 3, none⟩) (n - k) (c - k) (l.drop k) :=
  ⟨by have := h.1; simp; omega, by have := h.2.1; omega, by have := h.2.2.1; omega, fun h0 => by
    obtain ⟨b', o', e, hb, hc⟩ := h.2.2.2 (by omega)
    injection e with e
    injection e with e1 e2
    subst e1 e2
    refine ⟨b, o + k * 3, rfl, hb, fun j hj => ?_⟩
    have hj' : k + j < l.length := by simp at hj; omega
    have := hc (k + j) hj'
    rw [show o + (k + j) * 3 = o + k * 3 + j * 3 by omega] at this
    simpa using this⟩
theorem Recs.none {w : World} {P : Option Addr} {c : Nat} (hc : c ≤ maxLen) : Recs rdTm 3 w P 0 c [] := ⟨rfl, Nat.zero_le _, hc, fun h => absurd h (by omega)⟩
theorem OwnZ.zs {w : World} {B n c : Nat} {A : Option Addr} {l : List Int} (h : OwnZ w B (.slice A n c) l) : Zs w A n c l ∧ l.length = n := by
  obtain ⟨P, d, e, k, _⟩ := h.shape
  injection e with e1 e2 e3
  subst e1 e2 e3
  exact ⟨k, rfl⟩
end Go.Proofs.Ytdkebneiikdohaa
