/- The document's own queue (kedgeref19) as an object: what New, Push, Pop, At answer; kedgeref01.CopyAll. -/
import Derived.Test.YtdkebneiikdohaaObj
import Derived.Test.YtdkebneiikdohaaRcopy
import Derived.Deep.RegionHeld3
import Derived.Deep.RegionLaw
namespace Go.Proofs.Ytdkebneiikdohaa
open Go.RowKit
set_option maxRecDepth 20000

def quPushE (room : Nat) (ls : List (List UInt8)) (n : Nat) : Nat := if 64 < n then 2 else if room ≤ ls.length then 3 else 0
def quPush (room : Nat) (ls : List (List UInt8)) (m : List UInt8) : List (List UInt8) := if quPushE room ls m.length = 0 then ls ++ [m] else ls
theorem row2 {w : World} {g : Nat} {t : TypeId} {a b : Value} (h : w.heap[g]? = some (.cells #[a, b] t (0, 0))) :
    w.cell? ⟨g, 0, none⟩ = some a ∧ w.cell? ⟨g, 1, none⟩ = some b ∧ w.frozen? ⟨g, 0, none⟩ = false ∧ w.frozen? ⟨g, 1, none⟩ = false :=
  ⟨cell_of_row _ _ _ _ _ _ h, cell_of_row _ _ _ _ _ _ h, frozen_of_row w _ _ _ _ h, frozen_of_row w _ _ _ _ h⟩
theorem Rws.tail {w : World} {b o n c : Nat} {ls : List (List UInt8)} (h : Rws w (some ⟨b, o, none⟩) n c ls) (hn : 0 < n) : Rws w (some ⟨b, o + 1, none⟩) (n - 1) (c - 1) ls.tail := by
  obtain ⟨h1, h2, h3, h4⟩ := h
  refine ⟨by simp; omega, by omega, by omega, fun h0 => ?_⟩
  obtain ⟨b', o', vs, e, hb, hl, hc, hv⟩ := h4 hn
  injection e with e
  injection e with e1 e2
  subst e1 e2
  refine ⟨b, o + 1, vs.tail, rfl, hb, by simp; omega, fun j hj => ?_, fun j hj hj' => ?_⟩
  · simp at hj
    have := hc (j + 1) (by omega)
    rw [show o + 1 + j = o + (j + 1) by omega, this]
    simp
  · simp at hj hj'
    obtain ⟨A, d, k1, k2⟩ := hv (j + 1) (by omega) (by omega)
    refine ⟨A, d, ?_, ?_⟩
    · simpa using k1
    · simpa using k2
end Go.Proofs.Ytdkebneiikdohaa
