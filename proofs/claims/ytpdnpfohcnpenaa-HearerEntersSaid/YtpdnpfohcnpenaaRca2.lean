/- What kedgeref20's Send, Poll, Tick answer. -/
import Derived.Test.YtpdnpfohcnpenaaRca
namespace Go.Proofs.Ytpdnpfohcnpenaa
open Go.RowKit
set_option maxRecDepth 20000

theorem rq_len {g room : Nat} {ls : List (List UInt8)} {w : World} {X : Nat → Prop} (h : RQ g room ls w X) : ∃ P c, ls.length ≤ c ∧ c ≤ 9223372036854775807 ∧ w.cell? ⟨g, 1, none⟩ = some (.slice P ls.length c) := by
  obtain ⟨P, c, h1, h2, -, h3, -⟩ := h.cells
  exact ⟨P, c, h1, h2, h3⟩
/-- a call's end that tells packets in new memory, and turns an object -/
def GivesPks (F : World → (Nat → Prop) → Prop) (X : Nat → Prop) (l : List Pkt) (w : World) (e : Ending) (w' : World) : Prop := ∃ A n c X', e = .returned (.slice A n c) ∧ Pks w' (fun k => X' k ∨ k < w.heap.size) A n c l ∧ F w' X' ∧ Turns X X' w w'
end Go.Proofs.Ytpdnpfohcnpenaa
