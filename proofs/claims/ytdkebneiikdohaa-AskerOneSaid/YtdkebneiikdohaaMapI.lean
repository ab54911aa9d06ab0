/- A map[uint64]int that the call itself makes: looked up with 'ok', written. Nothing of the program's own functions is in here. -/
import Derived.Test.YtdkebneiikdohaaFresh
import Derived.Maps.Own
import Derived.Maps.OwnOps
import Derived.WalkArith
namespace Go.Proofs.Ytdkebneiikdohaa
open Go.RowKit Go.Maps
set_option maxRecDepth 20000

theorem keyOf_u64i {c : Nat} (hc : c < 18446744073709551616) : keyOf Try.prog 22 (.int .u64 (c : Int)) = some (.int .u64 (c : Int)) := keyOf_int_mk Try.underlying22 (WalkArith.wf_u64 ⟨by omega, by omega⟩)
/-- block b is a map of at most n keys: T tells what each has -/
def MapI (w : World) (b n : Nat) (T : Nat → Option Nat) : Prop := ∃ D : DataW Unit, w.ownsMap Try.prog 22 (plainElem Try.prog 3) b n D ∧ IsMap D ∧ ∀ c : Nat, c < 18446744073709551616 → ∀ zd, D.atKey (.int .u64 (c : Int)) zd = (match T c with | some i => .lit (.int .i64 (i : Int)) | none => zd)
theorem zero_i64i (w : World) : (zeroValue 3).run Try.prog w = .ok (.int .i64 0) w := by kernel_rfl
theorem MapI.made (w : World) : MapI (w.alloc (.map #[] 0)) w.heap.size 0 (fun _ => none) := ⟨.map [], World.ownsMap_made _ _ _ _, ⟨[], rfl⟩, fun _ _ _ => rfl⟩
theorem MapI.lt {w : World} {b n : Nat} {T : Nat → Option Nat} (h : MapI w b n T) : b < w.heap.size := by
  obtain ⟨D, h1, _⟩ := h
  exact h1.lt
theorem MapI.off {X : Nat → Prop} {w w' : World} {b n : Nat} {T : Nat → Option Nat} (h : MapI w b n T) (o : Off X w w') (hb : ¬ X b) : MapI w' b n T := by
  have hlt := h.lt
  obtain ⟨D, ⟨es, clock, hh, F, hs, hD⟩, h2⟩ := h
  exact ⟨D, ⟨es, clock, (o.block b hlt hb).trans hh, F, hs, hD⟩, h2⟩
end Go.Proofs.Ytdkebneiikdohaa
