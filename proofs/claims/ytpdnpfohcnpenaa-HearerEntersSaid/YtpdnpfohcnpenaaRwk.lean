/- One operation that alone is ready within a drawn region, run in the world at hand. -/
import Derived.Deep.RegionHeld3
namespace Go.Proofs.Ytpdnpfohcnpenaa

theorem wpAnyH_only {P : Program} {md : Region.Mode} {ops : Array Oper} {Q : Exit → Act → World → Prop} {S : World → Prop} {fuel : Nat} {listed : Array Bool} {a : Act} {w : World} {i : Nat} {oi : Oper} {v : Value} (hi : ops[i]? = some oi) (hr : Region.ready md ops listed = [i]) (S' : World → Prop) (hS' : S' w) (hy : YieldsIf P ops S' oi v a) (hS : S w) (H : wpAnyH P md ops Q S fuel (listed.setIfInBounds i true) (a.put oi.dst v) w) : wpAnyH P md ops Q S (fuel + 1) listed a w :=
  wpAnyH_ready hr (by simp) (fun j hj => by
    obtain rfl := List.mem_singleton.1 hj
    exact hy.wpOp hi hS' ⟨hS, H⟩)
end Go.Proofs.Ytpdnpfohcnpenaa
