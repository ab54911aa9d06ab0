/- Package tally, as landed: its contracts. -/
import Derived.Test.YtpdnpfohcnpenaaTlK3
import Derived.Test.YtpdnpfohcnpenaaTlK5
namespace Go.Proofs.Ytpdnpfohcnpenaa
open Go.RowKit Go.Maps

theorem tlC : TlC TlP where
  holds := TlP.holds
  new := fun w => (tlnew_any w).mono fun e w' h => by
    obtain ⟨h1, h2, h3⟩ := h
    refine ⟨_, fun k => k = w.heap.size + 1 ∨ k = w.heap.size, h1, ⟨_, _, h2, .inl rfl, .inr rfl, (fun k hk => by cases hk), fun k hk => ?_⟩, (fun k hk => by omega), h3⟩
    have := lt_of_block h2.row
    omega
  add := fun g l a A n c d w X hT hok hl hcnt ha hB hn => by
    by_cases hk : alAt l a d < l.length
    · exact tladd_old g l a A n c d w X hT ha hB hk hcnt
    · have h := tladd_new g l a A n c d w X hT ha hB hk hl
      rw [alCount_new l a d hk, alAdd_new l a d hk]
      exact h
  best := fun g l a w X hT hok _ => tlbest_any g l a w X hT hok
  clear := fun g l w X hT _ => tlclear_any g l w X hT
  nadd := fun a A n c d w _ => tlnadd_any a A n c w
  nbest := fun a w => tlnbest_any a w
  nclear := fun w => tlnclear_any w
end Go.Proofs.Ytpdnpfohcnpenaa
