/- Package hearer, as landed: all of its contracts. -/
import Derived.Test.YtpdnpfohcnpenaaHeK5
namespace Go.Proofs.Ytpdnpfohcnpenaa
open Go.RowKit
set_option maxRecDepth 20000

theorem heC : HeC HeP where
  holds := HeP.holds
  new_no := fun r b w _ _ h => (henew_no r b w h).mono fun _ _ ⟨h1, h2⟩ => ⟨h1, h2 ▸ Below.refl _ _⟩
  new_yes := fun room b w h1 h2 _ => henew_yes room b w h1 h2
  tick := fun g s w X hF hok => hetick_any g s w X hF hok
  take := fun g s kd lb A n c d w X hF hok hl hcnt hent _ hi hB hA hnb => hetake_any g s kd lb A n c d w X hF hok hl hcnt hent hi hB hA hnb
  recv := fun g s w X hF hok h1 h2 => herecv_any g s w X hF hok h1 h2
  state := fun g s w X hF => hestate_any g s w X hF
  kept := fun g s w X hF => hekept_any g s w X hF
  ntick := hentick_any
  ntake := fun kd lb A n c _ w _ _ _ => hentake_any kd lb A n c w
  nrecv := henrecv_any
  nstate := henstate_any
  nkept := henkept_any
end Go.Proofs.Ytpdnpfohcnpenaa
