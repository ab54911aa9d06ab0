/- Package corr's contracts, over what was walked. -/
import Derived.Test.YtmpelpmgpklidaaCo5
import Derived.Test.YtmpelpmgpklidaaPhK
namespace Go.Proofs.Ytmpelpmgpklidaa

theorem coC : CoC := ⟨dot_any, size_any, find_any phC.turn, peak_any, sliced_any⟩
end Go.Proofs.Ytmpelpmgpklidaa
