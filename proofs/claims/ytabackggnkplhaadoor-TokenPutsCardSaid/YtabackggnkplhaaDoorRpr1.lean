/- What kedgeref13.Right, head answer. -/
import Derived.Test.YtabackggnkplhaaDoorProbeM
namespace Go.Proofs.YtabackggnkplhaaDoor
open Go.RowKit
set_option maxRecDepth 20000

end Go.Proofs.YtabackggnkplhaaDoor
