/- What bytes.Clone and octet.Cut answer. -/
import Derived.Test.YtoaccikhklfeiaaFresh
namespace Go.Proofs.Ytoaccikhklfeiaa
open Go.RowKit
set_option maxRecDepth 20000

end Go.Proofs.Ytoaccikhklfeiaa
