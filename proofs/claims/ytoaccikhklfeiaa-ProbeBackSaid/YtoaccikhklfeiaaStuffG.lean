/- What stuff.Get answers. -/
import Derived.Test.YtoaccikhklfeiaaStuffM
import Derived.Test.YtoaccikhklfeiaaRoom
namespace Go.Proofs.Ytoaccikhklfeiaa
open Go.RowKit
set_option maxRecDepth 20000

def turnedB (x : UInt8) : Bool := x == 0x5e || x == 0x5d
end Go.Proofs.Ytoaccikhklfeiaa
