/- What the walks of layer 2's statements ask of package crc: one contract a call. 'Tab w a': a table that New made lies at a. -/
import Derived.Test.YtoaccikhklfeiaaCrcR
import Derived.Test.YtoaccikhklfeiaaOwn
import Derived.Test.YtoaccikhklfeiaaSame
namespace Go.Proofs.Ytoaccikhklfeiaa
open Go.RowKit
set_option maxRecDepth 20000

end Go.Proofs.Ytoaccikhklfeiaa
