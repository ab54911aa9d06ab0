/- What a ledger that nobody made looks like in memory (of the package at hand). -/
import Derived.Test.YtgkjcnbijbnfpaaLdC
namespace Go.Proofs.Ytgkjcnbijbnfpaa
abbrev ldZero : Obj := .cells #[.bool false, .int .u64 0, .int .u64 0] 36
end Go.Proofs.Ytgkjcnbijbnfpaa
