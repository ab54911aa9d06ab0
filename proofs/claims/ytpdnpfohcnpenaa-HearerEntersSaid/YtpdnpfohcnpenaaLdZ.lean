/- What a ledger that nobody made looks like in memory (of the package at hand). -/
import Derived.Test.YtpdnpfohcnpenaaLdC
namespace Go.Proofs.Ytpdnpfohcnpenaa
abbrev ldZero : Obj := .cells #[.bool false, .int .u64 0, .int .u64 0] 91
end Go.Proofs.Ytpdnpfohcnpenaa
