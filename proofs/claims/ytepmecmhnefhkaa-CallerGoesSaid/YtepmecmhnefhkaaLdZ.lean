/- What a ledger that nobody made looks like in memory (of the package at hand). -/
import Derived.Test.YtepmecmhnefhkaaLdC
namespace Go.Proofs.Ytepmecmhnefhkaa
abbrev ldZero : Obj := .cells #[.bool false, .int .u64 0, .int .u64 0] 89
end Go.Proofs.Ytepmecmhnefhkaa
