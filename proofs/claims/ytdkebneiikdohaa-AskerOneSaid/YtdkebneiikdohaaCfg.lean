/- What a link is opened with, in plain words and in memory. Nothing of the program's own functions is in here. -/
import Derived.Test.YtdkebneiikdohaaResC
namespace Go.Proofs.Ytdkebneiikdohaa
open Go.RowKit
set_option maxRecDepth 20000

/-- what a link is opened with -/
structure Cfg where
  eng : Int
  w : Int
  m : Int
  l : Int
  b : Int
  room : Int
  beg : Nat
/-- the cells of what it is opened with -/
def cfgV (c : Cfg) : Value := .agg #[.int .i64 c.eng, .int .i64 c.w, .int .i64 c.m, .int .i64 c.l, .int .i64 c.b, .int .i64 c.room, .int .u64 (c.beg : Int)]
theorem row7 {w : World} {g : Nat} {t : TypeId} {a b c d e f h' : Value} (h : w.heap[g]? = some (.cells #[a, b, c, d, e, f, h'] t (0, 0))) :
    w.cell? ⟨g, 0, none⟩ = some a ∧ w.cell? ⟨g, 1, none⟩ = some b ∧ w.cell? ⟨g, 2, none⟩ = some c ∧ w.cell? ⟨g, 3, none⟩ = some d ∧ w.cell? ⟨g, 4, none⟩ = some e ∧ w.cell? ⟨g, 5, none⟩ = some f ∧ w.cell? ⟨g, 6, none⟩ = some h' :=
  ⟨cell_of_row _ _ _ _ _ _ h, cell_of_row _ _ _ _ _ _ h, cell_of_row _ _ _ _ _ _ h, cell_of_row _ _ _ _ _ _ h, cell_of_row _ _ _ _ _ _ h, cell_of_row _ _ _ _ _ _ h, cell_of_row _ _ _ _ _ _ h⟩
/-- settings as they come: numbers within their kinds -/
def CfI (c : Cfg) : Prop := I64 c.eng ∧ I64 c.w ∧ I64 c.m ∧ I64 c.l ∧ I64 c.b ∧ I64 c.room ∧ c.beg < 18446744073709551616
end Go.Proofs.Ytdkebneiikdohaa
