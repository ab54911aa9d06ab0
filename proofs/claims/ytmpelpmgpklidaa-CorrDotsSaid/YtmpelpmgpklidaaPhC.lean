/- Package phase by its contracts; what the law's own helpers answer over them. -/
import Derived.Test.YtmpelpmgpklidaaRph4
namespace Go.Proofs.Ytmpelpmgpklidaa
open Go.RowKit

/-- parts up to 2^40 -/
def Mid (p : Pt) : Prop := -1099511627776 ≤ p.1 ∧ p.1 ≤ 1099511627776 ∧ -1099511627776 ≤ p.2 ∧ p.2 ≤ 1099511627776
/-- A call's end that tells a complex number with these parts. -/
def GivesZ (w : World) (p : Pt) (e : Ending) (w' : World) : Prop := ∃ a b, e = .returned (.complex .f64 a b) ∧ Fl a p.1 ∧ Fl b p.2 ∧ Below w.heap.size w w'
/-- what package phase answers, in plain words -/
structure PhC : Prop where
  of_ : ∀ (p : Pt) (w : World), Mid p → Calls Try.prog 23 #[.int .i64 p.1, .int .i64 p.2] w (GivesZ w p)
  parts : ∀ (a b : Nat) (p : Pt) (w : World), Fl a p.1 → Fl b p.2 → Mid p → Calls Try.prog 12 #[.complex .f64 a b] w fun e w' => e = .returned (.tuple #[.int .i64 p.1, .int .i64 p.2, .bool true]) ∧ Below w.heap.size w w'
  slice : ∀ (a b : Nat) (p : Pt) (w : World), Fl a p.1 → Fl b p.2 → Calls Try.prog 25 #[.complex .f64 a b] w (GivesZ w (sliceP p))
  turn : ∀ (A : Option Addr) (n c : Nat) (l : List Pt) (k : Int) (w : World), Cs w A n c l → n ≤ 1000000 → (∀ p ∈ l, Mid p) → -9223372036854775808 ≤ k ∧ k ≤ 9223372036854775807 → Calls Try.prog 22 #[.slice A n c, .int .i64 k] w (GivesC w (turnB l k))

/-- append of a complex number as one step of a region that draws its order -/
theorem step_cx {ops : Array Oper} {o : Oper} {a : Act} {K : Act → World → Prop} {Q : Exit → Act → World → Prop} {E : Prop} (w : World) (hgd : o.guard = none) (s x : Operand)
    (ho : o.op = .call { callee := .builtin .append, args := #[s, x], argTypes := #[27, 27] })
    (B : Nat) (v : Value) (l : List Pt) (hs : a.eval s = v) (hown : OwnC w B v l) (g c d : Nat) (p : Pt) (hx : a.eval x = .slice (some ⟨g, 0, none⟩) 1 1) (hg : w.heap[g]? = some (.cells #[.complex .f64 c d] 25 (0, 0))) (hc : Fl c p.1) (hd : Fl d p.2) (hlen : l.length + 1 ≤ 1099511627776) (hbase : B ≤ w.heap.size)
    (h : ∀ v' w', OwnC w' B v' (l ++ [p]) → w.grownBy w' v.ownBlock → (v'.ownBlock = v.ownBlock ∨ v'.ownBlock = some w.heap.size) → K (a.put o.dst v') w') :
    if Region.wanted o (yielded ops a.tmps) = true then Oper.wp Try.prog o a w K Q else E := by
  have hw : Region.wanted o (yielded ops a.tmps) = true := by simp [Region.wanted, hgd]
  rw [if_pos hw]
  obtain ⟨v', w', hrun, h2, h3, h4⟩ := run_append_cx w B v l hown g c d p hg hc hd hlen hbase o.type
  unfold Oper.wp execOp
  simp only [ho, resolve, invoke, builtin, Sem.run_bind, Sem.run_pure, Result.andThen_ok, List.map_toArray, List.map_cons, List.map_nil, hs, hx, hrun]
  exact h v' w' h2 h3 h4

/-- parts up to 1000 -/
def Low (p : Pt) : Prop := -1000 ≤ p.1 ∧ p.1 ≤ 1000 ∧ -1000 ≤ p.2 ∧ p.2 ≤ 1000
/-- Small's end -/
def SmallP (w : World) (n : Nat) (l : List Pt) (e : Ending) (w' : World) : Prop := ∃ r, e = .returned (.bool r) ∧ (r = true → n ≤ 400 ∧ ∀ p ∈ l, Low p) ∧ w = w'
end Go.Proofs.Ytmpelpmgpklidaa
