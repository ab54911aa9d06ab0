/- Package phase by its contracts; what the law's own helpers answer over them. -/
import Derived.Test.YtgkbgkgfjbmniaaRph4
namespace Go.Proofs.Ytgkbgkgfjbmniaa
open Go.RowKit

/-- parts up to 2^40 -/
def Mid (p : Pt) : Prop := -1099511627776 ≤ p.1 ∧ p.1 ≤ 1099511627776 ∧ -1099511627776 ≤ p.2 ∧ p.2 ≤ 1099511627776
/-- A call's end that tells a complex number with these parts. -/
def GivesZ (w : World) (p : Pt) (e : Ending) (w' : World) : Prop := ∃ a b, e = .returned (.complex .f64 a b) ∧ Fl a p.1 ∧ Fl b p.2 ∧ Below w.heap.size w w'
/-- what package phase answers, in plain words -/
structure PhC : Prop where
  of_ : ∀ (p : Pt) (w : World), Mid p → Calls Try.prog 9 #[.int .i64 p.1, .int .i64 p.2] w (GivesZ w p)
  parts : ∀ (a b : Nat) (p : Pt) (w : World), Fl a p.1 → Fl b p.2 → Mid p → Calls Try.prog 10 #[.complex .f64 a b] w fun e w' => e = .returned (.tuple #[.int .i64 p.1, .int .i64 p.2, .bool true]) ∧ Below w.heap.size w w'
  kind : ∀ (a b : Nat) (p : Pt) (w : World), Fl a p.1 → Fl b p.2 → Calls Try.prog 11 #[.complex .f64 a b] w fun e w' => e = .returned (.tuple #[.int .i64 (if kindI p < 0 then 0 else kindI p), .bool (decide (0 ≤ kindI p))]) ∧ Below w.heap.size w w'
  slice : ∀ (a b : Nat) (p : Pt) (w : World), Fl a p.1 → Fl b p.2 → Calls Try.prog 14 #[.complex .f64 a b] w (GivesZ w (sliceP p))
  turn : ∀ (A : Option Addr) (n c : Nat) (l : List Pt) (k : Int) (w : World), Cs w A n c l → n ≤ 1000000 → (∀ p ∈ l, Mid p) → -9223372036854775808 ≤ k ∧ k ≤ 9223372036854775807 → Calls Try.prog 16 #[.slice A n c, .int .i64 k] w (GivesC w (turnB l k))
  points : ∀ (A : Option Addr) (n c : Nat) (b : List UInt8) (w : World), Bys w A n c b → Calls Try.prog 20 #[.slice A n c] w (GivesC w (pointsB b))
  bytes : ∀ (A : Option Addr) (n c : Nat) (l : List Pt) (w : World), Cs w A n c l → Calls Try.prog 22 #[.slice A n c] w (GivesT w (bytesB l))

/-- append of a complex number as one step of a region that draws its order -/
theorem step_cx {ops : Array Oper} {o : Oper} {a : Act} {K : Act → World → Prop} {Q : Exit → Act → World → Prop} {E : Prop} (w : World) (hgd : o.guard = none) (s x : Operand)
    (ho : o.op = .call { callee := .builtin .append, args := #[s, x], argTypes := #[37, 37] })
    (B : Nat) (v : Value) (l : List Pt) (hs : a.eval s = v) (hown : OwnC w B v l) (g c d : Nat) (p : Pt) (hx : a.eval x = .slice (some ⟨g, 0, none⟩) 1 1) (hg : w.heap[g]? = some (.cells #[.complex .f64 c d] 23 (0, 0))) (hc : Fl c p.1) (hd : Fl d p.2) (hlen : l.length + 1 ≤ 1099511627776) (hbase : B ≤ w.heap.size)
    (h : ∀ v' w', OwnC w' B v' (l ++ [p]) → w.grownBy w' v.ownBlock → (v'.ownBlock = v.ownBlock ∨ v'.ownBlock = some w.heap.size) → K (a.put o.dst v') w') :
    if Region.wanted o (yielded ops a.tmps) = true then Oper.wp Try.prog o a w K Q else E := by
  have hw : Region.wanted o (yielded ops a.tmps) = true := by simp [Region.wanted, hgd]
  rw [if_pos hw]
  obtain ⟨v', w', hrun, h2, h3, h4⟩ := run_append_cx w B v l hown g c d p hg hc hd hlen hbase o.type
  unfold Oper.wp execOp
  simp only [ho, resolve, invoke, builtin, Sem.run_bind, Sem.run_pure, Result.andThen_ok, List.map_toArray, List.map_cons, List.map_nil, hs, hx, hrun]
  exact h v' w' h2 h3 h4

/-- parts up to 1000 -/
def Low (p : Pt) : Prop := -1000 ≤ p.1 ∧ p.1 ≤ 1000 ∧ -1000 ≤ p.2 ∧ p.2 ≤ 1000
/-- Small's end -/
def SmallP (w : World) (n : Nat) (l : List Pt) (e : Ending) (w' : World) : Prop := ∃ r, e = .returned (.bool r) ∧ (r = true → n ≤ 400 ∧ ∀ p ∈ l, Low p) ∧ w = w'
set_option maxHeartbeats 2000000 in
theorem small_any (A : Option Addr) (n c : Nat) (l : List Pt) (w : World) (hP : Ps w A n c l) :
    Calls Try.prog 15 #[.slice A n c] w (SmallP w n l) := by
  obtain ⟨hl, hnc, hcm, hcell⟩ := hP
  unfold maxLen at hcm
  subst hl
  have HC := Lib.hid hcell
  clear hcell
  go_enter Try.func15, Try.ntmps15
  go_wp2_with (fail)
  go_loopw [3] (fun i wr => ∃ j : Nat, j ≤ l.length ∧ i = .int .i64 (j : Int) ∧ Hid (∀ p ∈ l.take j, Low p) ∧ w = wr ∧ j ≤ 500) (fun i _ => l.length - (intOf i).toNat)
  case atStart => exact ⟨0, Nat.zero_le _, rfl, fun p hp => by simp at hp, rfl, by omega⟩
  case round =>
    obtain ⟨j, hj, rfl, HL, rfl, h500⟩ := hrel
    by_cases hlt : j < l.length
    · by_cases h5 : j < 500
      · have d5 : decide ((j : Int) < 500) = true := by simp; omega
        obtain ⟨g, o, rfl, hg, hc⟩ := HC.out (by omega)
        obtain ⟨c1, c2⟩ := hc j hlt
        have hst : ∀ p ∈ l.take (j + 1), p ∈ l.take j ∨ p = l[j] := by
          intro p hp
          rw [List.take_succ_eq_append_getElem hlt] at hp
          rcases List.mem_append.1 hp with h | h
          · exact .inl h
          · exact .inr (List.mem_singleton.1 h)
        generalize l[j] = x at *
        obtain ⟨xa, xb⟩ := x
        simp only at c1 c2
        have HST := Lib.hid hst
        clear hst hc
        by_cases y1 : xa < -1000
        · have z1 : decide (xa < -1000) = true := by simpa using y1
          go_wp2
          go_ret
          exact ⟨false, rfl, fun h => (by cases h), rfl⟩
        · have z1 : decide (xa < -1000) = false := by simpa using y1
          by_cases y2 : 1000 < xa
          · have z2 : decide (1000 < xa) = true := by simpa using y2
            go_wp2
            go_ret
            exact ⟨false, rfl, fun h => (by cases h), rfl⟩
          · have z2 : decide (1000 < xa) = false := by simpa using y2
            by_cases y3 : xb < -1000
            · have z3 : decide (xb < -1000) = true := by simpa using y3
              go_wp2
              go_ret
              exact ⟨false, rfl, fun h => (by cases h), rfl⟩
            · have z3 : decide (xb < -1000) = false := by simpa using y3
              by_cases y4 : 1000 < xb
              · have z4 : decide (1000 < xb) = true := by simpa using y4
                go_wp2
                go_ret
                exact ⟨false, rfl, fun h => (by cases h), rfl⟩
              · have z4 : decide (1000 < xb) = false := by simpa using y4
                have HLX : Hid (Low (xa, xb)) := ⟨by show -1000 ≤ xa; omega, by show xa ≤ 1000; omega, by show -1000 ≤ xb; omega, by show xb ≤ 1000; omega⟩
                go_wp2
                go_roundw
                case rel =>
                  refine ⟨j + 1, by omega, by go_num, fun p hp => ?_, trivial, by omega⟩
                  rcases HST.out p hp with h | h
                  · exact HL.out p h
                  · rw [h]; exact HLX.out
                case measure => simp [intOf]; omega
      · have d5 : decide ((j : Int) < 500) = false := by simp; omega
        have d6 : decide ((l.length : Int) ≤ 400) = false := by simp; omega
        go_wp2
        go_ret
        exact ⟨false, rfl, fun h => (by cases h), rfl⟩
    · obtain rfl : j = l.length := by omega
      obtain ⟨r, hr⟩ : ∃ r, decide ((l.length : Int) ≤ 400) = r := ⟨_, rfl⟩
      have HR : Hid (r = true → l.length ≤ 400) := fun h => by rw [h] at hr; simp at hr; omega
      have HL2 : Hid (∀ p ∈ l, Low p) := by have := HL.out; rw [List.take_length] at this; exact this
      go_wp2
      go_ret
      exact ⟨r, rfl, fun h => ⟨HR.out h, HL2.out⟩, rfl⟩
end Go.Proofs.Ytgkbgkgfjbmniaa
