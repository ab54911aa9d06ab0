/- Joined: PhC PhL. -/
import Derived.Test.YtkcpkfimmolkkaaDoorRphs
/- Package phase by its contracts; what the law's own helpers answer over them. -/
namespace Go.Proofs.YtkcpkfimmolkkaaDoor
open Go.RowKit
set_option maxRecDepth 20000

/-- parts up to 2^40 -/
def Mid (p : Pt) : Prop := -1099511627776 ≤ p.1 ∧ p.1 ≤ 1099511627776 ∧ -1099511627776 ≤ p.2 ∧ p.2 ≤ 1099511627776
/-- A call's end that tells a complex number with these parts. -/
def GivesZ (w : World) (p : Pt) (e : Ending) (w' : World) : Prop := ∃ a b, e = .returned (.complex .f64 a b) ∧ Fl a p.1 ∧ Fl b p.2 ∧ Below w.heap.size w w'
/-- what package phase answers, in plain words -/
structure PhC : Prop where
  of_ : ∀ (p : Pt) (w : World), Mid p → Calls Tryd.prog 25 #[.int .i64 p.1, .int .i64 p.2] w (GivesZ w p)
  parts : ∀ (a b : Nat) (p : Pt) (w : World), Fl a p.1 → Fl b p.2 → Mid p → Calls Tryd.prog 37 #[.complex .f64 a b] w fun e w' => e = .returned (.tuple #[.int .i64 p.1, .int .i64 p.2, .bool true]) ∧ Below w.heap.size w w'
  kind : ∀ (a b : Nat) (p : Pt) (w : World), Fl a p.1 → Fl b p.2 → Calls Tryd.prog 86 #[.complex .f64 a b] w fun e w' => e = .returned (.tuple #[.int .i64 (if kindI p < 0 then 0 else kindI p), .bool (decide (0 ≤ kindI p))]) ∧ Below w.heap.size w w'
  slice : ∀ (a b : Nat) (p : Pt) (w : World), Fl a p.1 → Fl b p.2 → Calls Tryd.prog 67 #[.complex .f64 a b] w (GivesZ w (sliceP p))
  turn : ∀ (A : Option Addr) (n c : Nat) (l : List Pt) (k : Int) (w : World), Cs w A n c l → n ≤ 1000000 → (∀ p ∈ l, Mid p) → -9223372036854775808 ≤ k ∧ k ≤ 9223372036854775807 → Calls Tryd.prog 19 #[.slice A n c, .int .i64 k] w (GivesC w (turnB l k))
  points : ∀ (A : Option Addr) (n c : Nat) (b : List UInt8) (w : World), Bys w A n c b → Calls Tryd.prog 30 #[.slice A n c] w (GivesC w (pointsB b))
  bytes : ∀ (A : Option Addr) (n c : Nat) (l : List Pt) (w : World), Cs w A n c l → Calls Tryd.prog 72 #[.slice A n c] w (GivesT w (bytesB l))

/-- append of a complex number as one step of a region that draws its order -/
theorem step_cx {ops : Array Oper} {o : Oper} {a : Act} {K : Act → World → Prop} {Q : Exit → Act → World → Prop} {E : Prop} (w : World) (hgd : o.guard = none) (s x : Operand)
    (ho : o.op = .call { callee := .builtin .append, args := #[s, x], argTypes := #[24, 24] })
    (B : Nat) (v : Value) (l : List Pt) (hs : a.eval s = v) (hown : OwnC w B v l) (g c d : Nat) (p : Pt) (hx : a.eval x = .slice (some ⟨g, 0, none⟩) 1 1) (hg : w.heap[g]? = some (.cells #[.complex .f64 c d] 54 (0, 0))) (hc : Fl c p.1) (hd : Fl d p.2) (hlen : l.length + 1 ≤ 1099511627776) (hbase : B ≤ w.heap.size)
    (h : ∀ v' w', OwnC w' B v' (l ++ [p]) → w.grownBy w' v.ownBlock → (v'.ownBlock = v.ownBlock ∨ v'.ownBlock = some w.heap.size) → K (a.put o.dst v') w') :
    if Region.wanted o (yielded ops a.tmps) = true then Oper.wp Tryd.prog o a w K Q else E := by
  have hw : Region.wanted o (yielded ops a.tmps) = true := by simp [Region.wanted, hgd]
  rw [if_pos hw]
  obtain ⟨v', w', hrun, h2, h3, h4⟩ := run_append_cx w B v l hown g c d p hg hc hd hlen hbase o.type
  unfold Oper.wp execOp
  simp only [ho, resolve, invoke, builtin, Sem.run_bind, Sem.run_pure, Result.andThen_ok, List.map_toArray, List.map_cons, List.map_nil, hs, hx, hrun]
  exact h v' w' h2 h3 h4

/-- parts up to 1000 -/
def Low (p : Pt) : Prop := -1000 ≤ p.1 ∧ p.1 ≤ 1000 ∧ -1000 ≤ p.2 ∧ p.2 ≤ 1000
/-- Small's end -/
def SmallP (w : World) (n : Nat) (l : List Pt) (e : Ending) (w' : World) : Prop := ∃ r, e = .returned (.bool r) ∧ (r = true → n ≤ 400 ∧ ∀ p ∈ l, Low p) ∧ w = w'
set_option maxHeartbeats 2000000 in
theorem small_any (A : Option Addr) (n c : Nat) (l : List Pt) (w : World) (hP : Ps w A n c l) :
    Calls Tryd.prog 14 #[.slice A n c] w (SmallP w n l) := by
  obtain ⟨hl, hnc, hcm, hcell⟩ := hP
  unfold maxLen at hcm
  subst hl
  have HC := Lib.hid hcell
  clear hcell
  go_enter Tryd.func14, Tryd.ntmps14
  go_wp2_with (fail)
  go_loopw [3] (fun i wr => ∃ j : Nat, j ≤ l.length ∧ i = .int .i64 (j : Int) ∧ Hid (∀ p ∈ l.take j, Low p) ∧ w = wr ∧ j ≤ 500) (fun i _ => l.length - (intOf i).toNat)
  case atStart => exact ⟨0, Nat.zero_le _, rfl, fun p hp => by simp at hp, rfl, by omega⟩
  case round =>
    obtain ⟨j, hj, rfl, HL, rfl, h500⟩ := hrel
    by_cases hlt : j < l.length
    · by_cases h5 : j < 500
      · have d5 : decide ((j : Int) < 500) = true := by simp; omega
        obtain ⟨g, o, rfl, hg, hc⟩ := HC.out (by omega)
        obtain ⟨c1, c2⟩ := hc j hlt
        have hst : ∀ p ∈ l.take (j + 1), p ∈ l.take j ∨ p = l[j] := by
          intro p hp
          rw [List.take_succ_eq_append_getElem hlt] at hp
          rcases List.mem_append.1 hp with h | h
          · exact .inl h
          · exact .inr (List.mem_singleton.1 h)
        generalize l[j] = x at *
        obtain ⟨xa, xb⟩ := x
        simp only at c1 c2
        have HST := Lib.hid hst
        clear hst hc
        by_cases y1 : xa < -1000
        · have z1 : decide (xa < -1000) = true := by simpa using y1
          go_wp2
          go_ret
          exact ⟨false, rfl, fun h => (by cases h), rfl⟩
        · have z1 : decide (xa < -1000) = false := by simpa using y1
          by_cases y2 : 1000 < xa
          · have z2 : decide (1000 < xa) = true := by simpa using y2
            go_wp2
            go_ret
            exact ⟨false, rfl, fun h => (by cases h), rfl⟩
          · have z2 : decide (1000 < xa) = false := by simpa using y2
            by_cases y3 : xb < -1000
            · have z3 : decide (xb < -1000) = true := by simpa using y3
              go_wp2
              go_ret
              exact ⟨false, rfl, fun h => (by cases h), rfl⟩
            · have z3 : decide (xb < -1000) = false := by simpa using y3
              by_cases y4 : 1000 < xb
              · have z4 : decide (1000 < xb) = true := by simpa using y4
                go_wp2
                go_ret
                exact ⟨false, rfl, fun h => (by cases h), rfl⟩
              · have z4 : decide (1000 < xb) = false := by simpa using y4
                have HLX : Hid (Low (xa, xb)) := ⟨by show -1000 ≤ xa; omega, by show xa ≤ 1000; omega, by show -1000 ≤ xb; omega, by show xb ≤ 1000; omega⟩
                go_wp2
                go_roundw
                case rel =>
                  refine ⟨j + 1, by omega, by go_num, fun p hp => ?_, trivial, by omega⟩
                  rcases HST.out p hp with h | h
                  · exact HL.out p h
                  · rw [h]; exact HLX.out
                case measure => simp [intOf]; omega
      · have d5 : decide ((j : Int) < 500) = false := by simp; omega
        have d6 : decide ((l.length : Int) ≤ 400) = false := by simp; omega
        go_wp2
        go_ret
        exact ⟨false, rfl, fun h => (by cases h), rfl⟩
    · obtain rfl : j = l.length := by omega
      obtain ⟨r, hr⟩ : ∃ r, decide ((l.length : Int) ≤ 400) = r := ⟨_, rfl⟩
      have HR : Hid (r = true → l.length ≤ 400) := fun h => by rw [h] at hr; simp at hr; omega
      have HL2 : Hid (∀ p ∈ l, Low p) := by have := HL.out; rw [List.take_length] at this; exact this
      go_wp2
      go_ret
      exact ⟨r, rfl, fun h => ⟨HR.out h, HL2.out⟩, rfl⟩
end Go.Proofs.YtkcpkfimmolkkaaDoor

/- What the law's own Of, Told, num and live answer, over phase's contracts. -/
namespace Go.Proofs.YtkcpkfimmolkkaaDoor
open Go.RowKit
set_option maxRecDepth 20000

set_option maxHeartbeats 4000000 in
theorem lof_any (C : PhC) (A : Option Addr) (n c : Nat) (l : List Pt) (w : World) (hP : Ps w A n c l) (hn : n ≤ 1000000) (hM : ∀ p ∈ l, Mid p) :
    Calls Tryd.prog 16 #[.slice A n c] w (GivesC w l) := by
  obtain ⟨hl, hnc, hcm, hcell⟩ := hP
  unfold maxLen at hcm
  subst hl
  have HC := Lib.hid hcell
  have HM := Lib.hid hM
  clear hcell hM
  go_enter Tryd.func16, Tryd.ntmps16
  go_wp2_with (fail)
  go_loopw [3, 4] (fun v i wr => ∃ j : Nat, j ≤ l.length ∧ i = .int .i64 (j : Int) ∧ OwnC wr w.heap.size v (l.take j) ∧ Below w.heap.size w wr) (fun _ i _ => l.length - (intOf i).toNat)
  case atStart => exact ⟨0, Nat.zero_le _, rfl, OwnC.nil _ _, Below.refl _ _⟩
  case round =>
    obtain ⟨j, hj, rfl, hown, hbel⟩ := hrel
    by_cases hlt : j < l.length
    · obtain ⟨g, o, rfl, hg, hc⟩ := HC.out (by omega)
      have HC0 := Lib.hid (hc j hlt)
      obtain ⟨c1, c2⟩ := hc j hlt
      have c1 := (hbel.cell (p := ⟨g, o + j * 2, none⟩) hg).trans c1
      have c2 := (hbel.cell (p := ⟨g, o + j * 2 + 1, none⟩) hg).trans c2
      have hgz : g < wr.heap.size := by have := hbel.size; omega
      have hst := List.take_succ_eq_append_getElem hlt
      have hof := fun W => C.of_ l[j] W (HM.out _ (List.getElem_mem hlt))
      have hlen : (l.take j).length ≤ 1000000 := by simp; omega
      generalize l[j] = x at *
      generalize l.take j = cur at *
      obtain ⟨xa, xb⟩ := x
      simp only at c1 c2
      have HOF := Lib.hid hof
      have HST := Lib.hid hst
      have HON := Lib.hid hown
      have hz0 := hbel.size
      clear hof hst hown hc
      go_wp2_with (fail)
      go_region_held3 (fun w' => w'.cell? ⟨g, o + j * 2, none⟩ = some (.int .i64 xa) ∧ w'.cell? ⟨g, o + j * 2 + 1, none⟩ = some (.int .i64 xb))
        (first | exact ⟨c1, c2⟩ | exact q7 | exact ⟨((Below.refl w5.heap.size w5).alloc (Nat.le_refl _) _).cell (p := ⟨g, o + j * 2, none⟩) hg5 |>.trans q5.1, ((Below.refl w5.heap.size w5).alloc (Nat.le_refl _) _).cell (p := ⟨g, o + j * 2 + 1, none⟩) hg5 |>.trans q5.2⟩ | exact q5)
        (first
          | (go_at_call 25; (refine (HOF.out _).mono ?_); rintro e w5 ⟨za, zb, rfl, hza, hzb, G5⟩; have K5 : Below wr.heap.size wr w5 := undrew G5; have q5 : w5.cell? ⟨g, o + j * 2, none⟩ = some (.int .i64 xa) ∧ w5.cell? ⟨g, o + j * 2 + 1, none⟩ = some (.int .i64 xb) := ⟨(K5.cell (p := ⟨g, o + j * 2, none⟩) hgz).trans c1, (K5.cell (p := ⟨g, o + j * 2 + 1, none⟩) hgz).trans c2⟩; have hg5 : g < w5.heap.size := (by have := K5.size; omega); have HO5 := Lib.hid (HON.out.below K5); have T5 := nxt hbel K5)
          | ((refine step_cx _ rfl (.tmp 11) (.tmp 23) rfl w.heap.size u3 cur rfl ?_ w5.heap.size za zb (xa, xb) rfl ?_ hza hzb ?_ ?_ ?_); (exact HO5.out.below ((Below.refl _ _).alloc (Nat.le_refl _) _)); (exact heap_alloc_new w5 _); (omega); (exact Nat.le_trans T5.size (by simp)); intro v7 w7 hown7 hgrow7 hwhere7; have T7 : Below w.heap.size w w7 := (T5.alloc T5.size _).grown hgrow7 (Nat.le_trans T5.size (by simp)) (fun k' hk => (HO5.out.lt k' hk).1); have q7 : w7.cell? ⟨g, o + j * 2, none⟩ = some (.int .i64 xa) ∧ w7.cell? ⟨g, o + j * 2 + 1, none⟩ = some (.int .i64 xb) := ⟨(T7.cell (p := ⟨g, o + j * 2, none⟩) hg).trans HC0.out.1, (T7.cell (p := ⟨g, o + j * 2 + 1, none⟩) hg).trans HC0.out.2⟩))
      have HO7 := Lib.hid hown7
      clear hown7 hgrow7 hwhere7 q7 q5 c1 c2
      go_wp2
      go_roundw
      case rel => exact ⟨j + 1, by omega, by go_num, by rw [HST.out]; exact HO7.out, T7⟩
      case measure => simp [intOf]; omega
    · obtain rfl : j = l.length := by omega
      rw [List.take_length] at hown
      have HON := Lib.hid hown
      clear hown
      go_wp2
      go_ret
      exact ⟨_, rfl, HON.out, hbel⟩

set_option maxHeartbeats 2000000 in
theorem told_true (C : PhC) (A : Option Addr) (n c : Nat) (A2 : Option Addr) (n2 c2 : Nat) (l : List Pt) (w : World) (hC : Cs w A n c l) (hP : Ps w A2 n2 c2 l) (hM : ∀ p ∈ l, Mid p) :
    Calls Tryd.prog 11 #[.slice A n c, .slice A2 n2 c2] w fun e w' => e = .returned (.bool true) ∧ Below w.heap.size w w' := by
  obtain rfl : n2 = n := by have := hC.len; have := hP.len; omega
  have hl := hC.len
  have hcm := hC.cap
  have hnc := hC.le
  have HA := Lib.hid hC.at_
  obtain ⟨_, hnc2, hcm2, hcell⟩ := hP
  unfold maxLen at hcm2
  have HC := Lib.hid hcell
  have HM := Lib.hid hM
  subst hl
  clear hcell hM hC
  have hbb : ((l.length : Int) != (l.length : Int)) = false := by simp
  go_enter Tryd.func11, Tryd.ntmps11
  go_wp2_with (fail)
  go_loopw [5] (fun i wr => ∃ j : Nat, j ≤ l.length ∧ i = .int .i64 (j : Int) ∧ Below w.heap.size w wr) (fun i _ => l.length - (intOf i).toNat)
  case atStart => exact ⟨0, Nat.zero_le _, rfl, Below.refl _ _⟩
  case round =>
    obtain ⟨j, hj, rfl, hbel⟩ := hrel
    by_cases hlt : j < l.length
    · obtain ⟨g, o, rfl, hg, hc⟩ := HC.out (by omega)
      obtain ⟨c1, c2⟩ := hc j hlt
      obtain ⟨g2, o2, x, y, rfl, hg2, hk2, c3, hx, hy⟩ := HA.out j hlt
      have hpa := fun W => C.parts x y l[j] W hx hy (HM.out _ (List.getElem_mem hlt))
      have c3 := (hbel.cell (p := ⟨g2, o2 + j, none⟩) hg2).trans c3
      generalize l[j] = z at *
      obtain ⟨za, zb⟩ := z
      simp only at c1 c2
      have HPA := Lib.hid hpa
      have d1 : (za != za) = false := by simp
      have d2 : (zb != zb) = false := by simp
      have hC2 : ∀ W, Below wr.heap.size wr W → W.cell? ⟨g, o + j * 2, none⟩ = some (.int .i64 za) ∧ W.cell? ⟨g, o + j * 2 + 1, none⟩ = some (.int .i64 zb) := fun W k => ⟨((nxt hbel k).cell (p := ⟨g, o + j * 2, none⟩) hg).trans c1, ((nxt hbel k).cell (p := ⟨g, o + j * 2 + 1, none⟩) hg).trans c2⟩
      have HC2 := Lib.hid hC2
      clear hpa hc c1 c2 hx hy hC2
      go_wp2_with (fail)
      refine (HPA.out _).mono ?_
      rintro e w5 ⟨rfl, G5⟩
      obtain ⟨e1, e2⟩ := HC2.out _ G5
      go_wp2
      go_roundw
      case rel => exact ⟨j + 1, by omega, by go_num, nxt hbel G5⟩
      case measure => simp [intOf]; omega
    · obtain rfl : j = l.length := by omega
      go_wp2
      go_ret
      exact ⟨rfl, hbel⟩

theorem points_live : pointsB [27] = [(1, 1), (1, 1), (-1, 1), (1, -1), (-1, -1)] := by decide +kernel
end Go.Proofs.YtkcpkfimmolkkaaDoor
