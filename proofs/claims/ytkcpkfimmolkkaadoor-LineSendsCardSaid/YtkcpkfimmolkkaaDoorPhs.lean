/- Joined: Ph1 Ph2 PtW Ph3 Ph4 PhQ Ph5 Laws07 PhK. -/
import Derived.Test.YtkcpkfimmolkkaaDoorPhCs
import Derived.WalkLawsBesides
import Derived.Laws.Externs
import Derived.Laws.BitsLemmas
import Derived.Test.YtkcpkfimmolkkaaDoorPtV
import Derived.Lib.SliceRun
import Derived.Test.YtkcpkfimmolkkaaDoorSame
/- Package phase: what Of, Parts (by math.Trunc) and Slice's side answer. -/
namespace Go.Proofs.YtkcpkfimmolkkaaDoor
open Go.RowKit
set_option maxRecDepth 20000

set_option maxHeartbeats 1000000 in
theorem of_any (p : Pt) (w : World) (h : Mid p) : Calls Tryd.prog 25 #[.int .i64 p.1, .int .i64 p.2] w (GivesZ w p) := by
  obtain ⟨a, b⟩ := p
  have H1 := Lib.hid (fl_int a (by unfold Mid at h; simp only at h; omega))
  have H2 := Lib.hid (fl_int b (by unfold Mid at h; simp only at h; omega))
  go_enter Tryd.func25, Tryd.ntmps25
  go_wp2
  go_ret
  exact ⟨_, _, rfl, H1.out, H2.out, Below.refl _ _⟩

/-- A call's end that tells a float. -/
def GivesFl (w : World) (n : Int) (e : Ending) (w' : World) : Prop := ∃ a, e = .returned (.float .f64 a) ∧ Fl a n ∧ w = w'
/-- what stands in for math.archTrunc, at a whole number -/
theorem fl_trunc {a : Nat} {n : Int} (ha : Fl a n) : ∃ r, (∀ (P : Program) (w : World), (Extern.MathFloor.toIntegral "math.archTrunc" .zero #[.float .f64 a]).run P w = .ok (.float .f64 r) w) ∧ Fl r n := by
  obtain ⟨h, s, i, e1, s1, s2⟩ := ha
  refine ⟨Ieee.double.write (.number s (n.natAbs * 2 ^ 0) (-((0 : Nat) : Int))), fun P w => ?_, fl_write s n 0 h s1 s2⟩
  have e0 : FloatKind.f64.decode a = .number s (n.natAbs * 2 ^ i) (-(i : Int)) := e1
  have e2 : (Ieee.Datum.number s (n.natAbs * 2 ^ i) (-(i : Int))).integral .zero = .number s (n.natAbs * 2 ^ 0) (-((0 : Nat) : Int)) := by
    unfold Ieee.Datum.integral
    simp only
    rw [show (-(i : Int)).toNat = 0 by omega, show (- -(i : Int)).toNat = i by omega, Nat.shiftLeft_zero, cut_pow]
    simp
  have e3 : Extern.MathFloor.toIntegral "math.archTrunc" .zero #[.float .f64 a] = pure (.float .f64 (FloatKind.f64.encode (.number s (n.natAbs * 2 ^ 0) (-((0 : Nat) : Int))))) := by
    conv => lhs; whnf
    rw [e0]
    simp only
    rw [e2]
  rw [e3]
  rfl
theorem Tryd.truncBody : (Tryd.prog.funcs[90]?).map (fun f => (f.name == "runtime.NumGoroutine", f.body.isNone, (Extern.findNext f).isNone)) = some (false, true, true) := by kernel_rfl
theorem Tryd.truncFind : ∃ fn, Tryd.prog.funcs[90]? = some fn ∧ Extern.find fn = some (Extern.MathFloor.toIntegral "math.archTrunc" .zero) := ⟨_, rfl, by kernel_rfl⟩
set_option maxHeartbeats 1000000 in
theorem trunc_any (a : Nat) (n : Int) (w : World) (ha : Fl a n) : Calls Tryd.prog 83 #[.float .f64 a] w (GivesFl w n) := by
  obtain ⟨r, hr, hf⟩ := fl_trunc ha
  have hd : ∀ W : World, (callFunc 90 #[.float .f64 a]).run Tryd.prog W = .ok (.value (.float .f64 r)) W := by
    intro W
    obtain ⟨fn, h1, h2⟩ := Tryd.truncFind
    have h3 := Tryd.truncBody
    rw [h1] at h3
    simp only [Option.map_some, Option.some.injEq, Prod.mk.injEq] at h3
    rw [run_callFunc_extern h1 h3.1 h3.2.1 (by simpa using h3.2.2) h2, hr]
    rfl
  have HF := Lib.hid hf
  clear ha hf hr
  go_enter Tryd.func83, Tryd.ntmps83
  go_wp2
  go_ret
  exact ⟨_, rfl, HF.out, rfl⟩

set_option maxHeartbeats 1000000 in
theorem whole_any (a : Nat) (n : Int) (w : World) (ha : Fl a n) (h1 : -1099511627776 ≤ n) (h2 : n ≤ 1099511627776) :
    Calls Tryd.prog 66 #[.float .f64 a] w fun e w' => e = .returned (.bool true) ∧ w = w' := by
  have e1 := fl_ge ha fl_lo
  rw [decide_eq_true h1] at e1
  have e2 := fl_le ha fl_hi
  rw [decide_eq_true h2] at e2
  have HT := Lib.hid (fun W => trunc_any a n W ha)
  have HE := Lib.hid (fun r (hr : Fl r n) => (fl_eq ha hr).trans (decide_eq_true rfl))
  clear ha h1 h2
  go_enter Tryd.func66, Tryd.ntmps66
  go_wp2_with (fail)
  refine (HT.out _).mono ?_
  rintro e w1 ⟨r, rfl, f1, rfl⟩
  have e3 := HE.out r f1
  clear f1
  go_wp2
  go_ret
  exact ⟨rfl, rfl⟩

set_option maxHeartbeats 1000000 in
theorem parts_any (a b : Nat) (p : Pt) (w : World) (ha : Fl a p.1) (hb : Fl b p.2) (h : Mid p) :
    Calls Tryd.prog 37 #[.complex .f64 a b] w fun e w' => e = .returned (.tuple #[.int .i64 p.1, .int .i64 p.2, .bool true]) ∧ Below w.heap.size w w' := by
  have H1 := Lib.hid (fun W => whole_any a p.1 W ha h.1 h.2.1)
  have H2 := Lib.hid (fun W => whole_any b p.2 W hb h.2.2.1 h.2.2.2)
  have e3 := fun W => run_convert_float_int (P := Tryd.prog) W 77 3 .f64 .i64 a p.1 (by kernel_rfl) (by kernel_rfl) (fl_toInt ha)
  have e4 := fun W => run_convert_float_int (P := Tryd.prog) W 77 3 .f64 .i64 b p.2 (by kernel_rfl) (by kernel_rfl) (fl_toInt hb)
  clear ha hb h
  obtain ⟨m, n⟩ := p
  go_enter Tryd.func37, Tryd.ntmps37
  go_wp2_with (fail)
  refine (H1.out _).mono ?_
  rintro e w1 ⟨rfl, rfl⟩
  go_wp2_with (fail)
  refine (H2.out _).mono ?_
  rintro e w1 ⟨rfl, rfl⟩
  go_wp2
  go_ret3
  exact ⟨rfl, Below.refl _ _⟩

set_option maxHeartbeats 1000000 in
theorem side_any (a : Nat) (n : Int) (w : World) (ha : Fl a n) :
    Calls Tryd.prog 84 #[.float .f64 a] w (GivesFl w (if 0 ≤ n then 1 else -1)) := by
  have e1 := fl_ge ha fl_zero
  clear ha
  by_cases h : 0 ≤ n
  · rw [decide_eq_true h] at e1
    rw [if_pos h]
    go_enter Tryd.func84, Tryd.ntmps84
    go_wp2
    go_ret
    exact ⟨_, rfl, fl_one, rfl⟩
  · rw [decide_eq_false h] at e1
    rw [if_neg h]
    go_enter Tryd.func84, Tryd.ntmps84
    go_wp2
    go_ret
    exact ⟨_, rfl, fl_minus, rfl⟩

end Go.Proofs.YtkcpkfimmolkkaaDoor

/- Package phase: one point turned, in a loop of k & 3 rounds. -/
namespace Go.Proofs.YtkcpkfimmolkkaaDoor
open Go.RowKit
set_option maxRecDepth 20000

theorem i64_and3 (n : Int) : bits .and .i64 n 3 = n % 4 := by
  have h3 : (BitVec.ofInt 64 3).toNat = 2 ^ 2 - 1 := by decide
  have key : (BitVec.ofInt 64 n &&& BitVec.ofInt 64 3).toNat = (n % ((2 ^ 64 : Nat) : Int)).toNat % 2 ^ 2 := by
    rw [BitVec.toNat_and, BitVec.toNat_ofInt, h3, Nat.and_two_pow_sub_one_eq_mod]
  show IntKind.i64.wrap ((BitVec.ofInt 64 n &&& BitVec.ofInt 64 3).toNat : Nat) = n % 4
  rw [key, IntKind.wrap_i64]
  omega
theorem rotN_snoc (n : Nat) (p : Pt) : rotN (n + 1) p = (-(rotN n p).2, (rotN n p).1) := rotN_add n 1 p

/-- a call's end that tells a complex number, nothing else changed -/
def GivesY (w : World) (p : Pt) (e : Ending) (w' : World) : Prop := ∃ a b, e = .returned (.complex .f64 a b) ∧ Fl a p.1 ∧ Fl b p.2 ∧ w = w'
set_option maxHeartbeats 2000000 in
theorem turned_any (a b : Nat) (p : Pt) (k : Int) (w : World) (ha : Fl a p.1) (hb : Fl b p.2) :
    Calls Tryd.prog 49 #[.complex .f64 a b, .int .i64 k] w (GivesY w (rotK k p)) := by
  have hand := i64_and3 k
  have hr := rest4_lt k
  have hc := rest4_cast k
  unfold rotK
  rw [← hc] at hand
  clear hc
  generalize rest4 k = r at *
  have H0 := Lib.hid (And.intro ha hb)
  clear ha hb
  go_enter Tryd.func49, Tryd.ntmps49
  go_wp2_with (fail)
  go_loopw [0, 7] (fun z i wr => ∃ j x y : Nat, j ≤ r ∧ z = .complex .f64 x y ∧ i = .int .i64 (j : Int) ∧ Hid (Fl x (rotN j p).1 ∧ Fl y (rotN j p).2) ∧ w = wr) (fun _ i _ => r - (intOf i).toNat)
  case atStart => exact ⟨0, a, b, Nat.zero_le _, rfl, rfl, H0.out, rfl⟩
  case round =>
    obtain ⟨j, x, y, hj, rfl, rfl, HW, rfl⟩ := hrel
    by_cases hlt : j < r
    · have d : decide ((j : Int) < (r : Int)) = true := by simp; omega
      have hw := HW.out
      have hsm := hw.2.small
      obtain ⟨z, e1, f1⟩ := fl_sub fl_zero hw.2 (by omega)
      rw [Int.zero_sub] at f1
      have e2 := fun W => run_float_arith (P := Tryd.prog) W .sub 77 .f64 0 y z e1
      have hrot := rotN_snoc j p
      have HN : Hid (Fl z (rotN (j + 1) p).1 ∧ Fl x (rotN (j + 1) p).2) := by
        show _ ∧ _
        rw [hrot]
        exact ⟨f1, hw.1⟩
      clear hw HW hsm hrot f1 e1
      go_wp2
      go_roundw
      case rel => exact ⟨j + 1, z, x, by omega, rfl, by go_num, HN.out, trivial⟩
      case measure => simp [intOf]; omega
    · obtain rfl : j = r := by omega
      have d : decide ((j : Int) < (j : Int)) = false := by simp
      go_wp2
      go_ret
      exact ⟨_, _, rfl, HW.out.1, HW.out.2, rfl⟩
end Go.Proofs.YtkcpkfimmolkkaaDoor

/- Points in memory, more: a place of the call's own row stored; a whole slice of points appended to it. Nothing of the program's own functions is in here. -/
namespace Go.Proofs.YtkcpkfimmolkkaaDoor
open Go.RowKit
set_option maxRecDepth 20000

theorem Cvs.set {vs : List Value} {l : List Pt} (h : Cvs vs l) (j : Nat) {a b : Nat} {p : Pt} (ha : Fl a p.1) (hb : Fl b p.2) : Cvs (vs.set j (.complex .f64 a b)) (l.set j p) := by
  refine ⟨by simpa using h.1, fun i hi hi' => ?_⟩
  by_cases e : j = i
  · subst e
    exact ⟨a, b, by simp, by simpa using ha, by simpa using hb⟩
  · obtain ⟨x, y, h1, h2, h3⟩ := h.2 i (by simpa using hi) (by simpa using hi')
    exact ⟨x, y, by rw [List.getElem_set_ne e]; exact h1, by rw [List.getElem_set_ne e]; exact h2, by rw [List.getElem_set_ne e]; exact h3⟩
theorem Cvs.append {vs us : List Value} {l m : List Pt} (h : Cvs vs l) (k : Cvs us m) : Cvs (vs ++ us) (l ++ m) := by
  have h1 := h.1
  have k1 := k.1
  refine ⟨by simp; omega, fun i hi hi' => ?_⟩
  by_cases e : i < vs.length
  · obtain ⟨x, y, e1, e2, e3⟩ := h.2 i e (by omega)
    exact ⟨x, y, by rw [List.getElem_append_left e]; exact e1, by rw [List.getElem_append_left (by omega)]; exact e2, by rw [List.getElem_append_left (by omega)]; exact e3⟩
  · simp at hi
    obtain ⟨x, y, e1, e2, e3⟩ := k.2 (i - vs.length) (by omega) (by omega)
    refine ⟨x, y, by rw [List.getElem_append_right (by omega)]; exact e1, ?_, ?_⟩
    · rw [List.getElem_append_right (by omega)]; simpa [h1] using e2
    · rw [List.getElem_append_right (by omega)]; simpa [h1] using e3
section
variable {w : World} {B g n c : Nat} {l : List Pt}
theorem OwnC.num {A : Option Addr} (h : OwnC w B (.slice A n c) l) : l.length = n := by
  obtain ⟨vs, h1, h2⟩ := h
  rcases h1.2 with ⟨hv, hn⟩ | ⟨g', cap, cur, hv, hg, hh, hnc, hcm, hcs, ht⟩
  · injection hv with _ h3; omega
  · injection hv with _ h3; omega
theorem OwnC.stored (h : OwnC w B (.slice (some ⟨g, 0, none⟩) n c) l) (j : Nat) {a b : Nat} {p : Pt} (ha : Fl a p.1) (hb : Fl b p.2) :
    OwnC (w.setCell ⟨g, j, none⟩ (.complex .f64 a b)) B (.slice (some ⟨g, 0, none⟩) n c) (l.set j p) ∧ w.grownBy (w.setCell ⟨g, j, none⟩ (.complex .f64 a b)) (some g) := by
  have hn := h.num
  obtain ⟨vs, h1, h2⟩ := h
  rw [hn] at h1
  obtain ⟨k1, k2⟩ := h1.stored j (.complex .f64 a b)
  exact ⟨⟨_, by rw [List.length_set, hn]; exact k1, h2.set j ha hb⟩, k2⟩
theorem OwnC.cell (h : OwnC w B (.slice (some ⟨g, 0, none⟩) n c) l) (j : Nat) (hj : j < l.length) : ∃ x y, w.cell? ⟨g, j, none⟩ = some (.complex .f64 x y) ∧ w.frozen? ⟨g, j, none⟩ = false ∧ Fl x l[j].1 ∧ Fl y l[j].2 := by
  have hn := h.num
  obtain ⟨vs, h1, h2⟩ := h
  rw [hn] at h1
  have h3 := h2.1
  obtain ⟨x, y, e1, e2, e3⟩ := h2.2 j (by omega) hj
  refine ⟨x, y, ?_, h1.frozenAt j, e2, e3⟩
  rw [h1.cellAt j (by omega), List.getElem?_eq_getElem (by omega), e1]
theorem OwnC.form {v : Value} (h : OwnC w B v l) (hl : 0 < l.length) : ∃ g c, v = .slice (some ⟨g, 0, none⟩) l.length c ∧ B ≤ g ∧ g < w.heap.size ∧ l.length ≤ c ∧ c ≤ 9223372036854775807 := by
  have hlt := h.lt
  obtain ⟨vs, h1, h2⟩ := h
  rcases h1.2 with ⟨hv, hn⟩ | ⟨g', cap, cur, hv, hg, hh, hnc, hcm, hcs, ht⟩
  · omega
  · exact ⟨g', cap, hv, hg, lt_of_block hh, hnc, hcm⟩
end
theorem OwnC.empty (w : World) : OwnC (w.alloc (.cells #[] 54)) w.heap.size (.slice (some ⟨w.heap.size, 0, none⟩) 0 0) [] :=
  ⟨[], World.ownsRow_made w #[] 0 (Nat.le_refl _) (Nat.zero_le _) rfl, Cvs.nil⟩
theorem run_append_cxs (w : World) (B : Nat) (v : Value) (l : List Pt) (hown : OwnC w B v l) (A : Option Addr) (m c : Nat) (r : List Pt) (hR : Cs w A m c r) (hlen : l.length + m ≤ 1099511627776) (hbase : B ≤ w.heap.size) (ty : TypeId) :
    ∃ v' w', (Builtin.append_ #[24, 24] ty #[v, .slice A m c]).run Tryd.prog w = .ok v' w' ∧ OwnC w' B v' (l ++ r) ∧ w.grownBy w' v.ownBlock ∧ (v'.ownBlock = v.ownBlock ∨ v'.ownBlock = some w.heap.size) := by
  obtain ⟨i0, hi, hz0, hz1, hz2⟩ := info_parts Tryd.infoC
  have hl := hR.len
  rcases Nat.eq_zero_or_pos m with h0 | h0
  · subst h0
    have : r = [] := List.eq_nil_of_length_eq_zero hl
    subst this
    rcases A with _ | ad
    · refine ⟨v, w, ?_, by simpa using hown, World.grownBy.refl w _, .inl rfl⟩
      obtain ⟨vs, hown, hvs⟩ := hown
      rcases hown.2 with ⟨rfl, hn⟩ | ⟨g, cap, cur, rfl, _, _, hnc, _⟩
      · simp [Builtin.append_, run_underlying Tryd.underlying24, sizeOf, typeInfo, hi, Builtin.lenOf, Builtin.firstCells]
      · simp [Builtin.append_, run_underlying Tryd.underlying24, sizeOf, typeInfo, hi, Builtin.lenOf, Builtin.firstCells, hnc, storeCells]
    · obtain ⟨vs, hown, hvs⟩ := hown
      obtain ⟨v', w', hrun, h2, h3, _, h5⟩ := run_append_own_at (P := Tryd.prog) w B 24 ty 54 i0 (.complex .f64 0 0) 1 16 Tryd.underlying24 hi hz0 hz1 hz2 rfl (by decide) v l.length vs hown ad 0 c [] rfl (by simp) (by simp) (by unfold maxLen; omega) (by omega) hbase
      exact ⟨v', w', hrun, ⟨vs, by simpa using h2, by simpa using hvs⟩, h3, h5⟩
  · obtain ⟨b, o, us, rfl, hb, hus, hc⟩ := hR.2.2.2 h0
    obtain ⟨vs, hown, hvs⟩ := hown
    have hul := hus.1
    have hcells : ∀ j u, us[j]? = some u → w.cell? ((⟨b, o, none⟩ : Addr).add j) = some u := by
      intro j u hu
      obtain ⟨hj, hu⟩ := List.getElem?_eq_some_iff.1 hu
      have := hc j hj
      rw [hu] at this
      rcases Nat.eq_zero_or_pos j with h | h
      · subst h; simpa [Addr.add] using this
      · rw [Addr.add, if_neg (by simpa using Nat.pos_iff_ne_zero.1 h)]
        simpa using this
    obtain ⟨v', w', hrun, h2, h3, _, h5⟩ := run_append_own_at (P := Tryd.prog) w B 24 ty 54 i0 (.complex .f64 0 0) 1 16 Tryd.underlying24 hi hz0 hz1 hz2 rfl (by decide) v l.length vs hown _ m c us (by omega) hcells hus.one (by unfold maxLen; omega) (by omega) hbase
    refine ⟨v', w', hrun, ⟨vs ++ us, ?_, hvs.append hus⟩, h3, h5⟩
    rw [List.length_append, hl]
    exact h2
/-- 'append(s, x...)', s the call's own, x whatever points -/
theorem app_cxs {ops : Array Oper} {rest : List Oper} {o : Oper} {a : Act} {Q : Exit → Act → World → Prop} (w : World) (hgd : o.guard = none) (s x : Operand)
    (ho : o.op = .call { callee := .builtin .append, args := #[s, x], argTypes := #[24, 24] })
    (B : Nat) (v : Value) (l : List Pt) (hs : a.eval s = v) (hown : OwnC w B v l) (A : Option Addr) (m c : Nat) (r : List Pt) (hx : a.eval x = .slice A m c) (hR : Cs w A m c r) (hlen : l.length + m ≤ 1099511627776) (hbase : B ≤ w.heap.size)
    (h : ∀ v' w', OwnC w' B v' (l ++ r) → w.grownBy w' v.ownBlock → (v'.ownBlock = v.ownBlock ∨ v'.ownBlock = some w.heap.size) → wpList Tryd.prog ops Q rest (a.put o.dst v') w') : wpList Tryd.prog ops Q (o :: rest) a w := by
  refine wpList_plain hgd fun K hK => ?_
  obtain ⟨v', w', hrun, h2, h3, h4⟩ := run_append_cxs w B v l hown A m c r hR hlen hbase o.type
  unfold Oper.wp execOp
  simp only [ho, resolve, invoke, builtin, Sem.run_bind, Sem.run_pure, Result.andThen_ok, List.map_toArray, List.map_cons, List.map_nil, hs, hx, hrun]
  exact hK _ _ (h v' w' h2 h3 h4)
end Go.Proofs.YtkcpkfimmolkkaaDoor

/- Package phase: slices.Clone of points; Turn. -/
namespace Go.Proofs.YtkcpkfimmolkkaaDoor
open Go.RowKit
set_option maxRecDepth 20000

set_option maxHeartbeats 1000000 in
theorem pclone_any (A : Option Addr) (n c : Nat) (l : List Pt) (w : World) (hP : Cs w A n c l) (hn : n ≤ 1000000) :
    Calls Tryd.prog 48 #[.slice A n c] w (GivesC w l) := by
  have q22 : ∀ (w : World) (a : Option Addr) (n c n' c' : Nat), (binOp .eql 24 (.slice a n c) (.slice none n' c')).run Tryd.prog w = .ok (.bool a.isNone) w := fun w a n c n' c' => Lib.run_eql_slice_nil w _ _ a n c n' c' Tryd.underlying24
  have hlen := Lib.hid hP.len
  rcases A with _ | ad
  · have h0 : n = 0 := by
      rcases Nat.eq_zero_or_pos n with h | h
      · exact h
      · obtain ⟨b, o, x, y, e, _⟩ := hP.at_ 0 h
        cases e
    have hl : l = [] := List.eq_nil_of_length_eq_zero (by rw [hP.len, h0])
    subst h0
    subst hl
    clear hP
    go_enter Tryd.func48, Tryd.ntmps48
    go_wp2
    go_ret
    exact ⟨_, rfl, OwnC.nil _ _, Below.refl _ _⟩
  · have HB := Lib.hid (hP.below ((Below.refl _ _).alloc (Nat.le_refl _) (.cells #[] 54)))
    have HE := Lib.hid (OwnC.empty w)
    clear hP
    go_enter Tryd.func48, Tryd.ntmps48
    go_wp2_with ((with_reducible refine app_cxs _ rfl (.tmp 5) (.tmp 6) rfl w.heap.size (.slice (some ⟨w.heap.size, 0, none⟩) 0 0) [] rfl ?_ (some ad) n c l rfl ?_ ?_ ?_ ?_); (exact HE.out); (exact HB.out); (simp; omega); (simp); intro v1 w1 hown1 hgrow1 hwhere1)
    go_ret
    simp only [List.nil_append] at hown1
    exact ⟨_, rfl, hown1, ((Below.refl _ w).alloc (Nat.le_refl _) _).grown hgrow1 (by simp) (by intro k hk; simp [Value.ownBlock] at hk; omega)⟩

set_option maxHeartbeats 2000000 in
theorem turn_any (A : Option Addr) (n c : Nat) (l : List Pt) (k : Int) (w : World) (hP : Cs w A n c l) (hn : n ≤ 1000000) :
    Calls Tryd.prog 19 #[.slice A n c, .int .i64 k] w (GivesC w (turnB l k)) := by
  have hl := hP.len
  have HCL := Lib.hid (pclone_any A n c l w hP hn)
  clear hP
  by_cases h0 : l.length = 0
  · have hl0 : l = [] := List.eq_nil_of_length_eq_zero h0
    subst hl0
    go_enter Tryd.func19, Tryd.ntmps19
    go_wp2_with (fail)
    refine HCL.out.mono ?_
    rintro e w1 ⟨v, rfl, hown, T1⟩
    obtain ⟨A1, c1, hv, -⟩ := hown.shape
    obtain rfl : v = .slice A1 0 c1 := hv
    have HON := Lib.hid hown
    clear hown
    go_wp2_with (fail)
    go_loopw [12] (fun i wr => i = .int .i64 0 ∧ w1 = wr) (fun _ _ => 0)
    case atStart => exact ⟨rfl, rfl⟩
    case round =>
      obtain ⟨rfl, rfl⟩ := hrel
      go_wp2
      go_ret
      exact ⟨_, rfl, HON.out, T1⟩
  · have hpos : 0 < l.length := by omega
    subst hl
    go_enter Tryd.func19, Tryd.ntmps19
    go_wp2_with (fail)
    refine HCL.out.mono ?_
    rintro e w1 ⟨v, rfl, hown, T1⟩
    obtain ⟨g, c1, rfl, hg1, hg2, hc1, hc2⟩ := hown.form hpos
    have HON := Lib.hid hown
    clear hown
    go_wp2_with (fail)
    go_loopw [12] (fun i wr => ∃ j : Nat, j ≤ l.length ∧ i = .int .i64 (j : Int) ∧ OwnC wr w.heap.size (.slice (some ⟨g, 0, none⟩) l.length c1) (turnB (l.take j) k ++ l.drop j) ∧ Below w.heap.size w wr) (fun i _ => l.length - (intOf i).toNat)
    case atStart => exact ⟨0, Nat.zero_le _, rfl, HON.out, T1⟩
    case round =>
      obtain ⟨j, hj, rfl, hown, hbel⟩ := hrel
      by_cases hlt : j < l.length
      · have d : decide ((j : Int) < (l.length : Int)) = true := by simp; omega
        have htl : (turnB (l.take j) k).length = j := by unfold turnB; simp; omega
        have hcl : (turnB (l.take j) k ++ l.drop j).length = l.length := by simp [htl]; omega
        obtain ⟨x, y, hc, hf, hx, hy⟩ := hown.cell j (by omega)
        have hat : (turnB (l.take j) k ++ l.drop j)[j]'(by omega) = l[j] := by
          rw [List.getElem_append_right (by omega)]
          simp [htl]
        rw [hat] at hx hy
        have hst : turnB (l.take (j + 1)) k ++ l.drop (j + 1) = (turnB (l.take j) k ++ l.drop j).set j (rotK k l[j]) := by
          rw [List.set_append_right _ _ (by omega), htl, Nat.sub_self, List.drop_eq_getElem_cons hlt, List.set_cons_zero, List.take_succ_eq_append_getElem hlt]
          unfold turnB
          rw [List.map_append, List.append_assoc]
          rfl
        have hTM := turned_any x y l[j] k wr hx hy
        clear hx hy hat htl hcl
        generalize rotK k l[j] = q at *
        generalize turnB (l.take j) k ++ l.drop j = cur at *
        have HTM := Lib.hid hTM
        have HST := Lib.hid hst
        have HOW := Lib.hid hown
        clear hTM hst hown
        go_wp2_with (fail)
        refine HTM.out.mono ?_
        rintro e w2 ⟨c3, d3, rfl, f1, f2, rfl⟩
        have HS := Lib.hid (HOW.out.stored j f1 f2)
        have s1 := fun (W : World) (m : Mode) => run_store Tryd.prog W ⟨g, j, none⟩ (.complex .f64 c3 d3) m rfl
        clear f1 f2
        go_wp2
        go_roundw
        case rel =>
          refine ⟨j + 1, by omega, by go_num, ?_, ?_⟩
          · rw [HST.out]
            exact HS.out.1
          · exact hbel.setCell hg1 _
        case measure => simp [intOf]; omega
      · obtain rfl : j = l.length := by omega
        have d : decide ((l.length : Int) < (l.length : Int)) = false := by simp
        rw [List.take_length, List.drop_length, List.append_nil] at hown
        have HOW := Lib.hid hown
        clear hown
        go_wp2
        go_ret
        exact ⟨_, rfl, HOW.out, hbel⟩
end Go.Proofs.YtkcpkfimmolkkaaDoor

/- Package phase: Points. -/
namespace Go.Proofs.YtkcpkfimmolkkaaDoor
open Go.RowKit
set_option maxRecDepth 20000

theorem rot_shift (x : UInt8) (t : Nat) (p : Pt) (m : Nat) (hm : m = x.toNat / 4 ^ (3 - t)) : rotK (m : Int) p = rotN (twoB x t) p := by
  unfold rotK
  rw [rest4_nat, hm]
  rfl
set_option maxHeartbeats 4000000 in
theorem points_any (A : Option Addr) (n c : Nat) (b : List UInt8) (w : World) (hB : Bys w A n c b) :
    Calls Tryd.prog 30 #[.slice A n c] w (GivesC w (pointsB b)) := by
  by_cases hbig : 4096 < n
  · have d : decide ((4096 : Int) < (n : Int)) = true := by simp; omega
    have HP : Hid (pointsB b = []) := by show _ = _; unfold pointsB; rw [if_pos (by rw [hB.len]; exact hbig)]
    clear hB hbig
    go_enter Tryd.func30, Tryd.ntmps30
    go_wp2
    go_ret
    exact ⟨_, rfl, by rw [HP.out]; exact OwnC.nil _ _, Below.refl _ _⟩
  · have d : decide ((4096 : Int) < (n : Int)) = false := by simp; omega
    have HP : Hid (pointsB b = wP (stepsB b)) := by show _ = _; unfold pointsB wP; rw [if_neg (by rw [hB.len]; exact hbig)]
    obtain ⟨hl, hnc, hcm, hcell⟩ := hB
    unfold maxLen at hcm
    subst hl
    have hn : b.length ≤ 4096 := by omega
    have HC := Lib.hid hcell
    have HO := Lib.hid (of_any (1, 1) w ⟨by decide, by decide, by decide, by decide⟩)
    clear hcell hbig
    go_enter Tryd.func30, Tryd.ntmps30
    go_wp2_with (fail)
    refine HO.out.mono ?_
    rintro e w1 ⟨a1, b1, rfl, f1, f2, T1⟩
    have z1 := T1.size
    have HI := Lib.hid (And.intro f1 (And.intro f2 (And.intro (OwnC.one w1 w.heap.size a1 b1 (1, 1) f1 f2 z1) (T1.alloc z1 (.cells #[.complex .f64 a1 b1] 54)))))
    clear f1 f2 T1
    go_wp2_with (fail)
    go_loopw [3, 4, 16] (fun z v i wr => ∃ k x y : Nat, k ≤ b.length ∧ z = .complex .f64 x y ∧ i = .int .i64 (k : Int) ∧ Hid (OwnC wr w.heap.size v (wP (stepsB (b.take k))) ∧ Fl x (endP (1, 1) (stepsB (b.take k))).1 ∧ Fl y (endP (1, 1) (stepsB (b.take k))).2 ∧ Below w.heap.size w wr)) (fun _ _ i _ => b.length - (intOf i).toNat)
    case atStart => exact ⟨0, a1, b1, Nat.zero_le _, rfl, rfl, HI.out.2.2.1, HI.out.1, HI.out.2.1, HI.out.2.2.2⟩
    case round =>
      obtain ⟨k, x, y, hk, rfl, rfl, HW⟩ := hrel
      by_cases hlt : k < b.length
      · obtain ⟨g, o, rfl, hg, hc⟩ := HC.out (by omega)
        have hc1 := (HW.out.2.2.2.cell (p := ⟨g, o + k, none⟩) hg).trans (hc k hlt)
        have hst := stepsB_take b k hlt
        rw [← twos_all] at hst
        have hsl : (stepsB (b.take k)).length ≤ 16384 := by rw [stepsB_len]; simp; omega
        generalize b[k] = q at *
        have HST := Lib.hid hst
        clear hc hst
        generalize stepsB (b.take k) = s at *
        have hq := q.toNat_lt
        go_wp2_with (fail)
        go_loopw [3, 4, 7] (fun z v i wr => ∃ t x y : Nat, t ≤ 4 ∧ z = .complex .f64 x y ∧ i = .int .i64 (6 - 2 * (t : Int)) ∧ Hid (OwnC wr w.heap.size v (wP (s ++ (List.range t).map (twoB q))) ∧ Fl x (endP (1, 1) (s ++ (List.range t).map (twoB q))).1 ∧ Fl y (endP (1, 1) (s ++ (List.range t).map (twoB q))).2 ∧ Below w.heap.size w wr)) (fun _ _ i _ => (intOf i + 2).toNat)
        case atStart => exact ⟨0, x, y, by decide, rfl, rfl, by show _ ∧ _; simpa using HW.out⟩
        case round =>
          obtain ⟨t, x2, y2, ht, rfl, rfl, HW2⟩ := hrel
          by_cases hlt2 : t < 4
          · have h4 : t = 0 ∨ t = 1 ∨ t = 2 ∨ t = 3 := by omega
            have ht2 : s ++ (List.range (t + 1)).map (twoB q) = (s ++ (List.range t).map (twoB q)) ++ [twoB q t] := by rw [twos_succ, ← List.append_assoc]
            have hw2 := HW2.out
            have htl : (s ++ (List.range t).map (twoB q)).length ≤ 20000 := by simp; omega
            generalize hs' : s ++ (List.range t).map (twoB q) = s' at *
            clear hs'
            have hw := wP_snoc s' (twoB q t)
            have hwl := wP_len s'
            have he : endP (1, 1) (s' ++ [twoB q t]) = rotN (twoB q t) (endP (1, 1) s') := endP_snoc _ _ _
            rw [← ht2] at hw he
            have hsh := fun m hm => rot_shift q t (endP (1, 1) s') m hm
            have htm := fun (m : Nat) (hm : m = q.toNat / 4 ^ (3 - t)) => turned_any x2 y2 (endP (1, 1) s') (m : Int) wr hw2.2.1 hw2.2.2.1
            generalize rotN (twoB q t) (endP (1, 1) s') = r at *
            generalize endP (1, 1) s' = z at *
            generalize wP s' = cur at *
            have htm : ∀ m : Nat, m = q.toNat / 4 ^ (3 - t) → Calls Tryd.prog 49 #[.complex .f64 x2 y2, .int .i64 (m : Int)] wr (GivesY wr r) := by
              intro m hm
              have := htm m hm
              rw [hsh m hm] at this
              exact this
            have HTM := Lib.hid htm
            have HO2 := Lib.hid hw2.1
            have hbel := hw2.2.2.2
            have HE := Lib.hid (And.intro hw he)
            have hz := hbel.size
            clear hw2 hsh htm hw he HW2 ht2
            obtain ⟨T, hT⟩ : ∃ T, T = t + 1 := ⟨_, rfl⟩
            rw [← hT] at HE
            rcases h4 with rfl | rfl | rfl | rfl
            · have HT0 : Hid (Calls Tryd.prog 49 #[.complex .f64 x2 y2, .int .i64 ((q.toNat : Int) / 64)] wr (GivesY wr r)) := HTM.out (q.toNat / 64) rfl
              clear HTM
              go_wp2_with (fail)
              refine HT0.out.mono ?_
              clear HT0
              rintro e w2 ⟨c3, d3, rfl, g1, g2, rfl⟩
              have G1 := Lib.hid (And.intro g1 g2)
              clear g1 g2
              go_wp2_with ((refine app_cx _ rfl (.tmp 30) (.tmp 32) rfl w.heap.size u4 cur rfl ?_ wr.heap.size c3 d3 r rfl ?_ G1.out.1 G1.out.2 ?_ ?_ ?_); (exact HO2.out.below ((Below.refl _ _).alloc (Nat.le_refl _) _)); (exact heap_alloc_new wr _); (omega); (simp; omega); intro v3 w3 hown3 hgrow3 hwhere3; have HO3 := Lib.hid (And.intro hown3 hgrow3); clear hown3 hgrow3 hwhere3)
              go_roundw
              case rel =>
                refine ⟨T, c3, d3, by omega, rfl, by simp [hT], ?_, ?_, ?_, ?_⟩
                · rw [HE.out.1]
                  exact HO3.out.1
                · rw [HE.out.2]
                  exact G1.out.1
                · rw [HE.out.2]
                  exact G1.out.2
                · exact (hbel.alloc hz _).grown HO3.out.2 (by simp; omega) (fun k' hk => (HO2.out.lt k' hk).1)
              case measure => simp [intOf]
            · have HT0 : Hid (Calls Tryd.prog 49 #[.complex .f64 x2 y2, .int .i64 ((q.toNat : Int) / 16)] wr (GivesY wr r)) := HTM.out (q.toNat / 16) rfl
              clear HTM
              go_wp2_with (fail)
              refine HT0.out.mono ?_
              clear HT0
              rintro e w2 ⟨c3, d3, rfl, g1, g2, rfl⟩
              have G1 := Lib.hid (And.intro g1 g2)
              clear g1 g2
              go_wp2_with ((refine app_cx _ rfl (.tmp 30) (.tmp 32) rfl w.heap.size u4 cur rfl ?_ wr.heap.size c3 d3 r rfl ?_ G1.out.1 G1.out.2 ?_ ?_ ?_); (exact HO2.out.below ((Below.refl _ _).alloc (Nat.le_refl _) _)); (exact heap_alloc_new wr _); (omega); (simp; omega); intro v3 w3 hown3 hgrow3 hwhere3; have HO3 := Lib.hid (And.intro hown3 hgrow3); clear hown3 hgrow3 hwhere3)
              go_roundw
              case rel =>
                refine ⟨T, c3, d3, by omega, rfl, by simp [hT], ?_, ?_, ?_, ?_⟩
                · rw [HE.out.1]
                  exact HO3.out.1
                · rw [HE.out.2]
                  exact G1.out.1
                · rw [HE.out.2]
                  exact G1.out.2
                · exact (hbel.alloc hz _).grown HO3.out.2 (by simp; omega) (fun k' hk => (HO2.out.lt k' hk).1)
              case measure => simp [intOf]
            · have HT0 : Hid (Calls Tryd.prog 49 #[.complex .f64 x2 y2, .int .i64 ((q.toNat : Int) / 4)] wr (GivesY wr r)) := HTM.out (q.toNat / 4) rfl
              clear HTM
              go_wp2_with (fail)
              refine HT0.out.mono ?_
              clear HT0
              rintro e w2 ⟨c3, d3, rfl, g1, g2, rfl⟩
              have G1 := Lib.hid (And.intro g1 g2)
              clear g1 g2
              go_wp2_with ((refine app_cx _ rfl (.tmp 30) (.tmp 32) rfl w.heap.size u4 cur rfl ?_ wr.heap.size c3 d3 r rfl ?_ G1.out.1 G1.out.2 ?_ ?_ ?_); (exact HO2.out.below ((Below.refl _ _).alloc (Nat.le_refl _) _)); (exact heap_alloc_new wr _); (omega); (simp; omega); intro v3 w3 hown3 hgrow3 hwhere3; have HO3 := Lib.hid (And.intro hown3 hgrow3); clear hown3 hgrow3 hwhere3)
              go_roundw
              case rel =>
                refine ⟨T, c3, d3, by omega, rfl, by simp [hT], ?_, ?_, ?_, ?_⟩
                · rw [HE.out.1]
                  exact HO3.out.1
                · rw [HE.out.2]
                  exact G1.out.1
                · rw [HE.out.2]
                  exact G1.out.2
                · exact (hbel.alloc hz _).grown HO3.out.2 (by simp; omega) (fun k' hk => (HO2.out.lt k' hk).1)
              case measure => simp [intOf]
            · have HT0 : Hid (Calls Tryd.prog 49 #[.complex .f64 x2 y2, .int .i64 (q.toNat : Int)] wr (GivesY wr r)) := HTM.out q.toNat (by rw [show 4 ^ (3 - 3) = 1 from rfl, Nat.div_one])
              clear HTM
              go_wp2_with (fail)
              refine HT0.out.mono ?_
              clear HT0
              rintro e w2 ⟨c3, d3, rfl, g1, g2, rfl⟩
              have G1 := Lib.hid (And.intro g1 g2)
              clear g1 g2
              go_wp2_with ((refine app_cx _ rfl (.tmp 30) (.tmp 32) rfl w.heap.size u4 cur rfl ?_ wr.heap.size c3 d3 r rfl ?_ G1.out.1 G1.out.2 ?_ ?_ ?_); (exact HO2.out.below ((Below.refl _ _).alloc (Nat.le_refl _) _)); (exact heap_alloc_new wr _); (omega); (simp; omega); intro v3 w3 hown3 hgrow3 hwhere3; have HO3 := Lib.hid (And.intro hown3 hgrow3); clear hown3 hgrow3 hwhere3)
              go_roundw
              case rel =>
                refine ⟨T, c3, d3, by omega, rfl, by simp [hT], ?_, ?_, ?_, ?_⟩
                · rw [HE.out.1]
                  exact HO3.out.1
                · rw [HE.out.2]
                  exact G1.out.1
                · rw [HE.out.2]
                  exact G1.out.2
                · exact (hbel.alloc hz _).grown HO3.out.2 (by simp; omega) (fun k' hk => (HO2.out.lt k' hk).1)
              case measure => simp [intOf]
          · obtain rfl : t = 4 := by omega
            have hw2 := HW2.out
            rw [← HST.out] at hw2
            have HF := Lib.hid hw2
            clear HW2 hw2
            go_wp2
            go_roundw
            case rel => exact ⟨k + 1, x2, y2, by omega, rfl, by go_num, HF.out⟩
            case measure => simp [intOf]; omega
      · obtain rfl : k = b.length := by omega
        have hw2 := HW.out
        rw [List.take_length, ← HP.out] at hw2
        have HF := Lib.hid hw2
        clear HW hw2
        go_wp2
        go_ret
        exact ⟨_, rfl, HF.out.1, HF.out.2.2.2⟩
end Go.Proofs.YtkcpkfimmolkkaaDoor

/- Package phase: of which kind a point is (a switch whose cases fall into one another). -/
namespace Go.Proofs.YtkcpkfimmolkkaaDoor
open Go.RowKit
set_option maxRecDepth 20000

set_option maxHeartbeats 2000000 in
theorem pkind_any (a b : Nat) (p : Pt) (w : World) (ha : Fl a p.1) (hb : Fl b p.2) :
    Calls Tryd.prog 86 #[.complex .f64 a b] w fun e w' => e = .returned (.tuple #[.int .i64 (if kindI p < 0 then 0 else kindI p), .bool (decide (0 ≤ kindI p))]) ∧ Below w.heap.size w w' := by
  obtain ⟨m, n⟩ := p
  simp only at ha hb
  have a1 := fl_eq ha fl_one
  have a2 := fl_eq ha fl_minus
  have b1 := fl_eq hb fl_one
  have b2 := fl_eq hb fl_minus
  clear ha hb
  generalize hz : (if kindI (m, n) < 0 then 0 else kindI (m, n)) = kz
  generalize ht : decide (0 ≤ kindI (m, n)) = kt
  have hk : ∀ (z : Int) (t : Bool), (if kindI (m, n) < 0 then 0 else kindI (m, n)) = z → decide (0 ≤ kindI (m, n)) = t → Hid (kz = z ∧ kt = t) := fun z t h1 h2 => ⟨hz.symm.trans h1, ht.symm.trans h2⟩
  clear hz ht
  by_cases hm1 : m = 1
  · subst hm1
    rw [decide_eq_true rfl] at a1
    rw [decide_eq_false (by decide)] at a2
    by_cases hn1 : n = 1
    · subst hn1
      rw [decide_eq_true rfl] at b1
      rw [decide_eq_false (by decide)] at b2
      have HF := hk 0 true (by decide +kernel) (by decide +kernel)
      clear hk
      go_enter Tryd.func86, Tryd.ntmps86
      go_wp2
      go_ret2
      exact ⟨by rw [HF.out.1, HF.out.2]; rfl, Below.refl _ _⟩
    · rw [decide_eq_false hn1] at b1
      by_cases hn2 : n = -1
      · subst hn2
        rw [decide_eq_true rfl] at b2
        have HF := hk 3 true (by decide +kernel) (by decide +kernel)
        clear hk
        go_enter Tryd.func86, Tryd.ntmps86
        go_wp2
        go_ret2
        exact ⟨by rw [HF.out.1, HF.out.2]; rfl, Below.refl _ _⟩
      · rw [decide_eq_false hn2] at b2
        have hki : kindI (1, n) = -1 := by simp [kindI, hn1, hn2]
        have HF := hk 0 false (by rw [hki]; rfl) (by rw [hki]; rfl)
        clear hk hki hn1 hn2
        go_enter Tryd.func86, Tryd.ntmps86
        go_wp2
        go_ret2
        exact ⟨by rw [HF.out.1, HF.out.2]; rfl, Below.refl _ _⟩
  · rw [decide_eq_false hm1] at a1
    by_cases hm2 : m = -1
    · subst hm2
      rw [decide_eq_true rfl] at a2
      by_cases hn1 : n = 1
      · subst hn1
        rw [decide_eq_true rfl] at b1
        rw [decide_eq_false (by decide)] at b2
        have HF := hk 1 true (by decide +kernel) (by decide +kernel)
        clear hk
        go_enter Tryd.func86, Tryd.ntmps86
        go_wp2
        go_ret2
        exact ⟨by rw [HF.out.1, HF.out.2]; rfl, Below.refl _ _⟩
      · rw [decide_eq_false hn1] at b1
        by_cases hn2 : n = -1
        · subst hn2
          rw [decide_eq_true rfl] at b2
          have HF := hk 2 true (by decide +kernel) (by decide +kernel)
          clear hk
          go_enter Tryd.func86, Tryd.ntmps86
          go_wp2
          go_ret2
          exact ⟨by rw [HF.out.1, HF.out.2]; rfl, Below.refl _ _⟩
        · rw [decide_eq_false hn2] at b2
          have hki : kindI (-1, n) = -1 := by simp [kindI, hn1, hn2]
          have HF := hk 0 false (by rw [hki]; rfl) (by rw [hki]; rfl)
          clear hk hki hn1 hn2
          go_enter Tryd.func86, Tryd.ntmps86
          go_wp2
          go_ret2
          exact ⟨by rw [HF.out.1, HF.out.2]; rfl, Below.refl _ _⟩
    · rw [decide_eq_false hm2] at a2
      have hki : kindI (m, n) = -1 := by simp [kindI, hm1, hm2]
      have HF := hk 0 false (by rw [hki]; rfl) (by rw [hki]; rfl)
      clear hk hki hm1 hm2 b1 b2
      go_enter Tryd.func86, Tryd.ntmps86
      go_wp2
      go_ret2
      exact ⟨by rw [HF.out.1, HF.out.2]; rfl, Below.refl _ _⟩
end Go.Proofs.YtkcpkfimmolkkaaDoor

/- Package phase: Bytes. -/
namespace Go.Proofs.YtkcpkfimmolkkaaDoor
open Go.RowKit
set_option maxRecDepth 20000

theorem kindI_step {a b : Pt} (h : kindI b < 0) : stepI a b < 0 := by unfold stepI; rw [if_pos (.inr h)]; decide
theorem kindI_step2 {a b : Pt} (ha : 0 ≤ kindI a) (hb : 0 ≤ kindI b) : stepI a b = (kindI b - kindI a) % 4 := by unfold stepI; rw [if_neg (by omega)]
theorem u8_or4 (a s : Nat) (h : a < 64) (hs : s < 4) : bits .or .u8 (4 * (a : Int)) (s : Int) = 4 * (a : Int) + (s : Int) := by
  have key : ∀ a : Fin 64, ∀ s : Fin 4, bits .or .u8 (4 * ((a.val : Nat) : Int)) ((s.val : Nat) : Int) = 4 * ((a.val : Nat) : Int) + ((s.val : Nat) : Int) := by decide +kernel
  exact key ⟨a, h⟩ ⟨s, hs⟩
/-- two bits more, as the code reckons them -/
theorem two_and (ka kb s : Nat) (hs : ((kb : Int) - (ka : Int)) % 4 = s) : bits .and .i64 ((kb : Int) - (ka : Int)) 3 = (s : Int) := (i64_and3 _).trans hs
theorem two_or (n s : Nat) (hn : n < 64) (hs : s < 4) : bits .or .u8 ((n : Int) * 4) (s : Int) = ((4 * n + s : Nat) : Int) := by
  rw [Int.mul_comm, u8_or4 _ _ hn hs]
  omega
/-- the row of bytes, as far as it is filled -/
def rowP (L : Nat) (s : Pk) : List UInt8 := (s.out ++ UInt8.ofNat s.n :: List.replicate L 0).take L
theorem rowP_len (L : Nat) (s : Pk) : (rowP L s).length = L := by unfold rowP; simp; omega
theorem rowP_start (L : Nat) : rowP L ⟨[], 0, 0⟩ = List.replicate L 0 := by
  unfold rowP
  have e : ([] : List UInt8) ++ UInt8.ofNat 0 :: List.replicate L 0 = List.replicate (L + 1) 0 := rfl
  rw [e, List.take_replicate, Nat.min_eq_left (by omega)]
theorem rowP_at (L : Nat) (s : Pk) (h : s.out.length < L) : (rowP L s)[s.out.length]'(by rw [rowP_len]; exact h) = UInt8.ofNat s.n := by
  unfold rowP
  simp
theorem rowP_end (L : Nat) (s : Pk) (h : s.out.length = L) : rowP L s = s.out := by
  unfold rowP
  rw [List.take_append_of_le_length (by omega), ← h, List.take_length]
theorem rowP_step (L : Nat) (s : Pk) (k : Int) (h : s.out.length < L) : rowP L (pkStep s k) = (rowP L s).set s.out.length (UInt8.ofNat (4 * s.n + k.toNat)) := by
  unfold rowP
  rw [← List.take_set, List.set_append_right _ _ (Nat.le_refl _), Nat.sub_self, List.set_cons_zero]
  unfold pkStep
  split
  · simp only
    obtain ⟨m, hm⟩ : ∃ m, L - s.out.length = m + 1 := ⟨L - s.out.length - 1, by omega⟩
    have e : UInt8.ofNat 0 :: List.replicate L (0 : UInt8) = List.replicate (L + 1) 0 := rfl
    rw [List.append_assoc, List.singleton_append, List.take_append, List.take_append, hm, List.take_succ_cons, List.take_succ_cons, e, List.take_replicate, List.take_replicate, Nat.min_eq_left (by omega), Nat.min_eq_left (by omega)]
  · rfl
theorem pk_cnt (l : List Int) : ∀ s : Pk, s.c < 4 → 4 * (l.foldl pkStep s).out.length + (l.foldl pkStep s).c = 4 * s.out.length + s.c + l.length := by
  induction l with
  | nil => intro s _; simp
  | cons k r ih =>
    intro s hc
    rw [List.foldl_cons]
    by_cases h : s.c = 3
    · have e : pkStep s k = ⟨s.out ++ [UInt8.ofNat (4 * s.n + k.toNat)], 0, 0⟩ := by unfold pkStep; rw [if_pos h]
      rw [ih _ (by rw [e]; show 0 < 4; omega), e]
      simp only [List.length_append, List.length_cons, List.length_nil]
      omega
    · have e : pkStep s k = ⟨s.out, 4 * s.n + k.toNat, s.c + 1⟩ := by unfold pkStep; rw [if_neg h]
      rw [ih _ (by rw [e]; show s.c + 1 < 4; omega), e]
      simp only [List.length_cons]
      omega
set_option maxHeartbeats 4000000 in
theorem bytes_any (A : Option Addr) (n c : Nat) (l : List Pt) (w : World) (hP : Cs w A n c l) :
    Calls Tryd.prog 72 #[.slice A n c] w (GivesT w (bytesB l)) := by
  obtain rfl := hP.len
  have hcm := hP.cap
  have hnc := hP.le
  have HC := Lib.hid (fun j => hP.at_ j)
  clear hP
  by_cases hbig : 16385 < l.length
  · have d : decide ((16385 : Int) < (l.length : Int)) = true := by simp; omega
    have HR := Lib.hid (bytesB_long hbig)
    clear hbig HC
    go_enter Tryd.func72, Tryd.ntmps72
    go_wp2
    go_ret2
    exact ⟨_, _, _, by rw [HR.out]; rfl, by rw [HR.out]; exact Bys.nil _, Below.refl _ _⟩
  · have d : decide ((16385 : Int) < (l.length : Int)) = false := by simp; omega
    by_cases hm : l.length % 4 = 1
    · have e1 : (((l.length : Int) % 4) != 1) = false := by simp; omega
      have h0l : 0 < l.length := by omega
      obtain ⟨g, o, x, y, rfl, hg, hk', hc, hx, hy⟩ := HC.out 0 h0l
      simp only [Nat.add_zero] at hc
      have hg0 : l.getD 0 (0, 0) = l[0]'h0l := by simp [List.getD_eq_getElem?_getD, List.getElem?_eq_getElem (show 0 < l.length by omega)]
      have HK := Lib.hid (fun W => pkind_any x y (l[0]'h0l) W hx hy)
      have hr := kindI_range (l[0]'h0l)
      clear hx hy
      by_cases hk : kindI (l[0]'h0l) < 0
      · have d2 : decide ((0 : Int) ≤ kindI (l[0]'h0l)) = false := by simp; omega
        have HR := Lib.hid (bytesB_form hbig (.inr (by rw [hg0]; exact hk)))
        rw [if_pos hk, d2] at HK
        clear HC hg0 hm hk d2
        go_enter Tryd.func72, Tryd.ntmps72
        go_wp2_with (fail)
        refine (HK.out _).mono ?_
        rintro e w1 ⟨rfl, T1⟩
        go_wp2
        go_ret2
        exact ⟨_, _, _, by rw [HR.out]; rfl, by rw [HR.out]; exact Bys.nil _, T1⟩
      · have d2 : decide ((0 : Int) ≤ kindI (l[0]'h0l)) = true := by simp; omega
        have hform : ¬ (l.length % 4 ≠ 1 ∨ kindI (l.getD 0 (0, 0)) < 0) := by rw [hg0]; omega
        have HS : Hid (∀ (i : Nat) (hi : i + 1 < l.length), stepI (l[i]'(Nat.lt_of_succ_lt hi)) l[i + 1] < 0 → bytesB l = ([], 70)) := fun i hi hs => bytesB_step hbig hform (i + 1) (by omega) hi hs
        have HO : Hid ((∀ k ∈ stepsP l, 0 ≤ k) → bytesB l = ((pkRun (stepsP l)).out, 0)) := fun h => bytesB_ok hbig hform h
        rw [if_neg hk, d2] at HK
        obtain ⟨kk, hkk⟩ : ∃ kk : Nat, kindI (l[0]'h0l) = kk := ⟨(kindI (l[0]'h0l)).toNat, by omega⟩
        rw [hkk] at HK
        have HKK := Lib.hid hkk
        have hk3 : kk ≤ 3 := by omega
        clear hg0 hk hform d2 hr hkk
        obtain ⟨L, hL⟩ : ∃ L, l.length = 4 * L + 1 := ⟨l.length / 4, by omega⟩
        have eL : (l.length : Int) / 4 = (L : Int) := by omega
        have hLb : L ≤ 4096 := by omega
        obtain ⟨i0, hi, hz0, hz1, hz2⟩ := info_parts Tryd.info5
        by_cases hone : L = 0
        · subst hone
          have HF : Hid (bytesB l = ([], 0)) := by
            have hs : stepsP l = [] := by
              match l, hL with
              | [a], _ => rfl
            have := HO.out (by rw [hs]; intro k hk; cases hk)
            rw [hs] at this
            exact this
          clear HS HO HC HKK eL
          generalize l.length = m at *
          obtain rfl : m = 1 := by omega
          clear hL hm hcm hLb h0l
          go_enter Tryd.func72, Tryd.ntmps72
          go_wp2_with (fail)
          refine (HK.out _).mono ?_
          rintro e w1 ⟨rfl, T1⟩
          have hz := T1.size
          go_wp2_with (at_make; refine wpList_make_full _ rfl _ _ 22 rfl w.heap.size 5 i0 (.int .u8 0) 1 Tryd.underlying22 hi hz0 hz1 .i64 .i64 _ _ 0 rfl rfl rfl rfl (by rw [hz2]; omega) (by unfold maxLen; omega) hz ?_; intro w2 hown hgrow; have HON := Lib.hid (And.intro hown hgrow); clear hown hgrow)
          all_goals
            go_loopw [34] (fun i wr => i = .int .i64 0 ∧ w2 = wr) (fun _ _ => 0)
            case atStart => exact ⟨rfl, rfl⟩
            case round =>
              obtain ⟨rfl, rfl⟩ := hrel
              go_wp2
              go_ret2
              exact ⟨_, _, _, by rw [HF.out]; rfl, by rw [HF.out]; exact Bys.of_own (l := []) (by simpa [toList_madeCells_one, Value.cells, bvs] using HON.out.1), T1.grown HON.out.2 hz (by simp)⟩
        · have hn : l.length ≤ 16385 := by omega
          have HL := Lib.hid hL
          have hlL : l.length ≤ 4 * L + 1 := by omega
          have hlL2 : 4 * L + 1 ≤ l.length := by omega
          clear hL hm
          go_enter Tryd.func72, Tryd.ntmps72
          go_wp2_with (fail)
          refine (HK.out _).mono ?_
          rintro e w1 ⟨rfl, T1⟩
          have hz := T1.size
          clear HK hc
          go_wp2_with (at_make; refine wpList_make_full _ rfl _ _ 22 rfl w.heap.size 5 i0 (.int .u8 0) 1 Tryd.underlying22 hi hz0 hz1 .i64 .i64 _ _ L rfl rfl rfl rfl (by rw [hz2]; omega) (by unfold maxLen; omega) hz ?_; intro w2 hown hgrow; have HON := Lib.hid (And.intro hown hgrow); clear hown hgrow)
          go_loopw [4, 34] (fun at_ i wr => ∃ j : Nat, ∃ hj : j < l.length, i = .int .i64 (j : Int) ∧ ∃ ka : Nat, at_ = .int .i64 (ka : Int) ∧ ka ≤ 3 ∧ Hid (kindI l[j] = ka ∧ wr.ownsRow w.heap.size 5 1 (.slice (some ⟨w1.heap.size, 0, none⟩) L L) L (bvs (rowP L (pkRun (stepsP (l.take (j + 1)))))) ∧ (∀ k ∈ stepsP (l.take (j + 1)), 0 ≤ k)) ∧ Below w.heap.size w wr) (fun _ i _ => l.length - (intOf i).toNat)
          case atStart =>
            refine ⟨0, by omega, rfl, kk, rfl, hk3, ?_, T1.grown HON.out.2 hz (by simp)⟩
            have e : stepsP (l.take (0 + 1)) = [] := by
              match l with
              | [] => rfl
              | [a] => rfl
              | a :: b :: r => rfl
            rw [e]
            refine ⟨HKK.out, ?_, fun k hk => by cases hk⟩
            have e2 : pkRun [] = ⟨[], 0, 0⟩ := rfl
            rw [e2, rowP_start]
            have h := HON.out.1
            simp only [Value.cells, Nat.mul_one, toList_madeCells_one] at h
            have e3 : bvs (List.replicate L 0) = List.replicate L (.int .u8 0) := by simp [bvs, bv]
            rw [e3]
            exact h
          case round =>
            obtain ⟨j, hj, rfl, ka, rfl, hka, HW, hbel⟩ := hrel
            by_cases hlt : j + 1 < l.length
            · have dj : decide ((j : Int) < ((l.length - 1 : Nat) : Int)) = true := by simp; omega
              obtain ⟨g', o', x2, y2, hA, _, _, hc, hx2, hy2⟩ := HC.out (j + 1) hlt
              cases hA
              have hc := (hbel.cell (p := ⟨g, o + (j + 1), none⟩) hg).trans hc
              rw [show o + (j + 1) = o + 1 + j by omega] at hc
              have hst := stepsP_take l (j + 1) (by omega) hlt
              simp only [Nat.add_sub_cancel] at hst
              have hK := fun W => pkind_any x2 y2 l[j + 1] W hx2 hy2
              clear hx2 hy2
              have hsb := HS.out j hlt
              have hkr := kindI_range l[j + 1]
              have hkj := HW.out.1
              have hpc := pkRun_c (stepsP (l.take (j + 1))) (stepsP_le _)
              rw [stepsP_len] at hpc
              have hpn := pkRun_n (stepsP (l.take (j + 1))) (stepsP_le _)
              have hpl := pk_cnt (stepsP (l.take (j + 1))) ⟨[], 0, 0⟩ (by decide)
              rw [stepsP_len] at hpl
              have hps : pkRun (stepsP (l.take (j + 1 + 1))) = pkStep (pkRun (stepsP (l.take (j + 1)))) (stepI (l[j]'(Nat.lt_of_succ_lt hlt)) l[j + 1]) := by rw [hst, pkRun_snoc]
              have hnn : (0 ≤ stepI (l[j]'(Nat.lt_of_succ_lt hlt)) l[j + 1]) → ∀ k ∈ stepsP (l.take (j + 1 + 1)), 0 ≤ k := fun h k hk => by
                rw [hst] at hk
                rcases List.mem_append.1 hk with hk | hk
                · exact HW.out.2.2 k hk
                · obtain rfl := List.mem_singleton.1 hk
                  exact h
              have hlen : (l.take (j + 1)).length = j + 1 := by simp; omega
              rw [hlen] at hpc hpl
              change 4 * (pkRun (stepsP (l.take (j + 1)))).out.length + (pkRun (stepsP (l.take (j + 1)))).c = 4 * 0 + 0 + (j + 1 - 1) at hpl
              simp only [Nat.add_sub_cancel] at hpc hpl
              by_cases hneg : kindI l[j + 1] < 0
              · have hR := hsb (kindI_step hneg)
                have d2 : decide ((0 : Int) ≤ kindI l[j + 1]) = false := by simp; omega
                rw [if_pos hneg, d2] at hK
                have HR := Lib.hid hR
                have HK := Lib.hid hK
                clear hR hK d2 hps hnn hlen hpc hpl hpn hst hsb hkr hkj hneg HW HS HO HKK hj
                go_wp2_with (fail)
                refine (HK.out _).mono ?_
                rintro e w3 ⟨rfl, T2⟩
                have T2 := nxt hbel T2
                go_wp2
                go_ret2
                exact ⟨_, _, _, by rw [HR.out]; rfl, by rw [HR.out]; exact Bys.nil _, T2⟩
              · have d2 : decide ((0 : Int) ≤ kindI l[j + 1]) = true := by simp; omega
                rw [if_neg hneg, d2] at hK
                have hse : stepI (l[j]'(Nat.lt_of_succ_lt hlt)) l[j + 1] = (kindI l[j + 1] - ka) % 4 := by
                  rw [kindI_step2 (by rw [hkj]; omega) (by omega), hkj]
                obtain ⟨kb, hkb⟩ : ∃ kb : Nat, kindI l[j + 1] = kb := ⟨(kindI l[j + 1]).toNat, by omega⟩
                rw [hkb] at hK hse hkr
                have hkb3 : kb ≤ 3 := by omega
                have HKB := Lib.hid hkb
                have HK := Lib.hid hK
                have hown := HW.out.2.1
                obtain ⟨s, hs⟩ : ∃ s : Nat, ((kb : Int) - (ka : Int)) % 4 = s := ⟨(((kb : Int) - (ka : Int)) % 4).toNat, by omega⟩
                have hand := two_and ka kb s hs
                rw [hse, hs] at hps hnn
                have hnn := hnn (by omega)
                have hs4 : s < 4 := by omega
                clear hK hkb d2 hlen hst hsb hkj hneg HW HS HKK hse hkr hs
                generalize pkRun (stepsP (l.take (j + 1))) = S at *
                obtain ⟨q, hq⟩ : ∃ q, S.out.length = q := ⟨_, rfl⟩
                have hqL : q < L := by omega
                have eq4 : (j : Int) / 4 = (q : Int) := by omega
                have hnb : S.n < 64 := by
                  have h4 : j % 4 = 0 ∨ j % 4 = 1 ∨ j % 4 = 2 ∨ j % 4 = 3 := by omega
                  rw [hpc] at hpn
                  rcases h4 with h | h | h | h <;> rw [h] at hpn <;> simp at hpn <;> omega
                have hrs := rowP_step L S (s : Int) (by omega)
                rw [← hps, Int.toNat_natCast, hq] at hrs
                have hra : (rowP L S)[q]? = some (UInt8.ofNat S.n) := by
                  have := rowP_at L S (by omega)
                  simp only [hq] at this
                  rw [List.getElem?_eq_getElem (by rw [rowP_len]; exact hqL), this]
                have hor := two_or S.n s hnb hs4
                have hbt : 4 * S.n + s < 256 := by omega
                obtain ⟨b, hb⟩ : ∃ b : UInt8, b = UInt8.ofNat (4 * S.n + s) := ⟨_, rfl⟩
                have hbn : ((4 * S.n + s : Nat) : Int) = (b.toNat : Int) := by rw [hb, UInt8.toNat_ofNat', Nat.mod_eq_of_lt hbt]
                rw [← hb] at hrs
                rw [hbn] at hor
                have hrl := rowP_len L S
                generalize rowP L S = row at *
                have HRS := Lib.hid hrs
                have HNN := Lib.hid hnn
                have hzb := hbel.size
                go_wp2_with (fail)
                refine (HK.out _).mono ?_
                rintro e w3 ⟨rfl, T2⟩
                have T3 := nxt hbel T2
                have hown3 := own_below hown T2
                have c1 : w3.cell? ⟨w1.heap.size, q, none⟩ = some (.int .u8 (S.n : Int)) := by
                  have hra2 := (List.getElem?_eq_some_iff.1 hra).2
                  rw [hown3.cellAt q (by omega), bvs_get row q (by omega), hra2]
                  have : (UInt8.ofNat S.n).toNat = S.n := by rw [UInt8.toNat_ofNat', Nat.mod_eq_of_lt (by omega)]
                  unfold bv
                  rw [this]
                have f1 := hown3.frozenAt q
                have HST := Lib.hid (hown3.stored q (bv b))
                clear hown hown3 hrs hra hnn hps hpl hpn hpc hb hbn hrl HK hc
                go_wp2
                go_roundw
                case rel =>
                  refine ⟨j + 1, hlt, by go_num, kb, rfl, hkb3, ⟨HKB.out, ?_, HNN.out⟩, T3.setCell hz _⟩
                  rw [HRS.out, show bvs (row.set q b) = (bvs row).set q (bv b) from by unfold bvs; rw [List.map_set]]
                  exact HST.out.1
                case measure => simp [intOf]; omega
            · have hje : j + 1 = l.length := by omega
              have hw := HW.out
              rw [hje, List.take_length] at hw
              have hpl := pk_cnt (stepsP l) ⟨[], 0, 0⟩ (by decide)
              have hpc := pkRun_c (stepsP l) (stepsP_le _)
              rw [stepsP_len] at hpl hpc
              change 4 * (pkRun (stepsP l)).out.length + (pkRun (stepsP l)).c = 4 * 0 + 0 + (l.length - 1) at hpl
              have hoL : (pkRun (stepsP l)).out.length = L := by omega
              rw [rowP_end L _ hoL] at hw
              have HF := Lib.hid (HO.out hw.2.2)
              have HBY := Lib.hid (Bys.of_own hw.2.1)
              have HOL := Lib.hid hoL
              have dj : decide ((j : Int) < ((l.length - 1 : Nat) : Int)) = false := by simp; omega
              clear hw HW HO HS hoL hpl hpc
              go_wp2
              go_ret2
              exact ⟨_, _, _, by rw [HF.out]; rfl, by rw [HF.out]; exact HBY.out, hbel⟩
    · have e1 : (((l.length : Int) % 4) != 1) = true := by simp; omega
      have HR := Lib.hid (bytesB_form hbig (.inl hm))
      clear HC hm
      go_enter Tryd.func72, Tryd.ntmps72
      go_wp2
      go_ret2
      exact ⟨_, _, _, by rw [HR.out]; rfl, by rw [HR.out]; exact Bys.nil _, Below.refl _ _⟩
end Go.Proofs.YtkcpkfimmolkkaaDoor

/- The walks of layer 7's statements, over phase's contracts: each law answers true and leaves what was there as it was. -/
namespace Go.Proofs.YtkcpkfimmolkkaaDoor
open Go.RowKit
set_option maxRecDepth 20000

theorem same_true' (A A' : Option Addr) (n c n' c' : Nat) (l : List UInt8) (w : World) (h : Bys w A n c l) (h' : Bys w A' n' c' l) :
    Calls Tryd.prog 18 #[.slice A n c, .slice A' n' c'] w fun e w' => e = .returned (.bool true) ∧ Below w.heap.size w w' := same_true A A' n c n' c' l w h h'
theorem mid_slice (p : Pt) : Mid (sliceP p) := by unfold Mid sliceP; simp only; refine ⟨?_, ?_, ?_, ?_⟩ <;> split <;> decide
theorem low_mid {p : Pt} (h : Low p) : Mid p := by unfold Low at h; unfold Mid; omega
theorem low_tame {l : List Pt} (h : ∀ p ∈ l, Low p) : Tame l := fun p hp => by have := h p hp; unfold Low at this; omega
theorem low_turn {l : List Pt} (k : Int) (h : ∀ p ∈ l, Low p) : ∀ p ∈ turnB l k, Low p := by
  intro p hp
  obtain ⟨x, hx, rfl⟩ := List.mem_map.1 hp
  exact rotN_small _ (h x hx)
theorem turn_turn (l : List Pt) (k n : Int) : turnB (turnB l k) n = turnB l (k + n) := by
  unfold turnB
  rw [List.map_map]
  exact List.map_congr_left fun p _ => rotK_add k n p
theorem turn_len (l : List Pt) (k : Int) : (turnB l k).length = l.length := by unfold turnB; simp
theorem wP_unit (s : List Nat) : ∀ p ∈ wP s, ∃ q, q < 4 ∧ p = unit q := by
  have key : ∀ (s : List Nat) (q : Nat), ∀ p ∈ walkP (unit q) s, ∃ q, q < 4 ∧ p = unit q := by
    intro s
    induction s with
    | nil => intro q p hp; simp [walkP] at hp
    | cons k r ih =>
      intro q p hp
      simp only [walkP, List.mem_cons] at hp
      rw [unit_rot] at hp
      rcases hp with hp | hp
      · exact ⟨_, Nat.mod_lt _ (by decide), hp⟩
      · exact ih _ p hp
  intro p hp
  unfold wP at hp
  rcases List.mem_cons.1 hp with rfl | hp
  · exact ⟨0, by decide, rfl⟩
  · exact key s 0 p hp
theorem points_mid (b : List UInt8) : ∀ p ∈ pointsB b, Mid p := by
  intro p hp
  unfold pointsB at hp
  split at hp
  · cases hp
  · obtain ⟨q, h1, rfl⟩ := wP_unit (stepsB b) p hp
    have := unit_parts q h1
    unfold Mid
    omega
theorem points_len (b : List UInt8) : (pointsB b).length ≤ 16385 := by
  unfold pointsB
  split
  · simp
  · rw [List.length_cons, walkP_len, stepsB_len]; omega
end Go.Proofs.YtkcpkfimmolkkaaDoor

/- Package phase: Slice, and all of its contracts. -/
namespace Go.Proofs.YtkcpkfimmolkkaaDoor
open Go.RowKit
set_option maxRecDepth 20000

set_option maxHeartbeats 1000000 in
theorem slice_any (a b : Nat) (p : Pt) (w : World) (ha : Fl a p.1) (hb : Fl b p.2) :
    Calls Tryd.prog 67 #[.complex .f64 a b] w (GivesZ w (sliceP p)) := by
  have H1 := Lib.hid (fun W => side_any a p.1 W ha)
  have H2 := Lib.hid (fun W => side_any b p.2 W hb)
  have HS : Hid (sliceP p = (if 0 ≤ p.1 then 1 else -1, if 0 ≤ p.2 then 1 else -1)) := rfl
  clear ha hb
  generalize (if 0 ≤ p.1 then (1 : Int) else -1) = s at *
  generalize (if 0 ≤ p.2 then (1 : Int) else -1) = t at *
  generalize sliceP p = r at *
  go_enter Tryd.func67, Tryd.ntmps67
  go_wp2_with (fail)
  refine (H1.out _).mono ?_
  rintro e w1 ⟨c, rfl, f1, rfl⟩
  have F1 := Lib.hid f1
  clear f1
  go_wp2_with (fail)
  refine (H2.out _).mono ?_
  rintro e w1 ⟨d, rfl, f2, rfl⟩
  have F2 := Lib.hid f2
  clear f2
  go_wp2
  go_ret
  exact ⟨_, _, rfl, by rw [HS.out]; exact F1.out, by rw [HS.out]; exact F2.out, Below.refl _ _⟩
theorem phC : PhC where
  of_ := of_any
  parts := parts_any
  kind := pkind_any
  slice := slice_any
  turn := fun A n c l k w h1 h2 _ _ => turn_any A n c l k w h1 h2
  points := points_any
  bytes := bytes_any
end Go.Proofs.YtkcpkfimmolkkaaDoor
