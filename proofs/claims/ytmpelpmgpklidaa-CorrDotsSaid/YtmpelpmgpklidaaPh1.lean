/- Package phase: what Of, Parts (by math.Trunc) and Slice's side answer. -/
import Derived.Test.YtmpelpmgpklidaaPhC
import Derived.WalkLawsBesides
import Derived.Laws.Externs
namespace Go.Proofs.Ytmpelpmgpklidaa
open Go.RowKit

set_option maxHeartbeats 1000000 in
theorem of_any (p : Pt) (w : World) (h : Mid p) : Calls Try.prog 23 #[.int .i64 p.1, .int .i64 p.2] w (GivesZ w p) := by
  obtain ⟨a, b⟩ := p
  have H1 := Lib.hid (fl_int a (by unfold Mid at h; simp only at h; omega))
  have H2 := Lib.hid (fl_int b (by unfold Mid at h; simp only at h; omega))
  go_enter Try.func23, Try.ntmps23
  go_wp2
  go_ret
  exact ⟨_, _, rfl, H1.out, H2.out, Below.refl _ _⟩

/-- A call's end that tells a float. -/
def GivesFl (w : World) (n : Int) (e : Ending) (w' : World) : Prop := ∃ a, e = .returned (.float .f64 a) ∧ Fl a n ∧ w = w'
/-- what stands in for math.archTrunc, at a whole number -/
theorem fl_trunc {a : Nat} {n : Int} (ha : Fl a n) : ∃ r, (∀ (P : Program) (w : World), (Extern.MathFloor.toIntegral "math.archTrunc" .zero #[.float .f64 a]).run P w = .ok (.float .f64 r) w) ∧ Fl r n := by
  obtain ⟨h, s, i, e1, s1, s2⟩ := ha
  refine ⟨Ieee.double.write (.number s (n.natAbs * 2 ^ 0) (-((0 : Nat) : Int))), fun P w => ?_, fl_write s n 0 h s1 s2⟩
  have e0 : FloatKind.f64.decode a = .number s (n.natAbs * 2 ^ i) (-(i : Int)) := e1
  have e2 : (Ieee.Datum.number s (n.natAbs * 2 ^ i) (-(i : Int))).integral .zero = .number s (n.natAbs * 2 ^ 0) (-((0 : Nat) : Int)) := by
    unfold Ieee.Datum.integral
    simp only
    rw [show (-(i : Int)).toNat = 0 by omega, show (- -(i : Int)).toNat = i by omega, Nat.shiftLeft_zero, cut_pow]
    simp
  have e3 : Extern.MathFloor.toIntegral "math.archTrunc" .zero #[.float .f64 a] = pure (.float .f64 (FloatKind.f64.encode (.number s (n.natAbs * 2 ^ 0) (-((0 : Nat) : Int))))) := by
    conv => lhs; whnf
    rw [e0]
    simp only
    rw [e2]
  rw [e3]
  rfl
theorem Try.truncBody : (Try.prog.funcs[36]?).map (fun f => (f.name == "runtime.NumGoroutine", f.body.isNone, (Extern.findNext f).isNone)) = some (false, true, true) := by kernel_rfl
theorem Try.truncFind : ∃ fn, Try.prog.funcs[36]? = some fn ∧ Extern.find fn = some (Extern.MathFloor.toIntegral "math.archTrunc" .zero) := ⟨_, rfl, by kernel_rfl⟩
set_option maxHeartbeats 1000000 in
theorem trunc_any (a : Nat) (n : Int) (w : World) (ha : Fl a n) : Calls Try.prog 33 #[.float .f64 a] w (GivesFl w n) := by
  obtain ⟨r, hr, hf⟩ := fl_trunc ha
  have hd : ∀ W : World, (callFunc 36 #[.float .f64 a]).run Try.prog W = .ok (.value (.float .f64 r)) W := by
    intro W
    obtain ⟨fn, h1, h2⟩ := Try.truncFind
    have h3 := Try.truncBody
    rw [h1] at h3
    simp only [Option.map_some, Option.some.injEq, Prod.mk.injEq] at h3
    rw [run_callFunc_extern h1 h3.1 h3.2.1 (by simpa using h3.2.2) h2, hr]
    rfl
  have HF := Lib.hid hf
  clear ha hf hr
  go_enter Try.func33, Try.ntmps33
  go_wp2
  go_ret
  exact ⟨_, rfl, HF.out, rfl⟩

set_option maxHeartbeats 1000000 in
theorem whole_any (a : Nat) (n : Int) (w : World) (ha : Fl a n) (h1 : -1099511627776 ≤ n) (h2 : n ≤ 1099511627776) :
    Calls Try.prog 24 #[.float .f64 a] w fun e w' => e = .returned (.bool true) ∧ w = w' := by
  have e1 := fl_ge ha fl_lo
  rw [decide_eq_true h1] at e1
  have e2 := fl_le ha fl_hi
  rw [decide_eq_true h2] at e2
  have HT := Lib.hid (fun W => trunc_any a n W ha)
  have HE := Lib.hid (fun r (hr : Fl r n) => (fl_eq ha hr).trans (decide_eq_true rfl))
  clear ha h1 h2
  go_enter Try.func24, Try.ntmps24
  go_wp2_with (fail)
  refine (HT.out _).mono ?_
  rintro e w1 ⟨r, rfl, f1, rfl⟩
  have e3 := HE.out r f1
  clear f1
  go_wp2
  go_ret
  exact ⟨rfl, rfl⟩

set_option maxHeartbeats 1000000 in
theorem parts_any (a b : Nat) (p : Pt) (w : World) (ha : Fl a p.1) (hb : Fl b p.2) (h : Mid p) :
    Calls Try.prog 12 #[.complex .f64 a b] w fun e w' => e = .returned (.tuple #[.int .i64 p.1, .int .i64 p.2, .bool true]) ∧ Below w.heap.size w w' := by
  have H1 := Lib.hid (fun W => whole_any a p.1 W ha h.1 h.2.1)
  have H2 := Lib.hid (fun W => whole_any b p.2 W hb h.2.2.1 h.2.2.2)
  have e3 := fun W => run_convert_float_int (P := Try.prog) W 34 3 .f64 .i64 a p.1 (by kernel_rfl) (by kernel_rfl) (fl_toInt ha)
  have e4 := fun W => run_convert_float_int (P := Try.prog) W 34 3 .f64 .i64 b p.2 (by kernel_rfl) (by kernel_rfl) (fl_toInt hb)
  clear ha hb h
  obtain ⟨m, n⟩ := p
  go_enter Try.func12, Try.ntmps12
  go_wp2_with (fail)
  refine (H1.out _).mono ?_
  rintro e w1 ⟨rfl, rfl⟩
  go_wp2_with (fail)
  refine (H2.out _).mono ?_
  rintro e w1 ⟨rfl, rfl⟩
  go_wp2
  go_ret3
  exact ⟨rfl, Below.refl _ _⟩

set_option maxHeartbeats 1000000 in
theorem side_any (a : Nat) (n : Int) (w : World) (ha : Fl a n) :
    Calls Try.prog 34 #[.float .f64 a] w (GivesFl w (if 0 ≤ n then 1 else -1)) := by
  have e1 := fl_ge ha fl_zero
  clear ha
  by_cases h : 0 ≤ n
  · rw [decide_eq_true h] at e1
    rw [if_pos h]
    go_enter Try.func34, Try.ntmps34
    go_wp2
    go_ret
    exact ⟨_, rfl, fl_one, rfl⟩
  · rw [decide_eq_false h] at e1
    rw [if_neg h]
    go_enter Try.func34, Try.ntmps34
    go_wp2
    go_ret
    exact ⟨_, rfl, fl_minus, rfl⟩

end Go.Proofs.Ytmpelpmgpklidaa
