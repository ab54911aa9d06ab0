/- Package ledger, as landed: what New, Spent, Enough, Out, Marked and the acts answer. -/
import Derived.Test.YtpdnpfohcnpenaaLdZ
import Derived.Laws.EntriesVeiled
namespace Go.Proofs.Ytpdnpfohcnpenaa
open Go.RowKit
set_option maxRecDepth 20000

/-- package ledger's own Ledger, at block g -/
def LedP (w : World) (g o k : Nat) : Prop := w.heap[g]? = some (.cells #[.bool true, .int .u64 (o : Int), .int .u64 (k : Int)] 91 (0, 0))
/-- one that New did not make -/
def LedZ (w : World) (g : Nat) : Prop := w.heap[g]? = some (.cells #[.bool false, .int .u64 0, .int .u64 0] 91 (0, 0))
theorem LedP.off {w w' : World} {g o k : Nat} {X : Nat → Prop} (h : LedP w g o k) (T : Off X w w') (hx : ¬ X g) : LedP w' g o k := (T.block g (lt_row h) hx).trans h
theorem LedZ.off {w w' : World} {g : Nat} {X : Nat → Prop} (h : LedZ w g) (T : Off X w w') (hx : ¬ X g) : LedZ w' g := (T.block g (lt_row h) hx).trans h
theorem LedP.below {w w' : World} {g o k : Nat} (h : LedP w g o k) (T : Below w.heap.size w w') : LedP w' g o k := (T.block g (lt_row h)).trans h
theorem ldZn (W : World) : LedZ (W.alloc ldZero) W.heap.size := heap_alloc_new W _
theorem ldnew_any (o : Nat) (w : World) :
    Calls Try.prog 24 #[.int .u64 (o : Int)] w fun e w' => ∃ g, e = .returned (.pointer (some ⟨g, 0, none⟩)) ∧ w.heap.size ≤ g ∧ LedP w' g o o ∧ Below w.heap.size w w' := by
  go_enter Try.func24, Try.ntmps24
  go_wp2
  go_ret
  exact ⟨w.heap.size, rfl, Nat.le_refl _, heap_alloc_new w _, (Below.refl _ _).alloc (Nat.le_refl _) _⟩
theorem ldspent_any (g o k : Nat) (w : World) (h : LedP w g o k) :
    Calls Try.prog 41 #[.pointer (some ⟨g, 0, none⟩)] w fun e w' => e = .returned (.bool (ldS o)) ∧ w = w' := by
  have hs : ((o : Int) == 18446744073709551615) = ldS o := by unfold ldS; rw [Bool.eq_iff_iff]; simp; omega
  unfold LedP at h
  obtain ⟨c0, c1, c2, f0, f1, f2⟩ := row3 h
  clear h
  generalize ldS o = b at *
  go_enter Try.func41, Try.ntmps41
  go_wp2
  go_ret
  exact ⟨rfl, rfl⟩
theorem ldnspent_any (w : World) :
    Calls Try.prog 41 #[.pointer none] w fun e w' => e = .returned (.bool true) ∧ w = w' := by
  go_enter Try.func41, Try.ntmps41
  go_wp2
  go_ret
  exact ⟨rfl, rfl⟩
theorem ldzspent_any (g : Nat) (w : World) (h : LedZ w g) :
    Calls Try.prog 41 #[.pointer (some ⟨g, 0, none⟩)] w fun e w' => e = .returned (.bool true) ∧ w = w' := by
  unfold LedZ at h
  obtain ⟨c0, c1, c2, f0, f1, f2⟩ := row3 h
  clear h
  go_enter Try.func41, Try.ntmps41
  go_wp2
  go_ret
  exact ⟨rfl, rfl⟩
theorem ldout_any (g o k : Nat) (w : World) (h : LedP w g o k) :
    Calls Try.prog 39 #[.pointer (some ⟨g, 0, none⟩)] w fun e w' => e = .returned (.int .u64 (o : Int)) ∧ w = w' := by
  unfold LedP at h
  obtain ⟨c0, c1, c2, f0, f1, f2⟩ := row3 h
  clear h
  go_enter Try.func39, Try.ntmps39
  go_wp2
  go_ret
  exact ⟨rfl, rfl⟩
theorem ldnout_any (w : World) :
    Calls Try.prog 39 #[.pointer none] w fun e w' => e = .returned (.int .u64 0) ∧ w = w' := by
  go_enter Try.func39, Try.ntmps39
  go_wp2
  go_ret
  exact ⟨rfl, rfl⟩
theorem ldmarked_any (g o k : Nat) (w : World) (h : LedP w g o k) :
    Calls Try.prog 40 #[.pointer (some ⟨g, 0, none⟩)] w fun e w' => e = .returned (.int .u64 (k : Int)) ∧ w = w' := by
  unfold LedP at h
  obtain ⟨c0, c1, c2, f0, f1, f2⟩ := row3 h
  clear h
  go_enter Try.func40, Try.ntmps40
  go_wp2
  go_ret
  exact ⟨rfl, rfl⟩
theorem ldenough_any (g o k m : Nat) (w : World) (h : LedP w g o k) :
    Calls Try.prog 63 #[.pointer (some ⟨g, 0, none⟩), .int .u64 (m : Int)] w fun e w' => e = .returned (.bool (ldEnough o k m)) ∧ w = w' := by
  have H1 := Lib.hid (ldspent_any g o k w h)
  unfold LedP at h
  obtain ⟨c0, c1, c2, f0, f1, f2⟩ := row3 h
  clear h
  have hd : decide ((m : Int) > (k : Int)) = decide (k < m) := by rw [Bool.eq_iff_iff]; simp
  have hd2 : decide ((k : Int) < (m : Int)) = decide (k < m) := by rw [Bool.eq_iff_iff]; simp
  cases e : ldS o with
  | true =>
    have h1 : o = 18446744073709551615 := by unfold ldS at e; simpa using e
    have er : ldEnough o k m = false := by unfold ldEnough; simp [h1]
    rw [er]
    rw [e] at H1
    clear h1
    go_enter Try.func63, Try.ntmps63
    go_wp2_with (fail)
    refine H1.out.mono ?_
    rintro e w1 ⟨rfl, rfl⟩
    go_wp2
    go_ret
    exact ⟨rfl, rfl⟩
  | false =>
    have h1 : o ≠ 18446744073709551615 := by unfold ldS at e; simpa using e
    have er : ldEnough o k m = decide (k < m) := by unfold ldEnough; simp [h1]
    rw [er]
    rw [e] at H1
    clear h1
    go_enter Try.func63, Try.ntmps63
    go_wp2_with (fail)
    refine H1.out.mono ?_
    rintro e w1 ⟨rfl, rfl⟩
    go_wp2
    go_ret
    exact ⟨rfl, rfl⟩
theorem ldnenough_any (m : Nat) (w : World) :
    Calls Try.prog 63 #[.pointer none, .int .u64 (m : Int)] w fun e w' => e = .returned (.bool false) ∧ w = w' := by
  have H1 := Lib.hid (ldnspent_any w)
  go_enter Try.func63, Try.ntmps63
  go_wp2_with (fail)
  refine H1.out.mono ?_
  rintro e w1 ⟨rfl, rfl⟩
  go_wp2
  go_ret
  exact ⟨rfl, rfl⟩
theorem ldzenough_any (g m : Nat) (w : World) (h : LedZ w g) :
    Calls Try.prog 63 #[.pointer (some ⟨g, 0, none⟩), .int .u64 (m : Int)] w fun e w' => e = .returned (.bool false) ∧ w = w' := by
  have H1 := Lib.hid (ldzspent_any g w h)
  clear h
  go_enter Try.func63, Try.ntmps63
  go_wp2_with (fail)
  refine H1.out.mono ?_
  rintro e w1 ⟨rfl, rfl⟩
  go_wp2
  go_ret
  exact ⟨rfl, rfl⟩
/-- more, fewer and marks, at a ledger that is not spent -/
theorem ldmore_any (g o k : Nat) (w : World) (ho : o < 18446744073709551615) (h : LedP w g o k) :
    Calls Try.prog 58 #[.pointer (some ⟨g, 0, none⟩)] w fun e w' => e = .returned (.bool true) ∧ LedP w' g (o + 1) k ∧ Off (· = g) w w' := by
  unfold LedP at h
  obtain ⟨c0, c1, c2, f0, f1, f2⟩ := row3 h
  have HR := Lib.hid h
  have hw : IntKind.u64.wrap ((o : Int) + 1) = (o : Int) + 1 := IntWalk.u64_in _ (by omega)
  clear h
  go_enter Try.func58, Try.ntmps58
  go_wp2
  go_ret
  exact ⟨rfl, heap_setCell_same _ _ _ _ _ _ HR.out, (Off.refl (· = g) w).setCell (p := ⟨g, 1, none⟩) (.inl rfl) _⟩
theorem ldfewer_any (g o k : Nat) (w : World) (ho : o < 18446744073709551615) (h : LedP w g o k) :
    Calls Try.prog 59 #[.pointer (some ⟨g, 0, none⟩)] w fun e w' => e = .returned (.bool (decide (o ≠ 0))) ∧ LedP w' g (o - 1) k ∧ Off (· = g) w w' := by
  have HL := Lib.hid h
  unfold LedP at h
  obtain ⟨c0, c1, c2, f0, f1, f2⟩ := row3 h
  have HR := Lib.hid h
  clear h
  by_cases h2 : o = 0
  · subst h2
    go_enter Try.func59, Try.ntmps59
    go_wp2
    go_ret
    exact ⟨rfl, HL.out, Off.refl _ _⟩
  · obtain ⟨p, rfl⟩ : ∃ p, o = p + 1 := ⟨o - 1, by omega⟩
    have e0 : (((p + 1 : Nat) : Int) == 0) = false := by simp; omega
    have hw : IntKind.u64.wrap (((p + 1 : Nat) : Int) - 1) = (p : Int) := by rw [IntWalk.u64_in _ (by omega)]; omega
    have hd : decide (p + 1 ≠ 0) = true := by simp
    rw [hd, show p + 1 - 1 = p from rfl]
    clear h2 hd
    go_enter Try.func59, Try.ntmps59
    go_wp2
    go_ret
    exact ⟨rfl, by have hh := heap_setCell_same _ _ 1 _ _ (.int .u64 (p : Int)) HR.out; unfold LedP; simpa using hh, (Off.refl (· = g) w).setCell (p := ⟨g, 1, none⟩) (.inl rfl) _⟩
theorem ldmarks_any (g o k : Nat) (w : World) (h : LedP w g o k) :
    Calls Try.prog 60 #[.pointer (some ⟨g, 0, none⟩)] w fun e w' => e = .returned (.bool true) ∧ LedP w' g o o ∧ Off (· = g) w w' := by
  unfold LedP at h
  obtain ⟨c0, c1, c2, f0, f1, f2⟩ := row3 h
  have HR := Lib.hid h
  clear h
  go_enter Try.func60, Try.ntmps60
  go_wp2
  go_ret
  exact ⟨rfl, heap_setCell_same _ _ _ _ _ _ HR.out, (Off.refl (· = g) w).setCell (p := ⟨g, 2, none⟩) (.inl rfl) _⟩
set_option maxHeartbeats 1000000 in
theorem lddo_no (p : Option Addr) (i : Int) (w : World) (h1 : ∀ W, Below w.heap.size w W → Calls Try.prog 41 #[.pointer p] W fun e w' => e = .returned (.bool true) ∧ W = w') :
    Calls Try.prog 43 #[.pointer p, .int .i64 i] w fun e w' => e = .returned (.bool false) ∧ Below w.heap.size w w' := by
  have H1 := Lib.hid h1
  have HT := Lib.hid (fun o => (Below.refl w.heap.size w).alloc (Nat.le_refl _) o)
  clear h1
  go_enter Try.func43, Try.ntmps43
  go_wp2_with (fail)
  refine (H1.out _ (HT.out _)).mono ?_
  rintro e w1 ⟨rfl, rfl⟩
  go_wp2
  go_ret
  exact ⟨rfl, HT.out _⟩
set_option maxHeartbeats 1000000 in
theorem lddo_ask (g o k : Nat) (w : World) (ho : o < 18446744073709551615) (h : LedP w g o k) :
    Calls Try.prog 43 #[.pointer (some ⟨g, 0, none⟩), .int .i64 0] w fun e w' => e = .returned (.bool true) ∧ LedP w' g (o + 1) k ∧ Off (· = g) w w' := by
  have es : ldS o = false := by unfold ldS; simp; omega
  have H1 := Lib.hid (fun W (T : Below w.heap.size w W) => by have h1 := ldspent_any g o k W (h.below T); rw [es] at h1; exact h1)
  have H2 := Lib.hid (fun W (T : Below w.heap.size w W) => ldmore_any g o k W ho (h.below T))
  have HT := Lib.hid (fun o => (Below.refl w.heap.size w).alloc (Nat.le_refl _) o)
  clear h es
  go_enter Try.func43, Try.ntmps43
  go_wp2_with (fail)
  refine (H1.out _ (HT.out _)).mono ?_
  rintro e w1 ⟨rfl, rfl⟩
  go_wp2_with (fail)
  refine (H2.out _ (HT.out _)).mono ?_
  rintro e w1 ⟨rfl, h3, O3⟩
  have H3 := Lib.hid h3
  have O4 := (Off.of_below (X := (· = g)) (HT.out _)).trans O3
  clear h3 O3
  go_wp2
  go_ret
  exact ⟨rfl, H3.out, O4⟩
set_option maxHeartbeats 1000000 in
theorem lddo_hear (g o k : Nat) (w : World) (ho : o < 18446744073709551615) (h : LedP w g o k) :
    Calls Try.prog 43 #[.pointer (some ⟨g, 0, none⟩), .int .i64 1] w fun e w' => e = .returned (.bool (decide (o ≠ 0))) ∧ LedP w' g (o - 1) k ∧ Off (· = g) w w' := by
  have es : ldS o = false := by unfold ldS; simp; omega
  have H1 := Lib.hid (fun W (T : Below w.heap.size w W) => by have h1 := ldspent_any g o k W (h.below T); rw [es] at h1; exact h1)
  have H2 := Lib.hid (fun W (T : Below w.heap.size w W) => ldfewer_any g o k W ho (h.below T))
  have HT := Lib.hid (fun o => (Below.refl w.heap.size w).alloc (Nat.le_refl _) o)
  clear h es
  generalize decide (o ≠ 0) = b at *
  go_enter Try.func43, Try.ntmps43
  go_wp2_with (fail)
  refine (H1.out _ (HT.out _)).mono ?_
  rintro e w1 ⟨rfl, rfl⟩
  go_wp2_with (fail)
  refine (H2.out _ (HT.out _)).mono ?_
  rintro e w1 ⟨rfl, h3, O3⟩
  have H3 := Lib.hid h3
  have O4 := (Off.of_below (X := (· = g)) (HT.out _)).trans O3
  clear h3 O3
  go_wp2
  go_ret
  exact ⟨rfl, H3.out, O4⟩
set_option maxHeartbeats 1000000 in
theorem lddo_mark (g o k : Nat) (w : World) (ho : o < 18446744073709551615) (h : LedP w g o k) :
    Calls Try.prog 43 #[.pointer (some ⟨g, 0, none⟩), .int .i64 2] w fun e w' => e = .returned (.bool true) ∧ LedP w' g o o ∧ Off (· = g) w w' := by
  have es : ldS o = false := by unfold ldS; simp; omega
  have H1 := Lib.hid (fun W (T : Below w.heap.size w W) => by have h1 := ldspent_any g o k W (h.below T); rw [es] at h1; exact h1)
  have H2 := Lib.hid (fun W (T : Below w.heap.size w W) => ldmarks_any g o k W (h.below T))
  have HT := Lib.hid (fun o => (Below.refl w.heap.size w).alloc (Nat.le_refl _) o)
  clear h es
  go_enter Try.func43, Try.ntmps43
  go_wp2_with (fail)
  refine (H1.out _ (HT.out _)).mono ?_
  rintro e w1 ⟨rfl, rfl⟩
  go_wp2_with (fail)
  refine (H2.out _ (HT.out _)).mono ?_
  rintro e w1 ⟨rfl, h3, O3⟩
  have H3 := Lib.hid h3
  have O4 := (Off.of_below (X := (· = g)) (HT.out _)).trans O3
  clear h3 O3
  go_wp2
  go_ret
  exact ⟨rfl, H3.out, O4⟩
theorem ldask_any (g o k : Nat) (w : World) (ho : o < 18446744073709551616) (h : LedP w g o k) :
    Calls Try.prog 30 #[.pointer (some ⟨g, 0, none⟩)] w fun e w' => e = .returned (.bool (!ldS o)) ∧ LedP w' g (ldAsk o) k ∧ Off (· = g) w w' := by
  by_cases h1 : o = 18446744073709551615
  · have e : ldS o = true := by unfold ldS; simpa using h1
    have ea : ldAsk o = o := by unfold ldAsk; rw [e]; rfl
    have er : (!ldS o) = false := by rw [e]; rfl
    have H1 := Lib.hid (lddo_no (some ⟨g, 0, none⟩) 0 w (fun W T => by have h2 := ldspent_any g o k W (h.below T); rw [e] at h2; exact h2))
    have HP := Lib.hid (fun W (T : Below w.heap.size w W) => h.below T)
    rw [ea, er]
    clear h e ea er h1
    go_enter Try.func30, Try.ntmps30
    go_wp2_with (fail)
    refine H1.out.mono ?_
    rintro e w1 ⟨rfl, T⟩
    have H3 := Lib.hid (HP.out _ T)
    have O3 := Off.of_below (X := (· = g)) T
    clear T
    go_wp2
    go_ret
    exact ⟨rfl, H3.out, O3⟩
  · have e : ldS o = false := by unfold ldS; simpa using h1
    have hr : true = !ldS o ∧ o + 1 = ldAsk o := by
      refine ⟨by rw [e]; rfl, ?_⟩
      unfold ldAsk; rw [e]; rfl
    have H1 := Lib.hid (lddo_ask g o k w (by omega) h)
    rw [hr.1, hr.2] at H1
    clear h e hr h1
    generalize (!ldS o) = b at *
    go_enter Try.func30, Try.ntmps30
    go_wp2_with (fail)
    refine H1.out.mono ?_
    rintro e w1 ⟨rfl, h3, O3⟩
    have H3 := Lib.hid h3
    clear h3
    go_wp2
    go_ret
    exact ⟨rfl, H3.out, O3⟩
theorem ldhear_any (g o k : Nat) (w : World) (ho : o < 18446744073709551616) (h : LedP w g o k) :
    Calls Try.prog 45 #[.pointer (some ⟨g, 0, none⟩)] w fun e w' => e = .returned (.bool (ldCan o)) ∧ LedP w' g (ldHear o) k ∧ Off (· = g) w w' := by
  by_cases h1 : o = 18446744073709551615
  · have e : ldS o = true := by unfold ldS; simpa using h1
    have ea : ldHear o = o := by unfold ldHear ldCan; simp [h1]
    have er : ldCan o = false := by unfold ldCan; simp [h1]
    have H1 := Lib.hid (lddo_no (some ⟨g, 0, none⟩) 1 w (fun W T => by have h2 := ldspent_any g o k W (h.below T); rw [e] at h2; exact h2))
    have HP := Lib.hid (fun W (T : Below w.heap.size w W) => h.below T)
    rw [ea, er]
    clear h e ea er h1
    go_enter Try.func45, Try.ntmps45
    go_wp2_with (fail)
    refine H1.out.mono ?_
    rintro e w1 ⟨rfl, T⟩
    have H3 := Lib.hid (HP.out _ T)
    have O3 := Off.of_below (X := (· = g)) T
    clear T
    go_wp2
    go_ret
    exact ⟨rfl, H3.out, O3⟩
  · have e : ldS o = false := by unfold ldS; simpa using h1
    have hr : decide (o ≠ 0) = ldCan o ∧ o - 1 = ldHear o := by
      have ec : ldCan o = decide (o ≠ 0) := by unfold ldCan; simp [h1]
      refine ⟨ec.symm, ?_⟩
      unfold ldHear
      split
      · rfl
      · rename_i h2
        rw [ec] at h2
        simp at h2
        omega
    have H1 := Lib.hid (lddo_hear g o k w (by omega) h)
    rw [hr.1, hr.2] at H1
    clear h e hr h1
    generalize ldCan o = b at *
    go_enter Try.func45, Try.ntmps45
    go_wp2_with (fail)
    refine H1.out.mono ?_
    rintro e w1 ⟨rfl, h3, O3⟩
    have H3 := Lib.hid h3
    clear h3
    go_wp2
    go_ret
    exact ⟨rfl, H3.out, O3⟩
theorem ldmark_any (g o k : Nat) (w : World) (ho : o < 18446744073709551616) (h : LedP w g o k) :
    Calls Try.prog 66 #[.pointer (some ⟨g, 0, none⟩)] w fun e w' => e = .returned (.tuple #[]) ∧ LedP w' g o (ldMark o k) ∧ Off (· = g) w w' := by
  cases e : ldS o with
  | true =>
    have ea : ldMark o k = k := by unfold ldMark; rw [e]; rfl
    have H1 := Lib.hid (lddo_no (some ⟨g, 0, none⟩) 2 w (fun W T => by have h2 := ldspent_any g o k W (h.below T); rw [e] at h2; exact h2))
    have HP := Lib.hid (fun W (T : Below w.heap.size w W) => h.below T)
    rw [ea]
    clear h e ea
    go_enter Try.func66, Try.ntmps66
    go_wp2_with (fail)
    refine H1.out.mono ?_
    rintro e w1 ⟨rfl, T⟩
    have H3 := Lib.hid (HP.out _ T)
    have O3 := Off.of_below (X := (· = g)) T
    clear T
    go_wp2
    go_end0
    exact ⟨rfl, H3.out, O3⟩
  | false =>
    have ea : ldMark o k = o := by unfold ldMark; rw [e]; rfl
    have h1 : o ≠ 18446744073709551615 := by unfold ldS at e; simpa using e
    have H1 := Lib.hid (lddo_mark g o k w (by omega) h)
    rw [ea]
    clear h e ea h1
    go_enter Try.func66, Try.ntmps66
    go_wp2_with (fail)
    refine H1.out.mono ?_
    rintro e w1 ⟨rfl, h3, O3⟩
    have H3 := Lib.hid h3
    clear h3
    go_wp2
    go_end0
    exact ⟨rfl, H3.out, O3⟩
theorem ldnask_any (w : World) :
    Calls Try.prog 30 #[.pointer none] w fun e w' => e = .returned (.bool false) ∧ Below w.heap.size w w' := by
  have H1 := Lib.hid (lddo_no none 0 w (fun W _ => ldnspent_any W))
  go_enter Try.func30, Try.ntmps30
  go_wp2_with (fail)
  refine H1.out.mono ?_
  rintro e w1 ⟨rfl, T⟩
  go_wp2
  go_ret
  exact ⟨rfl, T⟩
theorem ldzask_any (g : Nat) (w : World) (h : LedZ w g) :
    Calls Try.prog 30 #[.pointer (some ⟨g, 0, none⟩)] w fun e w' => e = .returned (.bool false) ∧ Below w.heap.size w w' := by
  have H1 := Lib.hid (lddo_no (some ⟨g, 0, none⟩) 0 w (fun W T => ldzspent_any g W (h.off (Off.of_below (X := fun _ => False) T) (fun h => h))))
  clear h
  go_enter Try.func30, Try.ntmps30
  go_wp2_with (fail)
  refine H1.out.mono ?_
  rintro e w1 ⟨rfl, T⟩
  go_wp2
  go_ret
  exact ⟨rfl, T⟩
theorem ldnhear_any (w : World) :
    Calls Try.prog 45 #[.pointer none] w fun e w' => e = .returned (.bool false) ∧ Below w.heap.size w w' := by
  have H1 := Lib.hid (lddo_no none 1 w (fun W _ => ldnspent_any W))
  go_enter Try.func45, Try.ntmps45
  go_wp2_with (fail)
  refine H1.out.mono ?_
  rintro e w1 ⟨rfl, T⟩
  go_wp2
  go_ret
  exact ⟨rfl, T⟩
theorem as_below {P : Ending → Prop} {w : World} : ∀ e w', (P e ∧ w = w') → P e ∧ Below w.heap.size w w' := by
  rintro e w' ⟨h, rfl⟩
  exact ⟨h, Below.refl _ _⟩
theorem ldC : LdC LedP LedZ where
  lt := lt_row
  off := LedP.off
  zlt := lt_row
  zoff := LedZ.off
  new_ := fun o w _ => ldnew_any o w
  ask := fun g o k w h1 _ h => ldask_any g o k w h1 h
  hear := fun g o k w h1 _ h => ldhear_any g o k w h1 h
  mark := fun g o k w h1 _ h => ldmark_any g o k w h1 h
  enough := fun g o k m w _ _ _ h => (ldenough_any g o k m w h).mono as_below
  out := fun g o k w h => (ldout_any g o k w h).mono as_below
  marked := fun g o k w h => (ldmarked_any g o k w h).mono as_below
  spent := fun g o k w h => (ldspent_any g o k w h).mono as_below
  nspent := fun w => (ldnspent_any w).mono as_below
  nask := ldnask_any
  nhear := ldnhear_any
  nenough := fun m w _ => (ldnenough_any m w).mono as_below
  nout := fun w => (ldnout_any w).mono as_below
  zspent := fun g w h => (ldzspent_any g w h).mono as_below
  zask := ldzask_any
  zenough := fun g m w _ h => (ldzenough_any g m w h).mono as_below
end Go.Proofs.Ytpdnpfohcnpenaa
