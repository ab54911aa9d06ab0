/- Joined: Labels LiK LiK2. -/
import Derived.Test.YtkcpkfimmolkkaaDoorBase
import Derived.Scope
import Derived.WalkMore
import Derived.Test.YtkcpkfimmolkkaaDoorPhs
import Derived.Test.YtkcpkfimmolkkaaDoorCos
import Derived.Test.YtkcpkfimmolkkaaDoorScs
import Derived.Test.YtkcpkfimmolkkaaDoorHas
import Derived.Test.YtkcpkfimmolkkaaDoorWes
import Derived.Test.YtkcpkfimmolkkaaDoorOcts
import Derived.Test.YtkcpkfimmolkkaaDoorJoin
import Derived.Test.YtkcpkfimmolkkaaDoorLineC
import Derived.Test.YtkcpkfimmolkkaaDoorFacts
/- A scope in which the run jumps to labels, several of them: what holds at each jump ('J'), and a measure that every pass lowers. Nothing of the program is in here. -/
namespace Go.Proofs.YtkcpkfimmolkkaaDoor
open Go.RowKit
set_option maxRecDepth 20000

/-- As Q; by a goto to label l: J l. -/
def Jumps (J : Nat → Act → World → Prop) (Q : Exit → Act → World → Prop) : Exit → Act → World → Prop
  | .goto l, a, w => J l a w
  | e, a, w => Q e a w
theorem Jumps.ret {J Q} {a : Act} {w : World} : Jumps J Q .ret a w = Q .ret a w := rfl
theorem Jumps.other {J Q} {e : Exit} {a : Act} {w : World} (he : ∀ l, e ≠ .goto l) (h : Jumps J Q e a w) : Q e a w := by
  cases e <;> first | exact h | exact absurd rfl (he _)

/-- whoever leaves a scope, but by a goto, leaves it for what stands behind it -/
theorem leave_scope {P : Program} {f : Machine} {b : Frame} {k : List Item} {cs : List Frame} {c : Code} {e : Exit} {a : Act} {w : World} (he : ∀ l, e ≠ .goto l)
    (h : Arrives P f b (.inScope c :: k) cs e a w) : Arrives P f b k cs e a w := by
  cases e
  case normal => exact Steps.trans h (.one step_inScope)
  case exit => exact fun r hr => h r (by simpa [exitTo] using hr)
  case goto l => exact absurd rfl (he l)
  all_goals exact h
/-- where the run goes on behind a jump out of a scope's code -/
theorem jump_back {c rest : Code} {l : Nat} (h : findLabel c l = some rest) (k : List Item) : gotoIn l (.inScope c :: k) = some (.code rest :: .inScope c :: k) := by
  unfold gotoIn
  rw [h]

theorem wp_scope_labels {P : Program} {a : Act} {w : World} {Q : Exit → Act → World → Prop} {c : Code} (J : Nat → Act → World → Prop) (μ : Act → World → Nat)
    (first : c.wp P (Jumps J Q) a w)
    (pass : ∀ l a w, J l a w → ∃ rest, findLabel c l = some rest ∧ rest.wp P (Jumps (fun l' a' w' => J l' a' w' ∧ μ a' w' < μ a w) Q) a w) : (Code.scope c).wp P Q a w := by
  intro b k cs
  -- from any jump on, by the measure
  have after : ∀ n l a w, μ a w < n → J l a w → ∃ rest, findLabel c l = some rest ∧ ∃ e a' w', Q e a' w' ∧ Arrives P (lone (b.at a (.code rest :: .inScope c :: k)) cs w) b k cs e a' w' := by
    intro n
    induction n with
    | zero => exact fun l a w h => absurd h (Nat.not_lt_zero _)
    | succ n ih =>
      intro l a w hn hJ
      obtain ⟨rest, hr, hp⟩ := pass l a w hJ
      obtain ⟨e, a1, w1, hq, way⟩ := hp b (.inScope c :: k) cs
      refine ⟨rest, hr, ?_⟩
      by_cases he : ∃ l1, e = .goto l1
      · obtain ⟨l1, rfl⟩ := he
        obtain ⟨rest1, hr1, e2, a2, w2, hq2, way2⟩ := ih l1 a1 w1 (by have := hq.2; omega) hq.1
        exact ⟨e2, a2, w2, hq2, .of_steps (way _ (jump_back hr1 k)) way2⟩
      · have he : ∀ l, e ≠ .goto l := fun l h => he ⟨l, h⟩
        exact ⟨e, a1, w1, Jumps.other he hq, leave_scope he way⟩
  obtain ⟨e, a1, w1, hq, way⟩ := first b (.inScope c :: k) cs
  by_cases he : ∃ l1, e = .goto l1
  · obtain ⟨l1, rfl⟩ := he
    obtain ⟨rest1, hr1, e2, a2, w2, hq2, way2⟩ := after (μ a1 w1 + 1) l1 a1 w1 (Nat.lt_succ_self _) hq
    exact ⟨e2, a2, w2, hq2, .of_steps (.one step_scope) (.of_steps (way _ (jump_back hr1 k)) way2)⟩
  · have he : ∀ l, e ≠ .goto l := fun l h => he ⟨l, h⟩
    exact ⟨e, a1, w1, Jumps.other he hq, .of_steps (.one step_scope) (leave_scope he way)⟩
end Go.Proofs.YtkcpkfimmolkkaaDoor

/- Package line at its landed code: Long, told, Send. -/
namespace Go.Proofs.YtkcpkfimmolkkaaDoor
open Go.RowKit
set_option maxRecDepth 20000

theorem long12_any (k : Int) (w : World) (hk : In12 k) : Calls Tryd.prog 12 #[.int .i64 k] w fun e w' => e = .returned (.int .i64 (longI k)) ∧ w = w' := by
  unfold In12 at hk
  by_cases h1 : k < 0
  · have hd : decide (k < 0) = true := by simpa using h1
    have hm : longI k = 0 := by unfold longI; rw [if_pos (.inl h1)]
    rw [hm]
    go_enter Tryd.func12, Tryd.ntmps12
    go_wp2
    go_ret
    exact ⟨rfl, rfl⟩
  · have hd : decide (k < 0) = false := by simpa using h1
    by_cases h2 : 512 < k
    · have hd2 : decide (512 < k) = true := by simpa using h2
      have hm : longI k = 0 := by unfold longI; rw [if_pos (.inr h2)]
      rw [hm]
      go_enter Tryd.func12, Tryd.ntmps12
      go_wp2
      go_ret
      exact ⟨rfl, rfl⟩
    · have hd2 : decide (512 < k) = false := by simpa using h2
      have HM : Hid (longI k = 32 + 8 * k + 1) := by show _ = _; unfold longI; rw [if_neg (by omega)]; omega
      go_enter Tryd.func12, Tryd.ntmps12
      go_wp2
      go_ret
      exact ⟨by rw [HM.out]; rfl, rfl⟩
theorem told_any (A : Option Addr) (n c : Nat) (x : List Pt) (w : World) (h : Cs w A n c x) : Calls Tryd.prog 41 #[.slice A n c] w (GivesB w (bytesB x).1) := by
  have HB := Lib.hid (phC.bytes A n c x w h)
  clear h
  generalize bytesB x = r at *
  go_enter Tryd.func41, Tryd.ntmps41
  go_wp2_with (fail)
  refine HB.out.mono ?_
  rintro e w1 ⟨A1, n1, c1, rfl, B1, T1⟩
  have HB1 := Lib.hid B1
  clear B1 HB
  go_wp2
  go_ret
  exact ⟨_, _, _, rfl, HB1.out, T1⟩
theorem put_mark : putOf 449838109 4 = markB := by decide +kernel
theorem GivesW.shape {w w' : World} {l : List UInt8} {e : Ending} (h : GivesW w l e w') : ∃ A c, e = .returned (.slice A l.length c) ∧ Bys w' A l.length c l ∧ Below w.heap.size w w' := by
  obtain ⟨v, rfl, hown, hb⟩ := h
  obtain ⟨A, c, rfl⟩ := own_shape hown
  exact ⟨A, c, rfl, Bys.of_own hown, hb⟩
set_option maxHeartbeats 4000000 in
theorem send12_any (A : Option Addr) (n c : Nat) (b : List UInt8) (w : World) (hB : Bys w A n c b) (hn : n ≤ 140737488351232) (hT : Tab10 w) :
    Calls Tryd.prog 8 #[.slice A n c] w (GivesSc w (sendB b)) := by
  obtain rfl := hB.len
  by_cases h1 : 512 < b.length
  · have d1 : decide ((512 : Int) < (b.length : Int)) = true := by simp; omega
    have HS : Hid (sendB b = ([], 2)) := by show _ = _; unfold sendB; rw [if_pos h1]
    clear hT
    go_enter Tryd.func8, Tryd.ntmps8
    go_wp2
    go_ret2
    exact ⟨_, by rw [HS.out]; rfl, by rw [HS.out]; exact OwnC.nil _ _, Below.refl _ _⟩
  · have d1 : decide ((512 : Int) < (b.length : Int)) = false := by simp; omega
    have hcv : IntKind.u64.wrap (b.length : Int) = (b.length : Int) := IntWalk.u64_in _ (by omega)
    have HPU := Lib.hid (fun W => put_any b.length 2 W (by omega))
    have HPM := Lib.hid (fun W => put_any 449838109 4 W (by decide))
    rw [put_mark] at HPM
    have HPK1 := Lib.hid (fun A n c W (T : Below w.heap.size w W) (h : Bys W A n c (put2 b.length)) => haC.pack A n c _ W h (haC.keep _ _ hT T))
    have HPK2 := Lib.hid (fun A n c W (T : Below w.heap.size w W) (h : Bys W A n c (scrB 17217 b)) => haC.pack A n c _ W h (haC.keep _ _ hT T))
    have HSC := Lib.hid (fun W (h : Bys W A b.length c b) => scC.do_ 17217 A b.length c b W (by unfold In64; omega) h (by omega))
    have HSB : Hid (sendB b = (pointsB (lineB b), 0)) := by show _ = _; unfold sendB; rw [if_neg h1]
    have hl1 : (packB (put2 b.length)).length = 4 := by rw [packB_len _ (by simp [put2])]; rfl
    have hl2 := body_len b (by omega)
    have hl3 : (weaveB (packB (scrB 17217 b)) 8).length = 2 * b.length := by rw [weaveB_len _ _ (body_ok b (by omega)), hl2]
    have HW := Lib.hid (fun A n c W (h : Bys W A n c (packB (scrB 17217 b))) => weC.do_ A n c _ 8 W h (by have := h.len; omega) (by unfold In11; omega))
    have HLB : Hid ([markB, packB (put2 b.length), weaveB (packB (scrB 17217 b)) 8].flatten = lineB b) := by show _ = _; unfold lineB; simp
    have HPT := Lib.hid (fun A n c W (h : Bys W A n c (lineB b)) => phC.points A n c _ W h)
    have HLL := Lib.hid (lineB_len b (by omega))
    rw [putOf_two] at HPU
    generalize lineB b = L at *
    generalize weaveB (packB (scrB 17217 b)) 8 = wv at *
    generalize packB (scrB 17217 b) = pb at *
    generalize packB (put2 b.length) = pk at *
    have HBB := Lib.hid hB
    have hbl : b.length ≤ 512 := by omega
    clear hB hT
    go_enter Tryd.func8, Tryd.ntmps8
    go_wp2_with (fail)
    refine (HPU.out _).mono ?_
    rintro e w1 ⟨A1, n1, c1, rfl, B1, T1⟩
    go_wp2_with (fail)
    refine (HPK1.out _ _ _ _ T1 B1).mono ?_
    intro e w2 h2
    obtain ⟨A2, c2, rfl, B2, G⟩ := h2.shape
    have T2 := nxt T1 G
    rw [hl1] at B2 ⊢
    have HB2 := Lib.hid B2
    clear G B1 B2 h2
    go_wp2_with (fail)
    refine (HSC.out _ (HBB.out.below T2)).mono ?_
    rintro e w3 ⟨A3, n3, c3, rfl, B3, G⟩
    have HB2 := Lib.hid (HB2.out.below G)
    have T3 := nxt T2 G
    clear G
    go_wp2_with (fail)
    refine (HPK2.out _ _ _ _ T3 B3).mono ?_
    intro e w4 h4
    obtain ⟨A4, c4, rfl, B4, G⟩ := h4.shape
    have HB2 := Lib.hid (HB2.out.below G)
    have T4 := nxt T3 G
    rw [hl2] at B4 ⊢
    clear G B3 h4
    go_wp2_with (fail)
    refine (HW.out _ _ _ _ B4).mono ?_
    rintro e w5 ⟨A5, n5, c5, rfl, B5, G⟩
    have HB2 := Lib.hid (HB2.out.below G)
    have T5 := nxt T4 G
    have h5 : n5 ≤ 2000 := by have := B5.len; omega
    have HB5 := Lib.hid B5
    clear G B4 B5
    go_wp2_with (fail)
    refine (HPM.out _).mono ?_
    rintro e w6 ⟨A6, n6, c6, rfl, B6, G⟩
    have HB2 := Lib.hid (HB2.out.below G)
    have HB5 := Lib.hid (HB5.out.below G)
    have T6 := nxt T5 G
    obtain rfl : n6 = 4 := B6.len.symm
    have J := ojoin_own _ 3 3 [markB, pk, wv] _ (litrow w6 A6 A2 A5 4 4 n5 c6 c2 c5 markB pk wv rfl hl1 HB5.out.len B6 HB2.out HB5.out) (by omega) (by omega) (by have e1 : markB.length = 4 := rfl; simp [Lib.lens, e1]; omega) (by have e1 : markB.length = 4 := rfl; simp [e1]; omega)
    rw [HLB.out] at J
    have J := Lib.hid J
    clear G B6
    go_wp2_with (fail)
    refine J.out.mono ?_
    rintro e w7 ⟨g7, c7, rfl, O7, G⟩
    have T7 := nxt (T6.alloc T6.size _) G
    have B7 := O7.bys
    rw [HLL.out] at B7 ⊢
    clear G O7 J
    go_wp2_with (fail)
    refine (HPT.out _ _ _ _ B7).mono ?_
    rintro e w8 ⟨v8, rfl, hown8, T8⟩
    have HO8 := Lib.hid (hown8.down T7.size)
    have T8 := nxt T7 T8
    clear hown8 B7
    go_wp2
    go_ret2
    exact ⟨_, by rw [HSB.out]; rfl, by rw [HSB.out]; exact HO8.out, T8⟩
end Go.Proofs.YtkcpkfimmolkkaaDoor

/- Package line at its landed code: Hear, and all of its contracts. (The text comes out of wip/gen12k.py.) -/
namespace Go.Proofs.YtkcpkfimmolkkaaDoor
open Go.RowKit
set_option maxRecDepth 20000

theorem sliced_all (l : List Pt) : ∀ p ∈ slicedB l, Uni p := by
  intro p hp
  obtain ⟨q, _, rfl⟩ := List.mem_map.1 hp
  unfold sliceP Uni
  constructor <;> simp only <;> split <;> omega
theorem unpack_half (l : List UInt8) (k : Nat) (h : l.length ≤ 2 * k + 1) : (unpackB l).1.length ≤ k := by
  unfold unpackB
  split
  · simp
  · split
    · simp
    · cases h2 : unpL l with
      | none => simp
      | some p =>
        obtain ⟨o, n⟩ := p
        exact (unpL_cnt k l o n h h2).2
theorem numB_two (l : List UInt8) (h : l.length ≤ 2) : numB l < 65536 := by
  unfold numB
  split
  · have h1 := numOf_lt l l.length (Nat.le_refl _)
    rw [List.take_length] at h1
    have h2 : 256 ^ l.length ≤ 256 ^ 2 := Nat.pow_le_pow_right (by decide) h
    omega
  · decide
/-- the bytes that a window of sliced points tells: no error, so many -/
theorem told_window (x : List Pt) (hu : ∀ p ∈ x, Uni p) (i m : Nat) (hm : m ≤ 4096) (h : i + (4 * m + 1) ≤ x.length) : ((bytesB ((x.drop i).take (4 * m + 1))).2 = 0) ∧ (bytesB ((x.drop i).take (4 * m + 1))).1.length = m := by
  obtain ⟨r, h1, h2, _⟩ := bytes_uni ((x.drop i).take (4 * m + 1)) m (by rw [List.length_take, List.length_drop]; omega) hm (fun p hp => hu p (List.mem_of_mem_drop (List.mem_of_mem_take hp)))
  rw [h1]
  exact ⟨rfl, h2⟩
def FrmH (a : Act) : Prop := ∃ s0 s1 s2 s3 s4 s5 s6 s7 s8 s9 s10 s11 s12 s13 s14 s15 s16 s17 s18 s19 s20 s21 s22 s23 s24 s25 s26 s27 s28 s29 s30 s31 s32 s33 s34 s35 s36 s37 s38 s39 s40 s41 s42 s43 s44 s45 s46 s47 s48 s49 s50 s51 s52 s53 s54 s55 s56 s57 s58 s59 s60 s61 s62 s63 s64 s65 s66 s67 s68 s69 s70 s71 s72 s73 s74 s75 : Value, a = { tmps := #[s0, s1, s2, s3, s4, s5, s6, s7, s8, s9, s10, s11, s12, s13, s14, s15, s16, s17, s18, s19, s20, s21, s22, s23, s24, s25, s26, s27, s28, s29, s30, s31, s32, s33, s34, s35, s36, s37, s38, s39, s40, s41, s42, s43, s44, s45, s46, s47, s48, s49, s50, s51, s52, s53, s54, s55, s56, s57, s58, s59, s60, s61, s62, s63, s64, s65, s66, s67, s68, s69, s70, s71, s72, s73, s74, s75], defers := [] }
def HearJ (w0 : World) (l : List Pt) (lb : Nat) (a : Act) (wr : World) : Prop := lb = 0 ∧ FrmH a ∧ HearR l ([], 0, 120) ∧ Below w0.heap.size w0 wr

set_option maxHeartbeats 8000000 in
theorem hear12_any (A : Option Addr) (n c : Nat) (l : List Pt) (w : World) (hP : Cs w A n c l) (hn : n ≤ 1000) (hT : Tab10 w) :
    Calls Tryd.prog 15 #[.slice A n c] w (GivesHr w l) := by
  obtain rfl := hP.len
  have d1 : decide ((16384 : Int) < (l.length : Int)) = false := by simp; omega
  have HSL := Lib.hid (sliced_big A l.length c l w hP (by omega))
  have HPM := Lib.hid (fun W => put_any 449838109 4 W (by decide))
  rw [put_mark] at HPM
  have HPT : Hid (∀ A n c W, Bys W A n c markB → Calls Tryd.prog 30 #[.slice A n c] W (GivesC W markP)) := fun A n c W h => phC.points A n c markB W h
  have HFD : Hid (∀ A n c W B m d, Cs W A n c (slicedB l) → Cs W B m d markP → Calls Tryd.prog 39 #[.slice A n c, .slice B m d] W (GivesFd W (slicedB l) markP)) := fun A n c W B m d h k => find_big phC.turn A n c (slicedB l) B m d markP W h k near_unit (by have := h.len; have := sliced_len l; omega) (by have := k.len; have := mark_len; omega)
  have HLS : Hid ((slicedB l).length = l.length) := sliced_len l
  have HUN := Lib.hid (sliced_all l)
  have HHR : Hid (∀ a t ok r, FindR (slicedB l) markP a t ok → (r = if ok = true then heardB (slicedB l) a else ([], 0, 120)) → HearR l r) := fun a t ok r h1 h2 => .inr ⟨by omega, a, t, ok, h1, h2⟩
  have HKT := Lib.hid (fun W (T : Below w.heap.size w W) => haC.keep _ _ hT T)
  have HL0 : Hid (∀ W, Calls Tryd.prog 12 #[.int .i64 0] W fun e w' => e = .returned (.int .i64 33) ∧ W = w') := fun W => long12_any 0 W (by unfold In12; omega)
  have hxl : (slicedB l).length ≤ 1000 := by have := sliced_len l; omega
  clear hP hT
  generalize slicedB l = x at *
  go_enter Tryd.func15, Tryd.ntmps15
  go_wp2_with (fail)
  refine wp_scope_labels (HearJ w l) (fun _ _ => 0) ?_ ?_
  · go_wp2_with (fail)
    refine HSL.out.mono ?_
    rintro e w1 ⟨v1, rfl, hown1, T1⟩
    obtain ⟨A1, c1, rfl, hp1⟩ := hown1.shape
    have HP1 := Lib.hid hp1
    clear hown1 hp1
    go_wp2_with (fail)
    refine (HPM.out _).mono ?_
    rintro e w2 ⟨A2, n2, c2, rfl, B2, T2⟩
    have HP1 := Lib.hid (HP1.out.below T2)
    have T2 := nxt T1 T2
    go_wp2_with (fail)
    refine (HPT.out _ _ _ _ B2).mono ?_
    rintro e w3 ⟨v3, rfl, hown3, T3⟩
    obtain ⟨A3, c3, rfl, hp3⟩ := hown3.shape
    have HP1 := Lib.hid (HP1.out.below T3)
    have HP3 := Lib.hid hp3
    have T3 := nxt T2 T3
    clear hown3 hp3 B2
    go_wp2_with (fail)
    refine (HFD.out _ _ _ _ _ _ _ HP1.out HP3.out).mono ?_
    rintro e w4 ⟨a, t, ok, rfl, hf, T4⟩
    have HP1 := Lib.hid (HP1.out.below T4)
    have T4 := nxt T3 T4
    cases ok with
    | false =>
      have HR := Lib.hid (HHR.out a t false ([], 0, 120) hf rfl)
      clear hf
      go_wp2_with (fail)
      go_step3
      exact ⟨rfl, ⟨_, _, _, _, _, _, _, _, _, _, _, _, _, _, _, _, _, _, _, _, _, _, _, _, _, _, _, _, _, _, _, _, _, _, _, _, _, _, _, _, _, _, _, _, _, _, _, _, _, _, _, _, _, _, _, _, _, _, _, _, _, _, _, _, _, _, _, _, _, _, _, _, _, _, _, _, rfl⟩, HR.out, T4⟩
    | true =>
      have hfa : a + 17 ≤ x.length := by
        have := mark_len
        rcases hf with ⟨_, _, h, _⟩ | ⟨h, _⟩
        · omega
        · cases h
      have HH : Hid (∀ r, r = heardB x a → HearR l r) := fun r h => HHR.out a t true r hf (by rw [if_pos rfl]; exact h)
      have hxc := HP1.out.le
      have hxm := HP1.out.cap
      clear hf
      obtain ⟨g, o, _, _, rfl, hg, -⟩ := HP1.out.at_ 0 (by omega)
      by_cases e1 : x.length - a < 33
      · have d2 : decide (((x.length - a : Nat) : Int) < 33) = true := by simp; omega
        have HR := Lib.hid (HH.out _ (heard_e1 e1).symm)
        go_wp2_with (fail)
        refine (HL0.out _).mono ?_
        rintro e w5 ⟨rfl, rfl⟩
        go_wp2_with (fail)
        go_step3
        exact ⟨rfl, ⟨_, _, _, _, _, _, _, _, _, _, _, _, _, _, _, _, _, _, _, _, _, _, _, _, _, _, _, _, _, _, _, _, _, _, _, _, _, _, _, _, _, _, _, _, _, _, _, _, _, _, _, _, _, _, _, _, _, _, _, _, _, _, _, _, _, _, _, _, _, _, _, _, _, _, _, _, rfl⟩, HR.out, T4⟩
      · have d2 : decide (((x.length - a : Nat) : Int) < 33) = false := by simp; omega
        have e33 : a + 33 ≤ x.length := by omega
        go_wp2_with (fail)
        refine (HL0.out _).mono ?_
        rintro e w5 ⟨rfl, rfl⟩
        go_wp2_with (fail)
        refine (HL0.out _).mono ?_
        rintro e w5 ⟨rfl, rfl⟩
        go_wp2_with (fail)
        have hw1 := told_window x HUN.out (a + 16) 4 (by decide) (by omega)
        have HE2 : Hid (¬ (hdH x a).2 ≠ 0) := fun h => h hw1.1
        have HL4 : Hid ((hdH x a).1.length = 4) := hw1.2
        have HB1 : Hid (Calls Tryd.prog 41 #[.slice (some ⟨g, o + a + 16, none⟩) 17 (c1 - a - 16)] w4 (GivesB w4 (hdH x a).1)) := by
          have := told_any _ _ _ _ w4 (((HP1.out.drop a (by omega)).drop 16 (by omega)).take 17 (by omega))
          rw [List.drop_drop] at this
          exact this
        clear hw1
        refine HB1.out.mono ?_
        rintro e w5 ⟨A5, n5, c5, rfl, B5, T5⟩
        have HP1 := Lib.hid (HP1.out.below T5)
        have T5 := nxt T4 T5
        have HUP := Lib.hid (haC.unpack A5 n5 c5 _ w5 B5 (HKT.out _ T5))
        clear B5
        go_wp2_with (fail)
        refine HUP.out.mono ?_
        rintro e w6 ⟨A6, n6, c6, rfl, B6, T6⟩
        have HP1 := Lib.hid (HP1.out.below T6)
        have T6 := nxt T5 T6
        have hcnt := unpack_cnt (hdH x a).1
        have htwo := unpack_half (hdH x a).1 2 (by have := HL4.out; omega)
        have hl6 := B6.len
        obtain ⟨u, hu⟩ : ∃ u, unpackB (hdH x a).1 = u := ⟨_, rfl⟩
        have HU : Hid (hdU x a = u) := hu
        rw [hu] at hcnt htwo hl6 B6 ⊢
        obtain ⟨u1, um, ue⟩ := u
        simp only at hcnt htwo hl6 B6 ⊢
        have HB6 := Lib.hid B6
        have hNb := numB_two u1 htwo
        have HN : Hid (hdN x a = numB u1) := by show _ = _; unfold hdN; rw [HU.out]; rfl
        have HNU := Lib.hid (fun W (h : Bys W A6 n6 c6 u1) => number_any A6 n6 c6 u1 W h)
        clear B6 hu HUP HB1
        by_cases e3 : ¬ ue = 0
        · have d3 : ((ue : Int) != 0) = true := by simp; omega
          have HR := Lib.hid (HH.out _ (heard_e3 e1 HE2.out (.inl (by rw [HU.out]; exact e3))).symm)
          clear e3
          go_wp2_with (fail)
          go_step3
          exact ⟨rfl, ⟨_, _, _, _, _, _, _, _, _, _, _, _, _, _, _, _, _, _, _, _, _, _, _, _, _, _, _, _, _, _, _, _, _, _, _, _, _, _, _, _, _, _, _, _, _, _, _, _, _, _, _, _, _, _, _, _, _, _, _, _, _, _, _, _, _, _, _, _, _, _, _, _, _, _, _, _, rfl⟩, HR.out, T6⟩
        · obtain rfl : ue = 0 := Classical.not_not.1 e3
          have d3 : (((0 : Nat) : Int) != 0) = false := rfl
          generalize numB u1 = N at *
          have hum : um ≤ 100000 := hcnt.1
          have hcv : IntKind.i64.wrap (N : Int) = (N : Int) := IntWalk.i64_in _ (by omega)
          clear e3 hcnt htwo
          by_cases e3 : 512 < N
          · have d4 : decide ((512 : Int) < (N : Int)) = true := by simp; omega
            have HR := Lib.hid (HH.out _ (heard_e3 e1 HE2.out (.inr (by rw [HN.out]; exact e3))).symm)
            go_wp2_with (fail)
            refine (HNU.out _ HB6.out).mono ?_
            rintro e w7 ⟨rfl, hw⟩
            obtain rfl := hw
            go_wp2_with (fail)
            go_step3
            exact ⟨rfl, ⟨_, _, _, _, _, _, _, _, _, _, _, _, _, _, _, _, _, _, _, _, _, _, _, _, _, _, _, _, _, _, _, _, _, _, _, _, _, _, _, _, _, _, _, _, _, _, _, _, _, _, _, _, _, _, _, _, _, _, _, _, _, _, _, _, _, _, _, _, _, _, _, _, _, _, _, _, rfl⟩, HR.out, T6⟩
          · have d4 : decide ((512 : Int) < (N : Int)) = false := by simp; omega
            have HE3 : Hid (¬ ((hdU x a).2.2 ≠ 0 ∨ 512 < hdN x a)) := by show ¬ _; rw [HU.out, HN.out]; simp only; omega
            have HLG : Hid (∀ W, Calls Tryd.prog 12 #[.int .i64 (N : Int)] W fun e w' => e = .returned (.int .i64 (33 + 8 * (N : Int))) ∧ W = w') := fun W => by
              have h := long12_any (N : Int) W (by unfold In12; omega)
              rw [show longI (N : Int) = 33 + 8 * (N : Int) by unfold longI; rw [if_neg (by omega)]] at h
              exact h
            go_wp2_with (fail)
            refine (HNU.out _ HB6.out).mono ?_
            rintro e w7 ⟨rfl, hw⟩
            obtain rfl := hw
            go_wp2_with (fail)
            refine (HLG.out _).mono ?_
            rintro e w8 ⟨rfl, rfl⟩
            by_cases e4 : x.length - a < 33 + 8 * N
            · have d5 : decide (((x.length - a : Nat) : Int) < 33 + 8 * (N : Int)) = true := by simp; omega
              have HR := Lib.hid (HH.out _ (heard_e4 e1 HE2.out HE3.out (by rw [HN.out]; exact e4)).symm)
              go_wp2_with (fail)
              go_step3
              exact ⟨rfl, ⟨_, _, _, _, _, _, _, _, _, _, _, _, _, _, _, _, _, _, _, _, _, _, _, _, _, _, _, _, _, _, _, _, _, _, _, _, _, _, _, _, _, _, _, _, _, _, _, _, _, _, _, _, _, _, _, _, _, _, _, _, _, _, _, _, _, _, _, _, _, _, _, _, _, _, _, _, rfl⟩, HR.out, T6⟩
            · have d5 : decide (((x.length - a : Nat) : Int) < 33 + 8 * (N : Int)) = false := by simp; omega
              have HE4 : Hid (¬ x.length - a < 33 + 8 * hdN x a) := by show ¬ _; rw [HN.out]; exact e4
              have e34 : a + 33 + 8 * N ≤ x.length := by omega
              go_wp2_with (fail)
              refine (HLG.out _).mono ?_
              rintro e w8 ⟨rfl, rfl⟩
              go_wp2_with (fail)
              rw [show 33 + 8 * N - 32 = 8 * N + 1 by omega]
              have hw2 := told_window x HUN.out (a + 32) (2 * N) (by omega) (by omega)
              rw [show 4 * (2 * N) + 1 = 8 * hdN x a + 1 by rw [HN.out]; omega] at hw2
              have HE5 : Hid (¬ (hdC x a).2 ≠ 0) := fun h => h hw2.1
              have HCL : Hid ((hdC x a).1.length = 2 * N) := hw2.2
              have HB2 : Hid (Calls Tryd.prog 41 #[.slice (some ⟨g, o + a + 32, none⟩) (8 * N + 1) (c1 - a - 32)] w7 (GivesB w7 (hdC x a).1)) := by
                have := told_any _ _ _ _ w7 (((HP1.out.drop a (by omega)).drop 32 (by omega)).take (8 * N + 1) (by omega))
                rw [List.drop_drop] at this
                show Calls _ _ _ _ _
                unfold hdC
                rw [HN.out]
                exact this
              clear hw2
              refine HB2.out.mono ?_
              rintro e w8 ⟨A8, n8, c8, rfl, B8, T8⟩
              have T8 := nxt T6 T8
              have hn8 : n8 ≤ 5000 := by have := HCL.out; have := B8.len; omega
              have HUW := Lib.hid (weC.undo A8 n8 c8 _ 8 w8 B8 (by omega) (by unfold In11; omega))
              clear B8 HB2
              go_wp2_with (fail)
              refine HUW.out.mono ?_
              rintro e w9 ⟨A9, n9, c9, rfl, B9, T9⟩
              have T9 := nxt T8 T9
              have HUP2 := Lib.hid (haC.unpack A9 n9 c9 _ w9 B9 (HKT.out _ T9))
              clear B9 HUW
              go_wp2_with (fail)
              refine HUP2.out.mono ?_
              rintro e w10 ⟨A10, n10, c10, rfl, B10, T10⟩
              have T10 := nxt T9 T10
              have hcnt2 := unpack_cnt (unweaveB (hdC x a).1 8)
              obtain ⟨v, hv⟩ : ∃ v, unpackB (unweaveB (hdC x a).1 8) = v := ⟨_, rfl⟩
              have HV : Hid (hdV x a = v) := hv
              have hl10 := B10.len
              rw [hv] at hcnt2 B10 hl10 ⊢
              obtain ⟨v1, vm, ve⟩ := v
              simp only at hcnt2 B10 hl10 ⊢
              have HB10 := Lib.hid B10
              have hvm : vm ≤ 100000 := hcnt2.1
              have hn10 : n10 ≤ 8192 := by omega
              clear B10 hv HUP2 hcnt2 hl10
              by_cases e6 : ¬ ve = 0
              · have d7 : ((ve : Int) != 0) = true := by simp; omega
                have HR := Lib.hid (HH.out _ (heard_e6 e1 HE2.out HE3.out HE4.out HE5.out (by rw [HV.out]; exact e6)).symm)
                clear e6
                go_wp2_with (fail)
                go_step3
                exact ⟨rfl, ⟨_, _, _, _, _, _, _, _, _, _, _, _, _, _, _, _, _, _, _, _, _, _, _, _, _, _, _, _, _, _, _, _, _, _, _, _, _, _, _, _, _, _, _, _, _, _, _, _, _, _, _, _, _, _, _, _, _, _, _, _, _, _, _, _, _, _, _, _, _, _, _, _, _, _, _, _, rfl⟩, HR.out, T10⟩
              · have HE6 : Hid (¬ (hdV x a).2.2 ≠ 0) := by show ¬ _; rw [HV.out]; exact e6
                obtain rfl : ve = 0 := Classical.not_not.1 e6
                have d7 : (((0 : Nat) : Int) != 0) = false := rfl
                have HR := Lib.hid (HH.out _ (heard_ok e1 HE2.out HE3.out HE4.out HE5.out HE6.out).symm)
                have HSC := Lib.hid (scC.do_ 17217 A10 n10 c10 v1 w10 (by unfold In64; omega) HB10.out (by omega))
                clear e6
                go_wp2_with (fail)
                refine HSC.out.mono ?_
                rintro e w11 ⟨A11, n11, c11, rfl, B11, T11⟩
                have HB11 := Lib.hid B11
                have T11 := nxt T10 T11
                clear B11
                go_wp2_with (fail)
                rw [Jumps.ret]
                go_ret3
                have hr := HR.out
                rw [HU.out, HV.out] at hr
                exact ⟨_, _, _, _, hr, rfl, HB11.out, T11⟩
  · rintro lb a wr ⟨rfl, ⟨s0, s1, s2, s3, s4, s5, s6, s7, s8, s9, s10, s11, s12, s13, s14, s15, s16, s17, s18, s19, s20, s21, s22, s23, s24, s25, s26, s27, s28, s29, s30, s31, s32, s33, s34, s35, s36, s37, s38, s39, s40, s41, s42, s43, s44, s45, s46, s47, s48, s49, s50, s51, s52, s53, s54, s55, s56, s57, s58, s59, s60, s61, s62, s63, s64, s65, s66, s67, s68, s69, s70, s71, s72, s73, s74, s75, rfl⟩, hr, T⟩
    refine ⟨_, rfl, ?_⟩
    have HR := Lib.hid hr
    clear hr HSL HPM HPT HFD HLS HUN HHR HKT HL0
    go_wp2_with (fail)
    rw [Jumps.ret]
    go_ret3
    exact ⟨_, _, _, _, HR.out, rfl, Bys.nil _, T⟩
theorem liC : LiC Tab10 where
  keep := tab10_keep
  send := send12_any
  hear := hear12_any
  long := fun k w hk => (long12_any k w hk).mono fun _ _ h => ⟨h.1, by rw [← h.2]; exact Below.refl _ _⟩
end Go.Proofs.YtkcpkfimmolkkaaDoor
