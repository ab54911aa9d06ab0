/- The walk of layer 21's HearerWaits, over the contracts of hearer. -/
import Derived.Test.YtpdnpfohcnpenaaHeD
import Derived.Deep.RegionHeld3
import Derived.IntWalk
namespace Go.Proofs.Ytpdnpfohcnpenaa
open Go.RowKit
set_option maxRecDepth 20000

theorem ldk : ldAsk 0 = 1 ∧ ldCan 1 = true ∧ ldHear 1 = 0 ∧ ldMark 0 0 = 0 ∧ ldEnough 0 0 1 = true ∧ ldEnough 0 0 3 = true := by decide +kernel
def hw0 : Hs := ⟨1, [], 0, 0, [], 0, 0⟩
def hw1 : Hs := ⟨1, [], 1, 0, [], 0, 0⟩
def hwL (m n : List UInt8) (j : Nat) : Hs := ⟨1, [m], 0, 0, if j = 0 then [] else [(1, n, j)], 1, 0⟩
def hwR (n : List UInt8) : Hs := ⟨1, [n], 0, 0, [], 2, 1⟩
def hwE : Hs := ⟨1, [], 0, 0, [], 2, 2⟩
theorem hw_a : heTick hw0 = hw1 := by
  show { hw0 with o := ldAsk 0 } = hw1
  rw [ldk.1]
  rfl
theorem hw_b (m n : List UInt8) (hm : m.length ≤ 64) : heTake hw1 3 0 m = hwL m n 0 := by
  unfold heTake
  rw [if_neg (by omega), if_pos rfl]
  unfold heData
  rw [if_pos ⟨show ldCan 1 = true from ldk.2.1, rfl⟩]
  have hb : heBest { hw1 with o := ldHear 1, al := alAdd [] 0 m } = (m, 1) := rfl
  have hmay : heMay { hw1 with o := ldHear 1, al := alAdd [] 0 m } := by
    unfold heMay
    rw [hb]
    refine ⟨Nat.zero_lt_one, Nat.one_ne_zero, ?_, hm⟩
    show ldEnough (ldHear 1) 0 1 = true
    rw [ldk.2.2.1]
    exact ldk.2.2.2.2.1
  unfold heEnter
  rw [if_pos (show heMay { hw1 with o := ldHear hw1.o, al := alAdd hw1.al 0 m } from hmay)]
  show Hs.mk 1 ([] ++ [(heBest { hw1 with o := ldHear 1, al := alAdd [] 0 m }).1]) (ldHear 1) (ldMark (ldHear 1) 0) [] 1 0 = hwL m n 0
  rw [hb, ldk.2.2.1, ldk.2.2.2.1]
  rfl
theorem hw_add (n : List UInt8) (j : Nat) : alAdd (if j = 0 then [] else [(1, n, j)]) 1 n = [(1, n, j + 1)] := by
  by_cases h : j = 0
  · subst h
    rfl
  · rw [if_neg h]
    simp [alAdd, alAt, alCount]
theorem hw_c (m n : List UInt8) (j : Nat) : heTake (heTick (hwL m n j)) 3 1 n = hwL m n (j + 1) := by
  have e1 : heTick (hwL m n j) = { hwL m n j with o := 1 } := by
    show { hwL m n j with o := ldAsk 0 } = _
    rw [ldk.1]
  rw [e1]
  unfold heTake
  rw [if_neg (by omega), if_pos rfl]
  unfold heData
  rw [if_pos ⟨show ldCan 1 = true from ldk.2.1, rfl⟩]
  unfold heEnter
  rw [if_neg (fun h => absurd h.1 (by show ¬ (1 < 1); omega))]
  show Hs.mk 1 [m] (ldHear 1) 0 (alAdd (if j = 0 then [] else [(1, n, j)]) 1 n) 1 0 = _
  rw [ldk.2.2.1, hw_add]
  show _ = Hs.mk 1 [m] 0 0 (if j + 1 = 0 then [] else [(1, n, j + 1)]) 1 0
  rw [if_neg (by omega)]
theorem hw_d (m n : List UInt8) (hn : n.length ≤ 64) : heRecv (hwL m n 3) = hwR n := by
  unfold heRecv
  rw [if_neg (show (hwL m n 3).ls ≠ [] from List.cons_ne_nil _ _)]
  have hb : heBest { hwL m n 3 with ls := [m].tail, ret := 0 + 1 } = (n, 3) := rfl
  have hmay : heMay { hwL m n 3 with ls := [m].tail, ret := 0 + 1 } := by
    unfold heMay
    rw [hb]
    exact ⟨Nat.zero_lt_one, (by show 3 ≠ 0; omega), ldk.2.2.2.2.2, hn⟩
  unfold heEnter
  rw [if_pos (show heMay { hwL m n 3 with ls := (hwL m n 3).ls.tail, ret := (hwL m n 3).ret + 1 } from hmay)]
  show Hs.mk 1 ([] ++ [(heBest { hwL m n 3 with ls := [m].tail, ret := 0 + 1 }).1]) 0 (ldMark 0 0) [] 2 1 = hwR n
  rw [hb, ldk.2.2.2.1]
  rfl
theorem hw_e (n : List UInt8) : heRecv (hwR n) = hwE := by
  unfold heRecv
  rw [if_neg (show (hwR n).ls ≠ [] from List.cons_ne_nil _ _)]
  unfold heEnter
  rw [if_neg (fun h => h.2.1 rfl)]
  rfl
theorem hw_f : heRecv hwE = hwE := rfl
theorem hwL_ok (m n : List UInt8) (j : Nat) (hm : m.length ≤ 64) (hn : n.length ≤ 64) (hj : j ≤ 3) : HeFew 3 (hwL m n j) := by
  have hal : (if j = 0 then [] else [(1, n, j)] : List Tal).length ≤ 3 ∧ ∀ t ∈ (if j = 0 then [] else [(1, n, j)] : List Tal), t.2.2 ≤ 3 ∧ t.2.1.length ≤ 64 := by
    split
    · exact ⟨by simp, fun t ht => by cases ht⟩
    · refine ⟨by simp, fun t ht => ?_⟩
      rw [List.mem_singleton] at ht
      subst ht
      exact ⟨hj, hn⟩
  refine ⟨⟨⟨Nat.le_refl _, by show 1 ≤ 16; omega, Nat.le_refl _, fun u hu => ?_⟩, by show 0 < _; omega, by show 0 < _; omega, ⟨Nat.le_trans hal.1 (by omega), fun t ht => ⟨Nat.le_trans (hal.2 t ht).1 (by omega), Nat.le_trans (hal.2 t ht).2 (by omega)⟩⟩, by show 1 ≤ _; omega, Nat.zero_le _⟩, hal.1, fun t ht => (hal.2 t ht).1, by show 1 ≤ 3; omega, Nat.zero_le _⟩
  rw [List.mem_singleton.1 (show u ∈ [m] from hu)]
  exact hm
theorem hwR_ok (n : List UInt8) (hn : n.length ≤ 64) : HeFew 3 (hwR n) := by
  refine ⟨⟨⟨Nat.le_refl _, by show 1 ≤ 16; omega, Nat.le_refl _, fun u hu => ?_⟩, by show 0 < _; omega, by show 0 < _; omega, ⟨Nat.zero_le _, fun t ht => by cases ht⟩, by show 2 ≤ _; omega, by show 1 ≤ _; omega⟩, Nat.zero_le _, (fun t ht => by cases ht), by show 2 ≤ 3; omega, by show 1 ≤ 3; omega⟩
  rw [List.mem_singleton.1 (show u ∈ [n] from hu)]
  exact hn
theorem hwE_ok : HeFew 3 hwE :=
  ⟨⟨⟨Nat.le_refl _, by show 1 ≤ 16; omega, Nat.zero_le _, fun u hu => by cases hu⟩, by show 0 < _; omega, by show 0 < _; omega, ⟨Nat.zero_le _, fun t ht => by cases ht⟩, by show 2 ≤ _; omega, by show 2 ≤ _; omega⟩, Nat.zero_le _, (fun t ht => by cases ht), by show 2 ≤ 3; omega, by show 2 ≤ 3; omega⟩
set_option maxHeartbeats 16000000 in
theorem walk_HearerWaits {F : Nat → Hs → World → (Nat → Prop) → Prop} (C : HeC F) (A : Option Addr) (n c : Nat) (m : List UInt8) (A' : Option Addr) (n' c' : Nat) (m' : List UInt8) (w : World) (hA : Bys w A n c m) (hA' : Bys w A' n' c' m') :
    Calls Try.prog 5 #[.slice A n c, .slice A' n' c'] w fun e w' => e = .returned (.bool true) ∧ Below w.heap.size w w' := by
  have HL := Lib.hid (fun W => live21_any C W)
  have HN := Lib.hid num21_any
  have hl := hA.len
  have hl' := hA'.len
  have HB := Lib.hid (fun W (U : Below w.heap.size w W) => hA.below U)
  have HB' := Lib.hid (fun W (U : Below w.heap.size w W) => hA'.below U)
  by_cases h1 : 64 < n
  · have d1 : decide ((64 : Int) < (n : Int)) = true := by simp; omega
    clear h1 hA hA'
    go_enter Try.func5, Try.ntmps5
    go_wp2_with (fail)
    refine (HL.out _).mono ?_
    rintro e w2 ⟨rfl, T2⟩
    go_wp2
    go_ret
    exact ⟨rfl, T2⟩
  have d1 : decide ((64 : Int) < (n : Int)) = false := by simp; omega
  by_cases h2 : 64 < n'
  · have d2 : decide ((64 : Int) < (n' : Int)) = true := by simp; omega
    clear h1 h2 hA hA'
    go_enter Try.func5, Try.ntmps5
    go_wp2_with (fail)
    refine (HL.out _).mono ?_
    rintro e w2 ⟨rfl, T2⟩
    go_wp2
    go_ret
    exact ⟨rfl, T2⟩
  have d2 : decide ((64 : Int) < (n' : Int)) = false := by simp; omega
  have hm : m.length ≤ 64 := by omega
  have hm' : m'.length ≤ 64 := by omega
  have hav : ∀ Z : Nat → Prop, (∀ k, Z k → w.heap.size ≤ k) → Av Z n A := fun Z hZ hn p e hx => by
    obtain ⟨b9, o9, e', hb9, _⟩ := hA.at_ hn
    rw [e] at e'
    injection e' with e'
    subst e'
    have : w.heap.size ≤ b9 := hZ _ hx
    omega
  have hav' : ∀ Z : Nat → Prop, (∀ k, Z k → w.heap.size ≤ k) → Av Z n' A' := fun Z hZ hn p e hx => by
    obtain ⟨b9, o9, e', hb9, _⟩ := hA'.at_ hn
    rw [e] at e'
    injection e' with e'
    subst e'
    have : w.heap.size ≤ b9 := hZ _ hx
    omega
  have HV := Lib.hid hav
  have HV' := Lib.hid hav'
  have f0 : HeFew 0 hw0 := HeFew.new 1 0 (by omega) (by omega) (by omega)
  have f1 : HeFew 1 hw1 := hw_a ▸ f0.tick
  have G1 := Lib.hid (C.new_yes 1 0 w (by omega) (by omega) (by omega))
  have g2 := fun g W X h => C.tick g hw0 W X h f0.1
  rw [hw_a] at g2
  have G2 := Lib.hid g2
  have g3 := fun g W X (U : Below w.heap.size w W) (hX : ∀ k, X k → w.heap.size ≤ k) h => C.take g hw1 3 0 A n c m W X h f1.1 (by decide) (by have := alCount_le f1.2.2.1 0 m; omega) (by decide) ⟨by omega, by omega⟩ ⟨by omega, by omega⟩ (hA.below U) (hav X hX) (fun _ => by omega)
  rw [hw_b m m' hm] at g3
  have G3 := Lib.hid g3
  have G4 := Lib.hid (fun j (hj : j < 3) g W X h => C.tick g (hwL m m' j) W X h (hwL_ok m m' j hm hm' (by omega)).1)
  have G5 := Lib.hid (fun (j : Nat) (hj : j < 3) (g : Nat) (W : World) (X : Nat → Prop) (U : Below w.heap.size w W) (hX : ∀ k, X k → w.heap.size ≤ k) (h : F g (heTick (hwL m m' j)) W X) => by
    have fj := (hwL_ok m m' j hm hm' (by omega)).tick
    have q := C.take g (heTick (hwL m m' j)) 3 1 A' n' c' m' W X h fj.1 (by have := fj.2.1; omega) (by have := alCount_le fj.2.2.1 1 m'; omega) (by have := fj.2.2.2.1; omega) ⟨by omega, by omega⟩ ⟨by omega, by omega⟩ (hA'.below U) (hav' X hX) (fun _ => by omega)
    rw [hw_c m m' j] at q
    exact q)
  have f3 := hwL_ok m m' 3 hm hm' (Nat.le_refl _)
  have G6 : Hid (∀ g W X, F g (hwL m m' 3) W X → Calls Try.prog 21 #[.pointer (some ⟨g, 0, none⟩)] W fun e w' => (∃ (x y : Int) (q : Bool), e = .returned (.agg #[.int .i64 1, .int .i64 0, .int .u64 x, .int .u64 y, .bool q])) ∧ Below W.heap.size W w') := fun g W X h => (C.state g (hwL m m' 3) W X h).mono (fun _ _ ⟨h1, h2⟩ => ⟨⟨_, _, _, h1⟩, h2⟩)
  have g7 := fun g W X h => C.recv g (hwL m m' 3) W X h f3.1 (by show 1 < 1000000; omega) (by show 0 < 1000000; omega)
  rw [hw_d m m' hm'] at g7
  have G7 : Hid (∀ g W X, F g (hwL m m' 3) W X → Calls Try.prog 17 #[.pointer (some ⟨g, 0, none⟩)] W (GivesRf (F g (hwR m')) X m true W)) := g7
  have G8 : Hid (∀ g W X, F g (hwR m') W X → Calls Try.prog 21 #[.pointer (some ⟨g, 0, none⟩)] W fun e w' => (∃ (x y : Int) (q : Bool), e = .returned (.agg #[.int .i64 2, .int .i64 1, .int .u64 x, .int .u64 y, .bool q])) ∧ Below W.heap.size W w') := fun g W X h => (C.state g (hwR m') W X h).mono (fun _ _ ⟨h1, h2⟩ => ⟨⟨_, _, _, h1⟩, h2⟩)
  have g9 := fun g W X h => C.recv g (hwR m') W X h (hwR_ok m' hm').1 (by show 2 < 1000000; omega) (by show 1 < 1000000; omega)
  rw [hw_e m'] at g9
  have G9 : Hid (∀ g W X, F g (hwR m') W X → Calls Try.prog 17 #[.pointer (some ⟨g, 0, none⟩)] W (GivesRf (F g hwE) X m' true W)) := g9
  have G10 : Hid (∀ g W X, F g hwE W X → Calls Try.prog 17 #[.pointer (some ⟨g, 0, none⟩)] W (GivesRf (F g hwE) X [] false W)) := fun g W X h => by
    have q := C.recv g hwE W X h hwE_ok.1 (by decide) (by decide)
    rw [hw_f] at q
    exact q
  have hf0 : ∀ (W : World) (x y : Int) (u v : Int) (q : Bool), (Instr.field 50 (.agg #[.int .i64 x, .int .i64 y, .int .u64 u, .int .u64 v, .bool q]) 0).run Try.prog W = .ok (.int .i64 x) W := fun _ _ _ _ _ _ => by kernel_rfl
  clear h1 h2 hA hA' hav hav' g2 g3 g7 g9 f0 f1 f3 hl hl' hm hm'
  go_enter Try.func5, Try.ntmps5
  go_wp2_with (fail)
  refine G1.out.mono ?_
  rintro e w1 ⟨g, X0, rfl, q1, x1, T1⟩
  have O1 : Hid (OneAt w.heap.size (F g hw0) X0 w1) := ⟨q1, x1, T1.size⟩
  clear q1 x1
  go_wp2_with (fail)
  refine (HN.out _ _).mono ?_
  rintro e w2 ⟨rfl, rfl⟩
  go_wp2_with (fail)
  refine (G2.out g _ X0 O1.out.p).mono ?_
  rintro e w2 ⟨At, nt, ct, X2, rfl, -, q2, t2⟩
  obtain ⟨o2, b2⟩ := O1.out.turn (P' := F g hw1) q2 t2
  have O2 := Lib.hid o2
  have U2 := T1.trans b2
  clear q2 t2 o2 b2 T1 O1
  go_wp2_with (fail)
  refine (G3.out g _ X2 U2 O2.out.2.1 O2.out.p).mono ?_
  rintro e w3 ⟨Ax, nx, cx, X3, rfl, -, q3, t3⟩
  obtain ⟨o3, b3⟩ := O2.out.turn (P' := F g (hwL m m' 0)) q3 t3
  have O3 := Lib.hid o3
  have U3 := U2.trans b3
  clear q3 t3 o3 b3 U2 O2
  go_wp2_with (fail)
  go_loopw [7] (fun i wr => ∃ (j : Nat) (X : Nat → Prop), j ≤ 3 ∧ i = .int .i64 (j : Int) ∧ Hid (OneAt w.heap.size (F g (hwL m m' j)) X wr) ∧ Below w.heap.size w wr) (fun i _ => 3 - (intOf i).toNat)
  case atStart => exact ⟨0, X3, Nat.zero_le _, rfl, O3, U3⟩
  case round =>
    clear O3 U3 G1 G2 G3
    obtain ⟨j, X, hj, rfl, O, hbel⟩ := hrel
    by_cases hlt : j < 3
    · have d0 : decide ((j : Int) < 3) = true := by simp; omega
      go_wp2_with (fail)
      refine (G4.out j hlt g _ X O.out.p).mono ?_
      rintro e w4 ⟨At4, nt4, ct4, X4, rfl, -, q4, t4⟩
      obtain ⟨o4, b4⟩ := O.out.turn (P' := F g (heTick (hwL m m' j))) q4 t4
      have O4 := Lib.hid o4
      have U4 := hbel.trans b4
      clear q4 t4 o4 b4 hbel O
      go_wp2_with (fail)
      refine (G5.out j hlt g _ X4 U4 O4.out.2.1 O4.out.p).mono ?_
      rintro e w5 ⟨At5, nt5, ct5, X5, rfl, -, q5, t5⟩
      obtain ⟨o5, b5⟩ := O4.out.turn (P' := F g (hwL m m' (j + 1))) q5 t5
      have O5 := Lib.hid o5
      have U5 := U4.trans b5
      clear q5 t5 o5 b5 U4 O4
      go_wp2
      go_roundw
      case rel => exact ⟨j + 1, _, by omega, by go_num, O5.out, U5⟩
      case measure => simp [intOf]; omega
    · obtain rfl : j = 3 := by omega
      go_wp2_with (fail)
      refine (G6.out g _ X O.out.p).mono ?_
      rintro e w6 ⟨⟨x6, y6, b6, rfl⟩, T6⟩
      have O6 := Lib.hid (O.out.below (C.holds _ _) T6)
      have U6 := nxt hbel T6
      clear T6 O hbel
      go_wp2_with (fail)
      refine (G7.out g _ X O6.out.p).mono ?_
      rintro e w7 ⟨Am, nm, cm, X7, rfl, bm, am, -, q7, t7⟩
      obtain ⟨o7, b7⟩ := O6.out.turn (P' := F g (hwR m')) q7 t7
      have O7 := Lib.hid o7
      have BM := Lib.hid (And.intro bm am)
      have U7 := U6.trans b7
      clear q7 t7 o7 b7 bm am U6 O6
      go_wp2_with (fail)
      refine (G8.out g _ X7 O7.out.p).mono ?_
      rintro e w8 ⟨⟨x8, y8, b8, rfl⟩, T8⟩
      have V9 := (Below.refl _ w8).alloc (Nat.le_refl _) (.cells #[.int .i64 2, .int .i64 1, .int .u64 x8, .int .u64 y8, .bool b8] 50)
      have hrow := heap_alloc_new w8 (.cells #[.int .i64 2, .int .i64 1, .int .u64 x8, .int .u64 y8, .bool b8] 50)
      have T9 := nxt T8 V9
      have O9 := Lib.hid (O7.out.below (C.holds _ _) T9)
      have BM9 := Lib.hid (And.intro (BM.out.1.below T9) BM.out.2)
      have U9 := nxt U7 T9
      obtain ⟨sb, hsb⟩ : ∃ sb, w8.heap.size = sb := ⟨_, rfl⟩
      rw [hsb] at hrow
      have hns : ¬ X7 sb := fun hx => by have := (C.holds _ _).lt ((C.holds _ _).below O7.out.p T8) _ hx; omega
      have HR9 := Lib.hid hrow
      have HNS := Lib.hid hns
      clear hns
      clear T8 V9 T9 O7 U7 BM hrow
      go_wp2_with (fail)
      generalize w8.alloc (.cells #[.int .i64 2, .int .i64 1, .int .u64 x8, .int .u64 y8, .bool b8] 50) = w9 at *
      refine (G9.out g _ X7 O9.out.p).mono ?_
      rintro e w10 ⟨An, nn, cn, X10, rfl, bn, an, -, q10, t10⟩
      have HR10 := Lib.hid ((t10.off.block sb (lt_row HR9.out) HNS.out).trans HR9.out)
      have HN10 : Hid (¬ X10 sb) := fun hx => by
        rcases t10.grow _ hx with h | h
        · exact HNS.out h
        · have := lt_row HR9.out; omega
      have BM10 : Hid (Bys w10 Am nm cm m ∧ Av X10 nm Am) := ⟨BM9.out.1.off BM9.out.2 t10.off, fun hn p e hx => by
        rcases t10.grow _ hx with h | h
        · exact BM9.out.2 hn p e h
        · obtain ⟨b9, o9, e', hb9, _⟩ := BM9.out.1.at_ hn
          rw [e] at e'
          have e2 := Option.some.inj e'
          subst e2
          exact absurd hb9 (Nat.not_lt.2 h)⟩
      obtain ⟨o10, b10⟩ := O9.out.turn (P' := F g hwE) q10 t10
      have O10 := Lib.hid o10
      have BN := Lib.hid (And.intro bn an)
      have U10 := U9.trans b10
      clear q10 t10 o10 b10 bn an U9 O9 BM9 HR9 HNS
      go_wp2_with (fail)
      refine (G10.out g _ X10 O10.out.p).mono ?_
      rintro e w11 ⟨Az, nz, cz, X11, rfl, -, -, -, q11, t11⟩
      have HR11 := Lib.hid ((t11.off.block sb (lt_row HR10.out) HN10.out).trans HR10.out)
      have BM11 := Lib.hid (BM10.out.1.off BM10.out.2 t11.off)
      have BN11 := Lib.hid (BN.out.1.off BN.out.2 t11.off)
      obtain ⟨o11, b11⟩ := O10.out.turn (P' := F g hwE) q11 t11
      have U11 := U10.trans b11
      have HS1 := Lib.hid (same_true _ _ _ _ _ _ _ _ BM11.out (HB.out _ U11))
      clear q11 t11 o11 b11 U10 O10 HR10 BM10 BN
      go_wp2_with (fail)
      refine HS1.out.mono ?_
      rintro e w12 ⟨rfl, T12⟩
      have U12 := nxt U11 T12
      have HS2 := Lib.hid (same_true _ _ _ _ _ _ _ _ (BN11.out.below T12) (HB'.out _ U12))
      have HR12 := Lib.hid ((T12.block sb (lt_row HR11.out)).trans HR11.out)
      clear T12 U11
      go_wp2_with (fail)
      refine HS2.out.mono ?_
      rintro e w13 ⟨rfl, T13⟩
      have U13 := nxt U12 T13
      have hr13 := (T13.block sb (lt_row HR12.out)).trans HR12.out
      obtain ⟨z0, z1, -, -, -⟩ := row5 hr13
      clear T13 U12 hr13
      go_wp2_with (fail)
      refine (HL.out _).mono ?_
      rintro e w14 ⟨rfl, T14⟩
      have U14 := nxt U13 T14
      go_wp2
      go_ret
      exact ⟨rfl, U14⟩
end Go.Proofs.Ytpdnpfohcnpenaa
