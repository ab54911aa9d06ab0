/- Package flight by its contracts; what layer 16's law's own live, alike answer over them. -/
import Derived.Test.YtgppoapdpgblmaaRfl7
namespace Go.Proofs.Ytgppoapdpgblmaa
open Go.RowKit
set_option maxRecDepth 20000

/-- A call's end that tells a frame in new memory, its two texts in blocks of their own. -/
def GivesFn (w : World) (r : Frm × Nat) (e : Ending) (w' : World) : Prop := ∃ A1 c1 A2 c2, e = .returned (.tuple #[.agg #[.int .i64 (r.1.1 : Int), .slice A1 r.1.2.1.length c1, .slice A2 r.1.2.2.length c2], .int .i64 (r.2 : Int)]) ∧ Fre w' (· < w.heap.size) A1 r.1.2.1.length c1 r.1.2.1 ∧ Fre w' (fun k => k < w.heap.size ∨ (0 < r.1.2.1.length ∧ ∃ p, A1 = some p ∧ p.block = k)) A2 r.1.2.2.length c2 r.1.2.2 ∧ Below w.heap.size w w'
/-- .. that tells a frame which is the flight's no longer -/
def GivesTn (F : Nat → Fs → World → (Nat → Prop) → Prop) (g : Nat) (s' : Fs) (X : Nat → Prop) (w : World) (r : Frm × Nat) (e : Ending) (w' : World) : Prop := ∃ A1 c1 A2 c2 X', e = .returned (.tuple #[.agg #[.int .i64 (r.1.1 : Int), .slice A1 r.1.2.1.length c1, .slice A2 r.1.2.2.length c2], .int .i64 (r.2 : Int)]) ∧ Fre w' X' A1 r.1.2.1.length c1 r.1.2.1 ∧ Fre w' X' A2 r.1.2.2.length c2 r.1.2.2 ∧
  (0 < r.1.2.1.length → ∀ p, A1 = some p → X p.block ∨ w.heap.size ≤ p.block) ∧ (0 < r.1.2.2.length → ∀ p, A2 = some p → X p.block ∨ w.heap.size ≤ p.block) ∧ F g s' w' X' ∧ Turns X X' w w'
/-- what package flight answers, in plain words: F g s w X: at block g lies a flight in the state s; its blocks are X -/
structure FliC (F : Nat → Fs → World → (Nat → Prop) → Prop) : Prop where
  holds : ∀ g s, Holds (F g s)
  new_yes : ∀ (life : Nat) (w : World), life ≤ 4096 → Calls Try.prog 8 #[.int .i64 (life : Int)] w fun e w' => ∃ g X, e = .returned (.tuple #[.pointer (some ⟨g, 0, none⟩), .int .i64 0]) ∧ F g ⟨life, 0, [], 0, [], 0⟩ w' X ∧ (∀ k, X k → w.heap.size ≤ k) ∧ Below w.heap.size w w'
  new_no : ∀ (life : Int) (w : World), I64 life → life < 0 ∨ 4096 < life → Calls Try.prog 8 #[.int .i64 life] w fun e w' => e = .returned (.tuple #[.pointer none, .int .i64 1]) ∧ Below w.heap.size w w'
  put : ∀ (g : Nat) (s : Fs) (d : Int) (A : Option Addr) (n c : Nat) (b : List UInt8) (w : World) (X : Nat → Prop), F g s w X → I64 d → Bys w A n c b → Av X n A → s.s0 < 1000000 → s.s1 < 1000000 → s.gone ≤ 90000000 → Calls Try.prog 11 #[.pointer (some ⟨g, 0, none⟩), .int .i64 d, .slice A n c] w fun e w' => e = .returned (.int .i64 ((fsPutE s d n : Nat) : Int)) ∧ ∃ X', F g (fsPut s d b) w' X' ∧ Turns X X' w w'
  len : ∀ (g : Nat) (s : Fs) (d : Int) (w : World) (X : Nat → Prop), F g s w X → I64 d → Calls Try.prog 21 #[.pointer (some ⟨g, 0, none⟩), .int .i64 d] w fun e w' => e = .returned (.int .i64 ((fsLen s d : Nat) : Int)) ∧ Below w.heap.size w w'
  sent : ∀ (g : Nat) (s : Fs) (d : Int) (w : World) (X : Nat → Prop), F g s w X → I64 d → Calls Try.prog 24 #[.pointer (some ⟨g, 0, none⟩), .int .i64 d] w fun e w' => e = .returned (.int .i64 ((fsSent s d : Nat) : Int)) ∧ Below w.heap.size w w'
  gone : ∀ (g : Nat) (s : Fs) (w : World) (X : Nat → Prop), F g s w X → Calls Try.prog 23 #[.pointer (some ⟨g, 0, none⟩)] w fun e w' => e = .returned (.int .i64 (s.gone : Int)) ∧ Below w.heap.size w w'
  at_ : ∀ (g : Nat) (s : Fs) (d i : Int) (w : World) (X : Nat → Prop), F g s w X → I64 d → I64 i → Calls Try.prog 22 #[.pointer (some ⟨g, 0, none⟩), .int .i64 d, .int .i64 i] w (GivesFn w (fsAt s d i))
  take : ∀ (g : Nat) (s : Fs) (d i : Int) (w : World) (X : Nat → Prop), F g s w X → I64 d → I64 i → Calls Try.prog 13 #[.pointer (some ⟨g, 0, none⟩), .int .i64 d, .int .i64 i] w (GivesTn F g (fsTake s d i) X w (fsAt s d i))
  spoil : ∀ (g : Nat) (s : Fs) (d i : Int) (A : Option Addr) (n c : Nat) (es : List Ed) (w : World) (X : Nat → Prop), F g s w X → I64 d → I64 i → Eds w A n c es → n ≤ 500000 → Calls Try.prog 16 #[.pointer (some ⟨g, 0, none⟩), .int .i64 d, .int .i64 i, .slice A n c] w fun e w' => e = .returned (.int .i64 (((fsAt s d i).2 : Nat) : Int)) ∧ ∃ X', F g (fsSpoil s d i es) w' X' ∧ Turns X X' w w'
theorem num16_any (k : Int) (w : World) : Calls Try.prog 10 #[.int .i64 k] w fun e w' => e = .returned (.int .i64 k) ∧ w = w' := by
  go_enter Try.func10, Try.ntmps10
  go_wp2
  go_ret
  exact ⟨rfl, rfl⟩
/-- the flight of the page's example behind j frames -/
def fl3 : Nat → Fs
  | 0 => ⟨2, 0, [], 0, [], 0⟩
  | j + 1 => fsPut (fl3 j) 0 [UInt8.ofNat j]
theorem fl3_few : ∀ j, j < 3 → (fl3 j).s0 < 1000000 ∧ (fl3 j).s1 < 1000000 ∧ (fl3 j).gone ≤ 90000000 := fun j hj => by
  have : j = 0 ∨ j = 1 ∨ j = 2 := by omega
  rcases this with rfl | rfl | rfl <;> decide +kernel
theorem fl3_end : fsAt (fl3 3) 0 0 = ((2, [1], [1]), 0) ∧ fsLen (fl3 3) 0 = 2 ∧ (fl3 3).gone = 1 ∧ fsSent (fl3 3) 0 = 3 := by decide +kernel
set_option maxHeartbeats 2000000 in
theorem live16_any {F : Nat → Fs → World → (Nat → Prop) → Prop} (C : FliC F) (w : World) : Calls Try.prog 7 #[] w fun e w' => e = .returned (.bool true) ∧ Below w.heap.size w w' := by
  have H0 := Lib.hid (C.new_yes 2 w (by omega))
  have HN := Lib.hid num16_any
  have HP := Lib.hid (fun (j : Nat) (hj : j < 3) g A c W X (h : F g (fl3 j) W X) (hB : Bys W A 1 c [UInt8.ofNat j]) (hA : Av X 1 A) => C.put g (fl3 j) 0 A 1 c [UInt8.ofNat j] W X h ⟨by omega, by omega⟩ hB hA (fl3_few j hj).1 (fl3_few j hj).2.1 (fl3_few j hj).2.2)
  obtain ⟨e1, e2, e3, e4⟩ := fl3_end
  have h1 := fun g W X (h : F g (fl3 3) W X) => C.at_ g (fl3 3) 0 0 W X h ⟨by omega, by omega⟩ ⟨by omega, by omega⟩
  have h2 := fun g W X (h : F g (fl3 3) W X) => C.len g (fl3 3) 0 W X h ⟨by omega, by omega⟩
  have h3 := fun g W X (h : F g (fl3 3) W X) => C.gone g (fl3 3) W X h
  have h4 := fun g W X (h : F g (fl3 3) W X) => C.sent g (fl3 3) 0 W X h ⟨by omega, by omega⟩
  rw [e1] at h1
  rw [e2] at h2
  rw [e3] at h3
  rw [e4] at h4
  have H1 := Lib.hid h1
  have H2 := Lib.hid h2
  have H3 := Lib.hid h3
  have H4 := Lib.hid h4
  have hst : ∀ j, fsPut (fl3 j) 0 [UInt8.ofNat j] = fl3 (j + 1) := fun _ => rfl
  have HST := Lib.hid hst
  have H00 : Hid (fl3 0 = ⟨2, 0, [], 0, [], 0⟩) := rfl
  clear h1 h2 h3 h4 e1 e2 e3 e4 hst
  go_enter Try.func7, Try.ntmps7
  go_wp2_with (fail)
  refine H0.out.mono ?_
  rintro e w1 ⟨g, X0, rfl, q1, x1, T1⟩
  rw [← H00.out] at q1
  have HT : Hid (OneAt w.heap.size (F g (fl3 0)) X0 w1) := ⟨q1, x1, T1.size⟩
  clear q1 x1 H0 H00
  go_wp2_with (fail)
  go_loopw [3] (fun i wr => ∃ (j : Nat) (X : Nat → Prop), j ≤ 3 ∧ i = .int .i64 (j : Int) ∧ Hid (OneAt w.heap.size (F g (fl3 j)) X wr) ∧ Below w.heap.size w wr) (fun i _ => 3 - (intOf i).toNat)
  case atStart => exact ⟨0, X0, by omega, rfl, HT.out, T1⟩
  case round =>
    clear HT T1
    obtain ⟨j, X, hj, rfl, HT, hbel⟩ := hrel
    by_cases hlt : j < 3
    · have d1 : decide ((j : Int) < 3) = true := by simp; omega
      have d1' : (j : Int) < 3 := by omega
      have hu : ((UInt8.ofNat j).toNat : Int) = (j : Int) := by rw [UInt8.toNat_ofNat', Nat.mod_eq_of_lt (by omega)]
      have hB : Hid (Bys (wr.alloc (.cells #[.int .u8 (j : Int)] 5)) (some ⟨wr.heap.size, 0, none⟩) 1 1 [UInt8.ofNat j]) := by
        have h := Bys.lit wr [UInt8.ofNat j] (by simp)
        have e : bvs [UInt8.ofNat j] = [.int .u8 (j : Int)] := by show [Value.int .u8 ((UInt8.ofNat j).toNat : Int)] = _; rw [hu]
        rw [e] at h
        exact h
      have hX := HT.out
      have HTa := Lib.hid (HT.out.below (C.holds _ _) ((Below.refl _ wr).alloc (Nat.le_refl _) (.cells #[.int .u8 (j : Int)] 5)))
      have hav : Hid (Av X 1 (some ⟨wr.heap.size, 0, none⟩)) := fun _ p e hx => by
        injection e with e
        subst e
        have : wr.heap.size < wr.heap.size := (C.holds g (fl3 j)).lt HT.out.1 _ hx
        omega
      have jm : (j : Int) % 256 = (j : Int) := by omega
      have hba := hbel.alloc hbel.size (.cells #[.int .u8 (j : Int)] 5)
      clear hu hX
      go_wp2_with (fail)
      refine (HP.out j hlt g _ _ _ X HTa.out.p hB.out hav.out).mono ?_
      rintro e w2 ⟨rfl, X2, q2, t2⟩
      rw [HST.out] at q2
      obtain ⟨k1, k2⟩ := HTa.out.turn q2 t2
      have HT2 := Lib.hid k1
      have hb2 := hba.trans k2
      clear q2 t2 k1 k2
      go_wp2
      go_roundw
      case rel => exact ⟨j + 1, X2, by omega, by go_num, HT2.out, hb2⟩
      case measure => simp [intOf]; omega
    · obtain rfl : j = 3 := by omega
      go_wp2_with (fail)
      refine (H1.out g _ X HT.out.p).mono ?_
      rintro e w2 ⟨A1, c1, A2, c2, rfl, -, -, T2⟩
      have HT2 := Lib.hid (HT.out.below (C.holds _ _) T2)
      have hb2 := nxt hbel T2
      have U0 := (Below.refl _ w2).alloc (Nat.le_refl _) (.cells #[.int .i64 2, .slice A1 1 c1, .slice A2 1 c2] 40)
      have HT3 := Lib.hid (HT2.out.below (C.holds _ _) U0)
      have hb3 := hb2.alloc hb2.size (.cells #[.int .i64 2, .slice A1 1 c1, .slice A2 1 c2] 40)
      clear T2 HT
      go_wp2_with (fail)
      refine (HN.out _ _).mono ?_
      rintro e w3 ⟨rfl, rfl⟩
      go_wp2_with (fail)
      refine (HN.out _ _).mono ?_
      rintro e w3 ⟨rfl, rfl⟩
      go_wp2_with (fail)
      refine (H2.out g _ X HT3.out.p).mono ?_
      rintro e w4 ⟨rfl, T4⟩
      have HT4 := Lib.hid (HT3.out.below (C.holds _ _) T4)
      have hb4 := nxt hb3 T4
      go_wp2_with (fail)
      refine (H3.out g _ X HT4.out.p).mono ?_
      rintro e w5 ⟨rfl, T5⟩
      have HT5 := Lib.hid (HT4.out.below (C.holds _ _) T5)
      have hb5 := nxt hb4 T5
      go_wp2_with (fail)
      refine (H4.out g _ X HT5.out.p).mono ?_
      rintro e w6 ⟨rfl, T6⟩
      have hb6 := nxt hb5 T6
      go_wp2
      go_ret
      exact ⟨rfl, hb6⟩
end Go.Proofs.Ytgppoapdpgblmaa
