/- The walk of layer 16's FlightApart, over the contracts of flight. -/
import Derived.Test.YtgppoapdpgblmaaFliD
import Derived.Deep.RegionHeld3
import Derived.IntWalk
namespace Go.Proofs.Ytgppoapdpgblmaa
open Go.RowKit
set_option maxRecDepth 20000
theorem Fre.first {w : World} {Y : Nat → Prop} {A : Option Addr} {n c : Nat} {l : List UInt8} (h : Fre w Y A n c l) (hn : 0 < n) : ∃ (b o x : Nat), A = some ⟨b, o, none⟩ ∧ ¬ Y b ∧ b < w.heap.size ∧ w.cell? ⟨b, o, none⟩ = some (.int .u8 (x : Int)) ∧ x < 256 ∧ w.frozen? ⟨b, o, none⟩ = false := by
  obtain ⟨b, o, rfl, hf⟩ := h.2.2 hn
  obtain ⟨b', o', e, hb, hc⟩ := h.1.at_ hn
  injection e with e
  injection e with e1 e2
  subst e1 e2
  have hl := h.1.len
  exact ⟨b, o, (l[0]'(by omega)).toNat, rfl, h.2.1 hn _ rfl, hb, by simpa using hc 0 (by omega), (l[0]'(by omega)).toNat_lt, hf 0 hn⟩
theorem setCell_size (w : World) (p : Addr) (v : Value) : (w.setCell p v).heap.size = w.heap.size := by simp [World.setCell]
def fa0 : Fs := ⟨0, 0, [], 0, [], 0⟩
def fa1 (m : List UInt8) : Fs := ⟨0, 0, [], 0, [(1, m, m)], 1⟩
def fa2 (m : List UInt8) (es : List Ed) : Fs := ⟨0, 0, [], 0, [(1, edDo m es, m)], 1⟩
theorem fa_put (m : List UInt8) (h : m.length ≤ 512) : fsPut fa0 1 m = fa1 m := by
  have he : fsPutE fa0 1 m.length = 0 := by
    unfold fsPutE
    rw [if_neg (by omega), if_neg (by omega), if_neg (by show ¬ 4096 ≤ 0; omega)]
  unfold fsPut
  rw [if_pos he, if_neg (by omega)]
  rfl
theorem fa_at (m : List UInt8) : fsAt (fa1 m) 1 0 = ((1, m, m), 0) := rfl
theorem fa_spoil (m : List UInt8) (es : List Ed) : fsSpoil (fa1 m) 1 0 es = fa2 m es := rfl
theorem fa_at2 (m : List UInt8) (es : List Ed) : fsAt (fa2 m es) 1 0 = ((1, edDo m es, m), 0) := rfl
set_option maxHeartbeats 4000000 in
theorem walk_FlightApart {F : Nat → Fs → World → (Nat → Prop) → Prop} (C : FliC F) (A : Option Addr) (n c : Nat) (m : List UInt8) (AE : Option Addr) (nE cE : Nat) (es : List Ed) (w : World) (hB : Bys w A n c m) (hE : Eds w AE nE cE es) :
    Calls Try.prog 5 #[.slice A n c, .slice AE nE cE] w fun e w' => e = .returned (.bool true) ∧ Below w.heap.size w w' := by
  have HL := Lib.hid (fun W => live16_any C W)
  have HN := Lib.hid num16_any
  have hml := hB.len
  have hnc := hB.le
  have hcm := hB.cap
  have hE1 := hE.2.1
  have hE2 := hE.2.2.1
  unfold maxLen at hE2
  by_cases hn : 500 < n ∨ n = 0 ∨ 20 < nE
  · have hcase : ∃ t1 t2 t3 : Bool, decide ((500 : Int) < (n : Int)) = t1 ∧ ((n : Int) == 0) = t2 ∧ decide ((20 : Int) < (nE : Int)) = t3 ∧ (t1 = true ∨ t2 = true ∨ t3 = true) := by
      refine ⟨_, _, _, rfl, rfl, rfl, ?_⟩
      simp
      omega
    obtain ⟨t1, t2, t3, d1, d2, d3, ht⟩ := hcase
    clear hB hE hn
    cases t1 <;> cases t2 <;> cases t3
    all_goals
      first
        | (simp at ht; done)
        | (clear ht
           go_enter Try.func5, Try.ntmps5
           go_wp2_with (fail)
           refine (HL.out _).mono ?_
           rintro e w1 ⟨rfl, T1⟩
           go_wp2
           go_ret
           exact ⟨rfl, T1⟩)
  · have hn0 : 0 < n := by omega
    have hn5 : n ≤ 500 := by omega
    have hnE : nE ≤ 20 := by omega
    have G1 := Lib.hid (C.new_yes 0 w (by omega))
    have G2 := Lib.hid (fun W (T : Below w.heap.size w W) => rcopy_any A n c m W (hB.below T) (by omega))
    have g3 := fun g W X A' c' (h : F g fa0 W X) hA (hv : Av X n A') => C.put g fa0 1 A' n c' m W X h ⟨by omega, by omega⟩ hA hv (by show 0 < _; omega) (by show 0 < _; omega) (by show 0 ≤ _; omega)
    rw [fa_put m (by omega)] at g3
    have G3 := Lib.hid g3
    have g4 := fun g W X (h : F g (fa1 m) W X) => C.at_ g (fa1 m) 1 0 W X h ⟨by omega, by omega⟩ ⟨by omega, by omega⟩
    rw [fa_at] at g4
    have G4 := Lib.hid g4
    have g5 := fun g W X (h : F g (fa1 m) W X) (hE : Eds W AE nE cE es) => C.spoil g (fa1 m) 1 0 AE nE cE es W X h ⟨by omega, by omega⟩ ⟨by omega, by omega⟩ hE (by omega)
    rw [fa_at, fa_spoil] at g5
    have G5 := Lib.hid g5
    have g6 := fun g W X (h : F g (fa2 m es) W X) => C.take g (fa2 m es) 1 0 W X h ⟨by omega, by omega⟩ ⟨by omega, by omega⟩
    rw [fa_at2] at g6
    have G6 := Lib.hid g6
    have HB := Lib.hid (fun W (T : Below w.heap.size w W) => hB.below T)
    have HE0 := Lib.hid (fun W (T : Below w.heap.size w W) => hE.below T)
    have HML := Lib.hid hml
    have H00 : Hid (fa0 = ⟨0, 0, [], 0, [], 0⟩) := rfl
    have d1 : ((n : Int) == 0) = false := by simp; omega
    have d2 : decide ((500 : Int) < (n : Int)) = false := by simp; omega
    have d4 : decide ((20 : Int) < (nE : Int)) = false := by simp; omega
    clear hB hE g3 g4 g5 g6 hn hml
    go_enter Try.func5, Try.ntmps5
    go_wp2_with (fail)
    refine G1.out.mono ?_
    rintro e w1 ⟨ga, X0, rfl, q1, x1, T1⟩
    have Q1 := Lib.hid q1
    have hlt1 := (C.holds _ _).lt q1
    clear q1
    go_wp2_with (fail)
    refine (G2.out _ T1).mono ?_
    rintro e w2 ⟨v1, rfl, hw2, U2⟩
    rw [HML.out] at hw2
    obtain ⟨A1, cA, rfl⟩ := own_shape hw2
    have F2 := Fre.of_own hw2
    obtain ⟨g1, o1, x, rfl, hg1, hg1w, k1, hx, k2⟩ := F2.first hn0
    have T2 := nxt T1 U2
    have Q2 := Lib.hid ((C.holds _ _).below Q1.out U2)
    have BA := Lib.hid F2.1
    have hgx : ¬ X0 g1 := fun h => hg1 (hlt1 _ h)
    have HAV0 : Hid (Av X0 n (some ⟨g1, o1, none⟩)) := fun _ p e h => by injection e with e; subst e; exact hgx h
    clear hw2 F2 Q1
    go_wp2_with (fail)
    with_reducible refine (G3.out _ _ _ _ _ Q2.out BA.out HAV0.out).mono ?_
    rintro e w3 ⟨rfl, X1, q3, t3⟩
    have c3 := (t3.off.cell (p := ⟨g1, o1, none⟩) hg1w hgx).trans k1
    have f3 := (frozen_of_block (t3.off.block g1 hg1w hgx) o1).trans k2
    have hgx1 : ¬ X1 g1 := fun h => (t3.grow g1 h).elim hgx (fun h => by omega)
    have x3 : ∀ k, X1 k → w.heap.size ≤ k := fun k hk => (t3.grow k hk).elim (x1 k) (fun h => Nat.le_trans T2.size h)
    have T3 := T2.trans (t3.off.below x1 T2.size)
    have hg1B : w.heap.size ≤ g1 := by have := T1.size; omega
    have hlt3 := (C.holds _ _).lt q3
    have hs3 := t3.off.size
    have HE : Hid (∀ v, F ga (fa1 m) (w3.setCell ⟨g1, o1, none⟩ v) X1 ∧ Below w.heap.size w (w3.setCell ⟨g1, o1, none⟩ v)) := fun v =>
      ⟨(C.holds _ _).off q3 ((Off.refl (· = g1) w3).setCell (p := ⟨g1, o1, none⟩) (.inl rfl) v) (fun k hk e => hgx1 (e ▸ hk)), T3.trans (((Off.refl (· = g1) w3).setCell (p := ⟨g1, o1, none⟩) (.inl rfl) v).below (fun k hk => by subst hk; exact hg1B) T3.size)⟩
    clear q3 t3 k1 k2 BA Q2 hg1 hgx x1 hlt1 hgx1 hg1B
    go_wp2_with (fail)
    with_reducible refine (G4.out _ _ _ (HE.out _).1).mono ?_
    rintro e w4 ⟨A2, c2, A6, c6, rfl, f4, j2, T4⟩
    simp only at f4 j2 ⊢
    rw [HML.out] at f4 j2 ⊢
    have Q4 := (C.holds _ _).below (HE.out _).1 T4
    have T4w := nxt (HE.out _).2 T4
    rw [setCell_size] at f4 j2
    have hs4 := T4.size
    rw [setCell_size] at hs4
    obtain ⟨g2, o2, y, rfl, hg2, hg2w, k1, hy, k2⟩ := f4.first hn0
    obtain ⟨g6, o6, z, rfl, hg6, hg6w, k3, hz, k4⟩ := j2.first hn0
    have hg26 : g2 ≠ g6 := fun e => hg6 (.inr ⟨hn0, _, rfl, e⟩)
    have ba := (Below.refl _ w4).alloc (Nat.le_refl _) (.cells #[.int .i64 1, .slice (some ⟨g2, o2, none⟩) n c2, .slice (some ⟨g6, o6, none⟩) n c6] 40)
    have T5w := nxt T4w ba
    have Q5 := Lib.hid ((C.holds _ _).below Q4 ba)
    have i1 := T1.size
    have i2 := U2.size
    have hg2B : w.heap.size ≤ g2 := by have := T2.size; omega
    have hg6B : w.heap.size ≤ g6 := by have h9 : ¬ g6 < w3.heap.size := fun h => hg6 (.inl h); have := T2.size; omega
    have hn2 : ¬ X1 g2 := fun h => hg2 (hlt3 _ h)
    have hn6 : ¬ X1 g6 := fun h => hg6 (.inl (hlt3 _ h))
    have hXs : ∀ k, X1 k → k < w3.heap.size := hlt3
    obtain ⟨w5, hw5⟩ : ∃ w5, w4.alloc (.cells #[.int .i64 1, .slice (some ⟨g2, o2, none⟩) n c2, .slice (some ⟨g6, o6, none⟩) n c6] 40) = w5 := ⟨_, rfl⟩
    have g8 := heap_alloc_new w4 (.cells #[.int .i64 1, .slice (some ⟨g2, o2, none⟩) n c2, .slice (some ⟨g6, o6, none⟩) n c6] 40)
    have hbx : w4.heap.size ≠ g2 ∧ w4.heap.size ≠ g6 := ⟨by omega, by omega⟩
    obtain ⟨xb, hxb⟩ : ∃ xb, w4.heap.size = xb := ⟨_, rfl⟩
    rw [hxb] at g8 hbx
    have B5 := Lib.hid (fun W (T : Below (w4.alloc (.cells #[.int .i64 1, .slice (some ⟨g2, o2, none⟩) n c2, .slice (some ⟨g6, o6, none⟩) n c6] 40)).heap.size (w4.alloc (.cells #[.int .i64 1, .slice (some ⟨g2, o2, none⟩) n c2, .slice (some ⟨g6, o6, none⟩) n c6] 40)) W) => And.intro ((f4.1.below ba).below T) (And.intro ((j2.1.below ba).below T) (HB.out W (nxt T5w T))))
    have K := Lib.hid (fun W (T : Below (w4.alloc (.cells #[.int .i64 1, .slice (some ⟨g2, o2, none⟩) n c2, .slice (some ⟨g6, o6, none⟩) n c6] 40)).heap.size (w4.alloc (.cells #[.int .i64 1, .slice (some ⟨g2, o2, none⟩) n c2, .slice (some ⟨g6, o6, none⟩) n c6] 40)) W) => And.intro ((T.block _ (lt_row g8)).trans g8) (And.intro (((nxt ba T).cell (p := ⟨g2, o2, none⟩) hg2w).trans k1) (And.intro ((frozen_of_block ((nxt ba T).block g2 hg2w) o2).trans k2) (And.intro (((nxt ba T).cell (p := ⟨g6, o6, none⟩) hg6w).trans k3) ((frozen_of_block ((nxt ba T).block g6 hg6w) o6).trans k4)))))
    have HE : Hid (∀ W (_ : Below (w4.alloc (.cells #[.int .i64 1, .slice (some ⟨g2, o2, none⟩) n c2, .slice (some ⟨g6, o6, none⟩) n c6] 40)).heap.size (w4.alloc (.cells #[.int .i64 1, .slice (some ⟨g2, o2, none⟩) n c2, .slice (some ⟨g6, o6, none⟩) n c6] 40)) W) v v', F ga (fa1 m) ((W.setCell ⟨g2, o2, none⟩ v).setCell ⟨g6, o6, none⟩ v').drew X1 ∧ Below w.heap.size w ((W.setCell ⟨g2, o2, none⟩ v).setCell ⟨g6, o6, none⟩ v').drew) := fun W T v v' => by
      have O : Off (fun k => k = g2 ∨ k = g6) W ((W.setCell ⟨g2, o2, none⟩ v).setCell ⟨g6, o6, none⟩ v').drew := (((Off.refl _ W).setCell (p := ⟨g2, o2, none⟩) (.inl (.inl rfl)) v).setCell (p := ⟨g6, o6, none⟩) (.inl (.inr rfl)) v').drew
      refine ⟨(C.holds _ _).off ((C.holds _ _).below Q5.out T) O (fun k hk h => ?_), ?_⟩
      · rcases h with rfl | rfl
        · exact hn2 hk
        · exact hn6 hk
      · have TW := nxt T5w T
        refine TW.trans (O.below (fun k h => ?_) TW.size)
        rcases h with rfl | rfl
        · exact hg2B
        · exact hg6B
    have HS := Lib.hid hXs
    have hs5 : w3.heap.size ≤ (w4.alloc (.cells #[.int .i64 1, .slice (some ⟨g2, o2, none⟩) n c2, .slice (some ⟨g6, o6, none⟩) n c6] 40)).heap.size := by simp; omega
    clear Q5 Q4 f4 j2 k1 k2 k3 k4 hg2 hg6 hlt3 hn2 hn6 hg2B hg6B i1 i2 hs4 hg2w hg6w T5w T4w T4 U2 T2 T1 hg1w hs3 hXs ba g8 f3 c3 T3
    go_wp2_with (fail)
    rw [hw5] at B5 K HE hs5
    clear hw5 hxb
    have P5 := Below.refl w5.heap.size w5
    refine (HN.out _ _).mono ?_
    rintro e w5' ⟨rfl, rfl⟩
    obtain ⟨r0, r1, r2⟩ := eq3 (K.out _ P5).1
    go_wp2_with (fail)
    refine (same_true _ _ _ _ _ _ m w5 (B5.out _ P5).1 (B5.out _ P5).2.2).mono ?_
    rintro e w6 ⟨rfl, T6⟩
    have P6 := nxt P5 T6
    clear r0 r1 r2
    obtain ⟨r0, r1, r2⟩ := eq3 (K.out _ P6).1
    go_wp2_with (fail)
    refine (same_true _ _ _ _ _ _ m w6 (B5.out _ P6).2.1 (B5.out _ P6).2.2).mono ?_
    rintro e w7 ⟨rfl, T7⟩
    have P7 := nxt P6 T7
    clear r0 r1 r2
    obtain ⟨r0, r1, r2⟩ := eq3 (K.out _ P7).1
    obtain ⟨-, kg2, kf2, kg6, kf6⟩ := K.out _ P7
    have hs7 := P7.size
    obtain ⟨hb2, hb6⟩ := hbx
    go_wp2_with (fail)
    go_region
    have hqt := HE.out _ P7 (.int .u8 (bits .xor .u8 (y : Int) 1)) (.int .u8 (bits .xor .u8 (z : Int) 1))
    have hsW : w7.heap.size ≤ (((w7.setCell ⟨g2, o2, none⟩ (.int .u8 (bits .xor .u8 (y : Int) 1))).setCell ⟨g6, o6, none⟩ (.int .u8 (bits .xor .u8 (z : Int) 1))).drew).heap.size := by
      show w7.heap.size ≤ ((w7.setCell ⟨g2, o2, none⟩ (.int .u8 (bits .xor .u8 (y : Int) 1))).setCell ⟨g6, o6, none⟩ (.int .u8 (bits .xor .u8 (z : Int) 1))).heap.size
      rw [setCell_size, setCell_size]
      exact Nat.le_refl _
    generalize (((w7.setCell ⟨g2, o2, none⟩ (.int .u8 (bits .xor .u8 (y : Int) 1))).setCell ⟨g6, o6, none⟩ (.int .u8 (bits .xor .u8 (z : Int) 1))).drew) = W at *
    have HQW := Lib.hid hqt
    have hX1W : Hid (∀ k, X1 k → k < W.heap.size) := fun k hk => by have := HS.out k hk; omega
    have HX3 := Lib.hid x3
    clear hqt r0 r1 r2 kg2 kf2 kg6 kf6 P5 P6 P7 T6 T7 B5 K HE hs5 hs7 hg26 hb2 hb6 hsW HS x3
    go_wp2_with (fail)
    with_reducible refine (G4.out _ _ _ HQW.out.1).mono ?_
    rintro e w8 ⟨A8, c8, A9, c9, rfl, f8, -, T8⟩
    simp only at f8 ⊢
    rw [HML.out] at f8 ⊢
    have ba := (Below.refl _ w8).alloc (Nat.le_refl _) (.cells #[.int .i64 1, .slice A8 n c8, .slice A9 n c9] 40)
    have T8a := nxt T8 ba
    have Q9 := Lib.hid ((C.holds _ _).below HQW.out.1 T8a)
    have hb8 := nxt HQW.out.2 T8a
    have hs8 := T8.size
    have hbx8 : ¬ X1 w8.heap.size := fun h => by have := hX1W.out _ h; omega
    have G8 := Lib.hid (heap_alloc_new w8 (.cells #[.int .i64 1, .slice A8 n c8, .slice A9 n c9] 40))
    have av8 : Av X1 n A8 := f8.2.1.imp (fun k hk => hX1W.out k hk)
    have B8 := Lib.hid (And.intro (f8.1.below ba) av8)
    have HB8 := Lib.hid hb8
    have hsa : (w8.alloc (.cells #[.int .i64 1, .slice A8 n c8, .slice A9 n c9] 40)).heap.size = w8.heap.size + 1 := by simp
    have HSA := Lib.hid hsa
    clear f8 av8 T8 T8a ba hb8 HQW hsa
    go_wp2_with (fail)
    refine (G5.out _ _ _ Q9.out (HE0.out _ HB8.out)).mono ?_
    rintro e w9 ⟨rfl, X2, q9, t9⟩
    have B9 := B8.out.1.off B8.out.2 t9.off
    have av9 : Av X2 n A8 := fun hn p e h => by
      rcases t9.grow _ h with h1 | h1
      · exact B8.out.2 hn p e h1
      · obtain ⟨b', o', e', hb', _⟩ := B8.out.1.at_ hn
        rw [e] at e'
        injection e' with e'
        subst e'
        simp only at h1
        omega
    have g9 := (t9.off.block _ (lt_row G8.out) hbx8).trans G8.out
    have hbx9 : ¬ X2 w8.heap.size := fun h => (t9.grow _ h).elim hbx8 (fun h1 => by have := HSA.out; omega)
    have lb2 : ∀ k, X2 k → w.heap.size ≤ k := fun k hk => (t9.grow k hk).elim (HX3.out k) (fun h1 => Nat.le_trans HB8.out.size h1)
    have hb9 := HB8.out.trans (t9.off.below HX3.out HB8.out.size)
    have Q10 := Lib.hid q9
    have B10 := Lib.hid (And.intro B9 (And.intro av9 (And.intro g9 (And.intro hbx9 (And.intro lb2 hb9)))))
    clear q9 t9 B9 av9 g9 hbx9 lb2 hb9 Q9 hbx8
    go_wp2_with (fail)
    refine (G6.out _ _ _ Q10.out).mono ?_
    rintro e w10 ⟨A10, c10, A11, c11, X3, rfl, -, f11, -, -, -, t10⟩
    simp only at f11 ⊢
    rw [HML.out] at f11 ⊢
    obtain ⟨LE, hLE⟩ : ∃ LE, (edDo m es).length = LE := ⟨_, rfl⟩
    rw [hLE]
    obtain ⟨b9, av9, g9, hbx9, lb2, hb9⟩ := B10.out
    have ba := (Below.refl _ w10).alloc (Nat.le_refl _) (.cells #[.int .i64 1, .slice A10 LE c10, .slice A11 n c11] 40)
    have b10 := (b9.off av9 t10.off).below ba
    have g10 := hp_old ((t10.off.block _ (lt_row g9) hbx9).trans g9) (.cells #[.int .i64 1, .slice A10 LE c10, .slice A11 n c11] 40)
    have g11 := heap_alloc_new w10 (.cells #[.int .i64 1, .slice A10 LE c10, .slice A11 n c11] 40)
    have hb10 := hb9.trans (t10.off.below lb2 hb9.size)
    have hb11 := hb10.alloc hb10.size (.cells #[.int .i64 1, .slice A10 LE c10, .slice A11 n c11] 40)
    have b11 := f11.1.below ba
    obtain ⟨r0, r1, r2⟩ := eq3 g10
    have HF := Lib.hid (And.intro b10 (And.intro b11 (And.intro g11 hb11)))
    clear b9 av9 g9 hbx9 lb2 hb9 ba b10 g10 g11 hb10 hb11 b11 f11 t10 hLE
    go_wp2_with (fail)
    refine (HN.out _ _).mono ?_
    rintro e w11 ⟨rfl, rfl⟩
    go_wp2_with (fail)
    refine (HN.out _ _).mono ?_
    rintro e w11 ⟨rfl, rfl⟩
    go_wp2_with (fail)
    refine (same_true _ _ _ _ _ _ m _ HF.out.1 (HB.out _ HF.out.2.2.2)).mono ?_
    rintro e w12 ⟨rfl, T12⟩
    have hb12 := nxt HF.out.2.2.2 T12
    obtain ⟨s0, s1, s2⟩ := eq3 ((T12.block _ (lt_row HF.out.2.2.1)).trans HF.out.2.2.1)
    clear r0 r1 r2
    go_wp2_with (fail)
    refine (same_true _ _ _ _ _ _ m _ (HF.out.2.1.below T12) (HB.out _ hb12)).mono ?_
    rintro e w13 ⟨rfl, T13⟩
    have hb13 := nxt hb12 T13
    go_wp2_with (fail)
    refine (HL.out _).mono ?_
    rintro e w14 ⟨rfl, T14⟩
    have hb14 := nxt hb13 T14
    go_wp2
    go_ret
    exact ⟨rfl, hb14⟩
end Go.Proofs.Ytgppoapdpgblmaa
