/- What kedgeref05.Scan answers. -/
import Derived.Test.YtjpmfomabofjpaaRframe
import Derived.Test.YtjpmfomabofjpaaDeframeM
import Derived.Test.YtjpmfomabofjpaaFresh
import Derived.Test.YtjpmfomabofjpaaCutB
import Derived.Laws.Rows
namespace Go.Proofs.Ytjpmfomabofjpaa
open Go.RowKit

def talR (g b l z : Nat) : Value := .agg #[.int .i64 (g : Int), .int .i64 (b : Int), .int .i64 (l : Int), .int .i64 (z : Int)]
/-- a tally lies at the head of block g -/
def TalB (w : World) (o : Nat) (g b l z : Nat) : Prop := w.heap[o]? = some (.cells #[.int .i64 (g : Int), .int .i64 (b : Int), .int .i64 (l : Int), .int .i64 (z : Int)] 53 (0, 0))
theorem TalB.off {X : Nat → Prop} {w w' : World} {o g b l z : Nat} (h : TalB w o g b l z) (hX : ¬ X o) (k : Off X w w') : TalB w' o g b l z := (k.block o (lt_of_block h) hX).trans h
theorem TalB.cells {w : World} {o g b l z : Nat} (h : TalB w o g b l z) : w.cell? ⟨o, 0, none⟩ = some (.int .i64 (g : Int)) ∧ w.cell? ⟨o, 1, none⟩ = some (.int .i64 (b : Int)) ∧ w.cell? ⟨o, 2, none⟩ = some (.int .i64 (l : Int)) ∧ w.cell? ⟨o, 3, none⟩ = some (.int .i64 (z : Int)) := by
  refine ⟨?_, ?_, ?_, ?_⟩ <;> (rw [cell_of_row w _ _ _ _ _ h]; rfl)
theorem TalB.free {w : World} {o g b l z : Nat} (h : TalB w o g b l z) (j : Nat) : w.frozen? ⟨o, j, none⟩ = false := frozen_of_row w _ _ _ _ h
theorem TalB.good {w : World} {o g b l z : Nat} (h : TalB w o g b l z) : TalB (w.setCell ⟨o, 0, none⟩ (.int .i64 ((g : Int) + 1))) o (g + 1) b l z := heap_setCell_same w o 0 _ _ _ h
theorem TalB.bad {w : World} {o g b l z : Nat} (h : TalB w o g b l z) : TalB (w.setCell ⟨o, 1, none⟩ (.int .i64 ((b : Int) + 1))) o g (b + 1) l z := heap_setCell_same w o 1 _ _ _ h
theorem TalB.long {w : World} {o g b l z : Nat} (h : TalB w o g b l z) : TalB (w.setCell ⟨o, 2, none⟩ (.int .i64 ((l : Int) + 1))) o g b (l + 1) z := heap_setCell_same w o 2 _ _ _ h
theorem TalB.noise {w : World} {o g b l z : Nat} (h : TalB w o g b l z) : TalB (w.setCell ⟨o, 3, none⟩ (.int .i64 ((z : Int) + 1))) o g b l (z + 1) := heap_setCell_same w o 3 _ _ _ h

theorem TalB.fill {w : World} {o a1 a2 a3 a4 : Nat} (h : TalB w o a1 a2 a3 a4) (g b l z : Nat) :
    TalB ((((w.setCell ⟨o, 0, none⟩ (.int .i64 (g : Int))).setCell ⟨o, 1, none⟩ (.int .i64 (b : Int))).setCell ⟨o, 2, none⟩ (.int .i64 (l : Int))).setCell ⟨o, 3, none⟩ (.int .i64 (z : Int))).drew o g b l z :=
  heap_setCell_same _ o 3 _ _ _ (heap_setCell_same _ o 2 _ _ _ (heap_setCell_same _ o 1 _ _ _ (heap_setCell_same w o 0 _ _ _ h)))
theorem results_scan (tmps : Array Value) (W : World) (u : Value) (o g b l z : Nat) (h2 : tmps[2]? = some u) (h3 : tmps[3]? = some (.pointer (some ⟨o, 0, none⟩))) (hT : TalB W o g b l z) :
    (results Try.f31 tmps).run Try.prog W = .ok (.tuple #[u, talR g b l z]) W := by
  obtain ⟨c0, c1, c2, c3⟩ := hT.cells
  simp [results, Try.results31, h2, h3, go_sem, c0, c1, c2, c3, talR]

/-- what Scan answers -/
def ScanP (w : World) (b : List UInt8) (e : Ending) (w' : World) : Prop :=
  ∃ P c g bd l z, e = .returned (.tuple #[.slice P (scRun (scNew, []) b).2.length c, talR g bd l z]) ∧ Rws w' P (scRun (scNew, []) b).2.length c (scRun (scNew, []) b).2 ∧ Cnt (scRun (scNew, []) b).1 g bd l z ∧ Below w.heap.size w w'
theorem noflag_snoc (b : List UInt8) (i k : Nat) (hi : i ≤ k) (hk : k < b.length) (h : ∀ x ∈ (b.take k).drop i, x ≠ 0x7e) (hx : b[k] ≠ 0x7e) : ∀ x ∈ (b.take (k + 1)).drop i, x ≠ 0x7e := by
  intro x hm
  rw [List.take_succ_eq_append_getElem hk, List.drop_append_of_le_length (by simp; omega)] at hm
  rcases List.mem_append.1 hm with hm | hm
  · exact h x hm
  · simp at hm
    rw [hm]
    exact hx

theorem two_new (w : World) (o o' : Obj) : ((w.alloc o).alloc o').heap[w.heap.size + 1]? = some o' ∧ ((w.alloc o).alloc o').heap[w.heap.size]? = some o ∧ ((w.alloc o).alloc o').heap.size = w.heap.size + 2 := by
  have h1 := heap_alloc_new (w.alloc o) o'
  have h2 : (w.alloc o).heap.size = w.heap.size + 1 := by simp
  rw [h2] at h1
  refine ⟨h1, ?_, by simp⟩
  rw [Below.heap_alloc _ _ _ (by omega)]
  exact heap_alloc_new w o
/-- what the outer loop is at -/
def ScanI (w : World) (b : List UInt8) (z : Nat) (v : Value) (k : Nat) (wr : World) : Prop :=
  ∃ (g bd l : Nat) (out : List (List UInt8)), Sinv b k g bd l z out ∧ OwnR wr (w.heap.size + 2) v out ∧ TalB wr (w.heap.size + 1) g bd l z ∧ TalB wr w.heap.size 0 0 0 0 ∧ Below w.heap.size w wr ∧ w.heap.size + 2 ≤ wr.heap.size ∧ g ≤ k ∧ bd ≤ k ∧ l ≤ k ∧ out.length ≤ k

set_option maxHeartbeats 4000000 in
set_option maxRecDepth 100000 in
theorem scan_any (A : Option Addr) (n c : Nat) (b : List UInt8) (w : World) (h : Bys w A n c b) (hn : n ≤ 1073741824) :
    Calls Try.prog 31 #[.slice A n c] w (ScanP w b) := by
  obtain ⟨hl, hnc, hcm, hcell⟩ := id h
  have HB := Lib.hid h
  unfold maxLen at hcm
  subst hl
  have HC := Lib.hid hcell; clear hcell h
  go_enter Try.func31, Try.ntmps31
  go_wp2_with (fail)
  go_loopw [6] (fun i wr => ∃ k : Nat, k ≤ b.length ∧ i = .int .i64 k ∧ Hid (∀ x ∈ b.take k, x ≠ 0x7e) ∧ Hid (TalB wr (w.heap.size + 1) 0 0 0 k) ∧ Hid (TalB wr w.heap.size 0 0 0 0) ∧ Below w.heap.size w wr ∧ Hid (wr.heap.size = w.heap.size + 2)) (fun i _ => b.length - (intOf i).toNat)
  case atStart =>
    obtain ⟨t1, t2, t3⟩ := two_new w (.cells #[.int .i64 0, .int .i64 0, .int .i64 0, .int .i64 0] 53) (.cells #[.int .i64 0, .int .i64 0, .int .i64 0, .int .i64 0] 53)
    exact ⟨0, Nat.zero_le _, rfl, fun x hx => by simp at hx, t1, t2, ((Below.refl _ w).alloc (Nat.le_refl _) _).alloc (by simp) _, t3⟩
  case round =>
    obtain ⟨k, hk, rfl, HNO, HT, HR, hbel, HZ⟩ := hrel
    by_cases hc : k < b.length ∧ b[k]? ≠ some 0x7e
    · obtain ⟨hlt, hx⟩ := hc
      obtain ⟨bb, o, rfl, hbb, hcell⟩ := HC.out (by omega)
      have c1 := (hbel.cell (p := ⟨bb, o + k, none⟩) hbb).trans (hcell k hlt)
      have hx7 : b[k] ≠ 0x7e := fun e => hx (by rw [List.getElem?_eq_getElem hlt]; exact congrArg some e)
      have HN2 := Lib.hid (noflag_snoc b 0 k (Nat.zero_le _) hlt (by simpa using HNO.out) hx7)
      have hxl := lt256 b[k]
      have e2 : ((b[k].toNat : Int) != 126) = true := by
        have := u8_ne (b := 0x7e) hx7
        simp at this ⊢; exact this
      have e1 : decide (k < b.length) = true := by simpa using hlt
      generalize b[k] = x at *
      obtain ⟨-, -, -, d3⟩ := HT.out.cells
      have f3 := HT.out.free 3
      clear hcell hx hx7
      go_wp2_with (fail)
      go_roundw
      case rel =>
        refine ⟨k + 1, by omega, by go_num, ?_, HT.out.noise, ?_, hbel.setCell (by simp) _, ?_⟩
        · have := HN2.out
          rw [List.drop_zero] at this
          exact this
        · exact HR.out.off (X := (· = w.heap.size + 1)) (by omega) ((Off.refl _ wr).one 3 _)
        · show _ = _
          have := HZ.out
          simp
          exact this
      case measure => simp [intOf]; omega
    · have hcase : (k < b.length ∧ b[k]? = some 0x7e) ∨ k = b.length := by
        by_cases h1 : k < b.length
        · exact .inl ⟨h1, by
            by_cases h2 : b[k]? = some 0x7e
            · exact h2
            · exact absurd ⟨h1, h2⟩ hc⟩
        · exact .inr (by omega)
      have HSI := Lib.hid (sinv_noise b k hk HNO.out (by rcases hcase with h1 | h1; exact fun _ => h1.2; exact fun h2 => by omega))
      clear hc HNO
      have HI : Hid (ScanI w b k (.slice none 0 0) k wr) := ⟨0, 0, 0, [], HSI.out, OwnR.nil _ _, HT.out, HR.out, hbel, by have := HZ.out; omega, Nat.zero_le _, Nat.zero_le _, Nat.zero_le _, Nat.zero_le _⟩
      clear HT HR HSI
      rcases hcase with ⟨hlt, hx⟩ | hlt
      rotate_left
      · have e1 : decide (k < b.length) = false := by simp; omega
        clear hlt
        go_wp2_with (fail)
        go_loopw [4, 6] (fun v i wr2 => ∃ k2 : Nat, k2 ≤ b.length ∧ i = .int .i64 k2 ∧ ScanI w b k v k2 wr2) (fun _ i _ => b.length - (intOf i).toNat)
        case atStart => exact ⟨k, hk, rfl, HI.out⟩
        case round =>
          obtain ⟨k2, hk2, rfl, g, bd, l, out, hSI, hOw, hT2, hR2, hb2, hz2, hg2, hbd2, hl2, ho2⟩ := hrel
          have HSI := Lib.hid hSI
          have HOw := Lib.hid hOw
          have HT2 := Lib.hid hT2
          have HR2 := Lib.hid hR2
          clear hSI hOw hT2 hR2
          by_cases hlt2 : k2 < b.length
          · have e3 : decide (k2 < b.length) = true := by simpa using hlt2
            go_wp2_with (fail)
            go_loop [7] (fun j => ∃ q : Nat, k2 + 1 ≤ q ∧ q ≤ b.length ∧ j = .int .i64 q ∧ Hid (∀ x ∈ (b.take q).drop (k2 + 1), x ≠ 0x7e)) (fun j => b.length - (intOf j).toNat)
            case atStart => exact ⟨k2 + 1, Nat.le_refl _, hlt2, by go_num, fun x hx => by rw [List.drop_eq_nil_of_le (by simp; omega)] at hx; cases hx⟩
            case round =>
              obtain ⟨q, hq1, hq2, rfl, HQ⟩ := hrel
              by_cases hc : q < b.length ∧ b[q]? ≠ some 0x7e
              · obtain ⟨hlt3, hx⟩ := hc
                obtain ⟨bq, oq, hA, hbq, hcell⟩ := HC.out (by omega)
                subst hA
                have c1 := (hb2.cell (p := ⟨bq, oq + q, none⟩) hbq).trans (hcell q hlt3)
                have hx7 : b[q] ≠ 0x7e := fun e => hx (by rw [List.getElem?_eq_getElem hlt3]; exact congrArg some e)
                have HN2 := Lib.hid (noflag_snoc b (k2 + 1) q hq1 hlt3 HQ.out hx7)
                have hxl := lt256 b[q]
                have e2 : ((b[q].toNat : Int) != 126) = true := by
                  have := u8_ne (b := 0x7e) hx7
                  simp at this ⊢; exact this
                have e1 : decide (q < b.length) = true := by simpa using hlt3
                generalize b[q] = x at *
                clear hcell hx hx7
                go_wp2_with (fail)
                go_round
                case rel => exact ⟨q + 1, by omega, by omega, by go_num, HN2.out⟩
                case measure => simp [intOf]; omega
              · have hcase2 : (q < b.length ∧ b[q]? = some 0x7e) ∨ q = b.length := by
                  by_cases h1 : q < b.length
                  · exact .inl ⟨h1, by
                      by_cases h2 : b[q]? = some 0x7e
                      · exact h2
                      · exact absurd ⟨h1, h2⟩ hc⟩
                  · exact .inr (by omega)
                clear hc
                rcases hcase2 with ⟨hlt3, hx⟩ | hqe
                · obtain ⟨bb2, o2, hA, hbb2, -⟩ := HC.out (by omega)
                  subst hA
                  obtain ⟨bb3, o3, hA3, -, hcell⟩ := HC.out (by omega)
                  injection hA3 with hA3
                  injection hA3 with e8 e9 e10
                  subst e8; subst e9
                  clear e10
                  have c1 := (hb2.cell (p := ⟨bb2, o2 + q, none⟩) hbb2).trans (hcell q hlt3)
                  have HXF := Lib.hid hx
                  rw [List.getElem?_eq_getElem hlt3] at hx
                  injection hx with hx
                  rw [hx] at c1
                  have e2 : (((126 : UInt8).toNat : Int) != 126) = false := rfl
                  have e1 : decide (q < b.length) = true := by simpa using hlt3
                  have e5 : decide (b.length ≤ q) = false := by simp; omega
                  have B2 := (HB.out.part (k2 + 1) q hq1 (by omega) (by omega)).below hb2
                  have HSTEP := Lib.hid (fun g' bd' l' out' => sinv_step b k2 q g bd l k g' bd' l' out out' HSI.out (by omega) hlt3 HQ.out HXF.out)
                  have hs200 : IntKind.i64.wrap ((k2 : Int) + 1) = (k2 : Int) + 1 := IntWalk.i64_in _ (by omega)
                  clear hx hcell
                  obtain ⟨m, hm⟩ : ∃ m, q - (k2 + 1) = m := ⟨_, rfl⟩
                  have hsl : ((b.take q).drop (k2 + 1)).length = m := by simp; omega
                  obtain ⟨sg, hsg⟩ : ∃ sg, (b.take q).drop (k2 + 1) = sg := ⟨_, rfl⟩
                  rw [hsg] at B2 hsl HQ
                  unfold Hid at HSTEP
                  rw [hsg] at HSTEP
                  have HSTEP := Lib.hid HSTEP
                  rw [hm] at B2
                  have hmb : m ≤ 1073741824 := by omega
                  have HSL := Lib.hid hsl
                  clear hsg hsl
                  obtain ⟨d0, d1, d2, -⟩ := HT2.out.cells
                  have f0 := HT2.out.free 0
                  have f1 := HT2.out.free 1
                  have f2 := HT2.out.free 2
                  have hgb : (g : Int) ≤ 1073741824 ∧ (bd : Int) ≤ 1073741824 ∧ (l : Int) ≤ 1073741824 := by omega
                  obtain ⟨hgb1, hgb2, hgb3⟩ := hgb
                  have hO1 := fun (j : Nat) (u : Value) => (Off.refl (· = w.heap.size + 1) wr).one j u
                  by_cases h200 : 200 < m
                  · have e6 : decide ((200 : Int) < (m : Int)) = true := by simp; omega
                    have HNEW := Lib.hid (HSTEP.out g bd (l + 1) out (.inl ⟨by rw [HSL.out]; exact h200, rfl, rfl, rfl, rfl⟩))
                    go_wp2_with (fail)
                    go_roundw
                    case rel => exact ⟨q, by omega, rfl, g, bd, l + 1, out, HNEW.out, HOw.out.off (X := (· = w.heap.size + 1)) (fun j _ hj => by omega) (hO1 2 _), HT2.out.long, HR2.out.off (X := (· = w.heap.size + 1)) (by omega) (hO1 2 _), hb2.setCell (by simp) _, by simpa using hz2, by omega, by omega, by omega, by omega⟩
                    case measure => simp [intOf]; omega
                  · have e6 : decide ((200 : Int) < (m : Int)) = false := by simp; omega
                    by_cases hm0 : m = 0
                    · have e7 : decide (0 < m) = false := by simp; omega
                      have HNEW := Lib.hid (HSTEP.out g bd l out (.inr (.inl ⟨List.eq_nil_of_length_eq_zero (by rw [HSL.out]; exact hm0), rfl, rfl, rfl, rfl⟩)))
                      clear hm0
                      go_wp2_with (fail)
                      go_roundw
                      case rel => exact ⟨q, by omega, rfl, g, bd, l, out, HNEW.out, HOw.out, HT2.out, HR2.out, hb2, hz2, by omega, by omega, by omega, by omega⟩
                      case measure => simp [intOf]; omega
                    · have e7 : decide (0 < m) = true := by simp; omega
                      have hne : sg ≠ [] := fun e => hm0 (by rw [← HSL.out, e]; rfl)
                      have HP := rbody_fr _ _ _ sg wr B2 (by omega)
                      rcases hf : frameB sg with _ | y
                      · rw [hf, show frameE (none : Option (List UInt8)) = 40 from rfl] at HP
                        have HP := Lib.hid HP
                        have HNEW := Lib.hid (HSTEP.out g (bd + 1) l out (.inr (.inr (.inl ⟨by rw [HSL.out]; omega, hne, hf, rfl, rfl, rfl, rfl⟩))))
                        clear hm0 hne hf d0 d1 d2 f0 f1 f2
                        go_wp2_with (fail)
                        refine HP.out.mono ?_
                        rintro e w1 ⟨A1, n1, c9, rfl, -, -, T⟩
                        have hT3 := HT2.out.off (X := fun _ => False) (fun h => h) (Off.of_below T)
                        have hR3 := HR2.out.off (X := fun _ => False) (fun h => h) (Off.of_below T)
                        have hO3 := HOw.out.below T
                        have hb3 := below_step hb2 hb2.size T
                        have hz3 : w.heap.size + 2 ≤ w1.heap.size := Nat.le_trans hz2 T.size
                        have hO4 := fun (j : Nat) (u : Value) => (Off.refl (· = w.heap.size + 1) w1).one j u
                        obtain ⟨-, d1, -, -⟩ := hT3.cells
                        have f1 := hT3.free 1
                        have HT3 := Lib.hid hT3
                        have HR3 := Lib.hid hR3
                        have HO3 := Lib.hid hO3
                        clear hT3 hR3 hO3 hO1
                        go_wp2_with (fail)
                        go_roundw
                        case rel => exact ⟨q, by omega, rfl, g, bd + 1, l, out, HNEW.out, HO3.out.off (X := (· = w.heap.size + 1)) (fun j _ hj => by omega) (hO4 1 _), HT3.out.bad, HR3.out.off (X := (· = w.heap.size + 1)) (by omega) (hO4 1 _), hb3.setCell (by simp) _, by simpa using hz3, by omega, by omega, by omega, by omega⟩
                        case measure => simp [intOf]; omega
                      · rw [hf, show frameE (some y) = 0 from rfl] at HP
                        have HP := Lib.hid HP
                        have HNEW := Lib.hid (HSTEP.out (g + 1) bd l (out ++ [y]) (.inr (.inr (.inr ⟨by rw [HSL.out]; omega, hne, y, hf, rfl, rfl, rfl, rfl⟩))))
                        clear hm0 hne hf d0 d1 d2 f0 f1 f2
                        go_wp2_with (fail)
                        refine HP.out.mono ?_
                        rintro e w1 ⟨A1, n1, c9, rfl, B9, F9, T⟩
                        have hT3 := HT2.out.off (X := fun _ => False) (fun h => h) (Off.of_below T)
                        have hR3 := HR2.out.off (X := fun _ => False) (fun h => h) (Off.of_below T)
                        have hO3 := HOw.out.below T
                        have hb3 := below_step hb2 hb2.size T
                        have hz3 : w.heap.size + 2 ≤ w1.heap.size := Nat.le_trans hz2 T.size
                        obtain ⟨d0, -, -, -⟩ := hT3.cells
                        have f0 := hT3.free 0
                        have O4 : Off (· = w.heap.size + 1) w1 (w1.setCell ⟨w.heap.size + 1, 0, none⟩ (.int .i64 ((g : Int) + 1))) := (Off.refl _ w1).one 0 _
                        have B10 := B9.off (X := (· = w.heap.size + 1)) (F9.imp (fun j hj => by have hj : j = w.heap.size + 1 := hj; show j < wr.heap.size; omega)) O4
                        have R := Lib.hid (Rwf.lit1' (B := wr.heap.size) B10 F9 w1.heap.size (by simp) T.size)
                        have hO5 := (hO3.off (X := (· = w.heap.size + 1)) (fun j _ hj => by omega) O4).below ((Below.refl _ _).alloc (Nat.le_refl _) (.cells #[.slice A1 n1 c9] 22))
                        have HV := Lib.hid hO5
                        have hvl := Lib.hid HOw.out.lt
                        have hO6 := Lib.hid (O4.alloc (.cells #[.slice A1 n1 c9] 22))
                        have hb5 := Lib.hid ((hb3.setCell (p := ⟨w.heap.size + 1, 0, none⟩) (by simp) (.int .i64 ((g : Int) + 1))).alloc (by simp; omega) (.cells #[.slice A1 n1 c9] 22))
                        have HT3 := Lib.hid hT3
                        have HR3 := Lib.hid hR3
                        clear hT3 hR3 hO3 hO5 O4 B9 B10 F9 hO1
                        go_wp2_with ((with_reducible refine app_rws _ rfl (.tmp 79) (.tmp 81) rfl (w.heap.size + 2) u4 out rfl ?_ wr.heap.size (some ⟨w1.heap.size, 0, none⟩) 1 1 [y] rfl ?_ ?_ ?_ ?_ ?_ ?_); (exact HV.out); (exact R.out); (omega); (first | omega | (simp; omega)); (omega); (intro j hj; exact (hvl.out j hj).2); intro v3 w3 hown3 hgrow3)
                        have hr : ∀ j, u4.ownBlock = some j → w.heap.size + 2 ≤ j := fun j hj => (hvl.out j hj).1
                        go_roundw
                        case rel =>
                          refine ⟨q, by omega, rfl, g + 1, bd, l, out ++ [y], HNEW.out, hown3, ?_, ?_, ?_, ?_, by omega, by omega, by omega, by simp; omega⟩
                          · show w3.heap[_]? = _
                            rw [hgrow3.block (w.heap.size + 1) (by simp; omega) (fun e => by have := hr _ e.symm; omega), Below.heap_alloc _ _ _ (by simp; omega)]
                            exact HT3.out.good
                          · show w3.heap[_]? = _
                            rw [hgrow3.block w.heap.size (by simp; omega) (fun e => by have := hr _ e.symm; omega), Below.heap_alloc _ _ _ (by simp; omega), Below.heap_setCell _ _ _ _ (by simp)]
                            exact HR3.out
                          · exact hb5.out.grown hgrow3 (by simp; omega) (fun j hj => by have := hr j hj; omega)
                          · exact Nat.le_trans (by simp; omega) hgrow3.size
                        case measure => simp [intOf]; omega
                · have e1 : decide (q < b.length) = false := by simp; omega
                  have e5 : decide (b.length ≤ q) = true := by simp; omega
                  have HST := Lib.hid (sinv_stop b k2 g bd l k out HSI.out hlt2 (by
                    have h9 := HQ.out
                    rw [List.take_of_length_le (by omega)] at h9
                    exact h9))
                  clear hqe
                  obtain ⟨d0, d1, d2, d3⟩ := HT2.out.cells
                  obtain ⟨r0, r1, r2, r3⟩ := HR2.out.cells
                  have f0 := HR2.out.free 0
                  have f1 := HR2.out.free 1
                  have f2 := HR2.out.free 2
                  have f3 := HR2.out.free 3
                  go_wp2_with (fail)
                  go_region
                  go_wp2_with (fail)
                  have HTW := HR2.out.fill g bd l k
                  obtain ⟨P, cc, rfl, hRw⟩ := HOw.out.shape
                  refine bodyPost_ret (results_scan _ _ (.slice P out.length cc) _ _ _ _ _ rfl rfl HTW) rfl ?_
                  have hO3 := (((((Off.refl (· = w.heap.size) wr).one 0 (.int .i64 (g : Int))).one 1 (.int .i64 (bd : Int))).one 2 (.int .i64 (l : Int))).one 3 (.int .i64 (k : Int))).drew
                  refine ⟨P, cc, g, bd, l, k, ?_, ?_, HST.out.2, ?_⟩
                  · rw [HST.out.1]
                  · rw [HST.out.1]
                    exact (hRw.off (X := (· = w.heap.size)) (fun j _ hj => by omega) hO3).rws
                  · exact (((((hb2.setCell (Nat.le_refl _) _).setCell (Nat.le_refl _) _).setCell (Nat.le_refl _) _).setCell (Nat.le_refl _) _).drew)
          · have e3 : decide (k2 < b.length) = false := by simpa using hlt2
            have HST := Lib.hid (HSI.out.2 (by omega))
            obtain ⟨d0, d1, d2, d3⟩ := HT2.out.cells
            obtain ⟨r0, r1, r2, r3⟩ := HR2.out.cells
            have f0 := HR2.out.free 0
            have f1 := HR2.out.free 1
            have f2 := HR2.out.free 2
            have f3 := HR2.out.free 3
            go_wp2_with (fail)
            go_region
            go_wp2_with (fail)
            have HTW := HR2.out.fill g bd l k
            obtain ⟨P, cc, rfl, hRw⟩ := HOw.out.shape
            refine bodyPost_ret (results_scan _ _ (.slice P out.length cc) _ _ _ _ _ rfl rfl HTW) rfl ?_
            have hO3 := (((((Off.refl (· = w.heap.size) wr).one 0 (.int .i64 (g : Int))).one 1 (.int .i64 (bd : Int))).one 2 (.int .i64 (l : Int))).one 3 (.int .i64 (k : Int))).drew
            refine ⟨P, cc, g, bd, l, k, ?_, ?_, HST.out.2, ?_⟩
            · rw [HST.out.1]
            · rw [HST.out.1]
              exact (hRw.off (X := (· = w.heap.size)) (fun j _ hj => by omega) hO3).rws
            · exact (((((hb2.setCell (Nat.le_refl _) _).setCell (Nat.le_refl _) _).setCell (Nat.le_refl _) _).setCell (Nat.le_refl _) _).drew)
      · obtain ⟨bb, o, rfl, hbb, hcell⟩ := HC.out (by omega)
        have c1 := (hbel.cell (p := ⟨bb, o + k, none⟩) hbb).trans (hcell k hlt)
        have e1 : decide (k < b.length) = true := by simpa using hlt
        rw [List.getElem?_eq_getElem hlt] at hx
        injection hx with hx
        rw [hx] at c1
        have e2 : (((126 : UInt8).toNat : Int) != 126) = false := rfl
        clear hx hcell
        go_wp2_with (fail)
        go_loopw [4, 6] (fun v i wr2 => ∃ k2 : Nat, k2 ≤ b.length ∧ i = .int .i64 k2 ∧ ScanI w b k v k2 wr2) (fun _ i _ => b.length - (intOf i).toNat)
        case atStart => exact ⟨k, hk, rfl, HI.out⟩
        case round =>
          obtain ⟨k2, hk2, rfl, g, bd, l, out, hSI, hOw, hT2, hR2, hb2, hz2, hg2, hbd2, hl2, ho2⟩ := hrel
          have HSI := Lib.hid hSI
          have HOw := Lib.hid hOw
          have HT2 := Lib.hid hT2
          have HR2 := Lib.hid hR2
          clear hSI hOw hT2 hR2
          by_cases hlt2 : k2 < b.length
          · have e3 : decide (k2 < b.length) = true := by simpa using hlt2
            go_wp2_with (fail)
            go_loop [7] (fun j => ∃ q : Nat, k2 + 1 ≤ q ∧ q ≤ b.length ∧ j = .int .i64 q ∧ Hid (∀ x ∈ (b.take q).drop (k2 + 1), x ≠ 0x7e)) (fun j => b.length - (intOf j).toNat)
            case atStart => exact ⟨k2 + 1, Nat.le_refl _, hlt2, by go_num, fun x hx => by rw [List.drop_eq_nil_of_le (by simp; omega)] at hx; cases hx⟩
            case round =>
              obtain ⟨q, hq1, hq2, rfl, HQ⟩ := hrel
              by_cases hc : q < b.length ∧ b[q]? ≠ some 0x7e
              · obtain ⟨hlt3, hx⟩ := hc
                obtain ⟨bq, oq, hA, hbq, hcell⟩ := HC.out (by omega)
                obtain ⟨rfl, rfl⟩ : bq = bb ∧ oq = o := by simpa using hA.symm
                have c1 := (hb2.cell (p := ⟨bq, oq + q, none⟩) hbq).trans (hcell q hlt3)
                have hx7 : b[q] ≠ 0x7e := fun e => hx (by rw [List.getElem?_eq_getElem hlt3]; exact congrArg some e)
                have HN2 := Lib.hid (noflag_snoc b (k2 + 1) q hq1 hlt3 HQ.out hx7)
                have hxl := lt256 b[q]
                have e2 : ((b[q].toNat : Int) != 126) = true := by
                  have := u8_ne (b := 0x7e) hx7
                  simp at this ⊢; exact this
                have e1 : decide (q < b.length) = true := by simpa using hlt3
                generalize b[q] = x at *
                clear hcell hx hx7
                go_wp2_with (fail)
                go_round
                case rel => exact ⟨q + 1, by omega, by omega, by go_num, HN2.out⟩
                case measure => simp [intOf]; omega
              · have hcase2 : (q < b.length ∧ b[q]? = some 0x7e) ∨ q = b.length := by
                  by_cases h1 : q < b.length
                  · exact .inl ⟨h1, by
                      by_cases h2 : b[q]? = some 0x7e
                      · exact h2
                      · exact absurd ⟨h1, h2⟩ hc⟩
                  · exact .inr (by omega)
                clear hc
                rcases hcase2 with ⟨hlt3, hx⟩ | hqe
                · obtain ⟨bb2, o2, hA, hbb2, -⟩ := HC.out (by omega)
                  obtain ⟨rfl, rfl⟩ : bb2 = bb ∧ o2 = o := by simpa using hA.symm
                  obtain ⟨bb3, o3, hA3, -, hcell⟩ := HC.out (by omega)
                  injection hA3 with hA3
                  injection hA3 with e8 e9 e10
                  subst e8; subst e9
                  clear e10
                  have c1 := (hb2.cell (p := ⟨bb2, o2 + q, none⟩) hbb2).trans (hcell q hlt3)
                  have HXF := Lib.hid hx
                  rw [List.getElem?_eq_getElem hlt3] at hx
                  injection hx with hx
                  rw [hx] at c1
                  have e2 : (((126 : UInt8).toNat : Int) != 126) = false := rfl
                  have e1 : decide (q < b.length) = true := by simpa using hlt3
                  have e5 : decide (b.length ≤ q) = false := by simp; omega
                  have B2 := (HB.out.part (k2 + 1) q hq1 (by omega) (by omega)).below hb2
                  have HSTEP := Lib.hid (fun g' bd' l' out' => sinv_step b k2 q g bd l k g' bd' l' out out' HSI.out (by omega) hlt3 HQ.out HXF.out)
                  have hs200 : IntKind.i64.wrap ((k2 : Int) + 1) = (k2 : Int) + 1 := IntWalk.i64_in _ (by omega)
                  clear hx hcell
                  obtain ⟨m, hm⟩ : ∃ m, q - (k2 + 1) = m := ⟨_, rfl⟩
                  have hsl : ((b.take q).drop (k2 + 1)).length = m := by simp; omega
                  obtain ⟨sg, hsg⟩ : ∃ sg, (b.take q).drop (k2 + 1) = sg := ⟨_, rfl⟩
                  rw [hsg] at B2 hsl HQ
                  unfold Hid at HSTEP
                  rw [hsg] at HSTEP
                  have HSTEP := Lib.hid HSTEP
                  rw [hm] at B2
                  have hmb : m ≤ 1073741824 := by omega
                  have HSL := Lib.hid hsl
                  clear hsg hsl
                  obtain ⟨d0, d1, d2, -⟩ := HT2.out.cells
                  have f0 := HT2.out.free 0
                  have f1 := HT2.out.free 1
                  have f2 := HT2.out.free 2
                  have hgb : (g : Int) ≤ 1073741824 ∧ (bd : Int) ≤ 1073741824 ∧ (l : Int) ≤ 1073741824 := by omega
                  obtain ⟨hgb1, hgb2, hgb3⟩ := hgb
                  have hO1 := fun (j : Nat) (u : Value) => (Off.refl (· = w.heap.size + 1) wr).one j u
                  by_cases h200 : 200 < m
                  · have e6 : decide ((200 : Int) < (m : Int)) = true := by simp; omega
                    have HNEW := Lib.hid (HSTEP.out g bd (l + 1) out (.inl ⟨by rw [HSL.out]; exact h200, rfl, rfl, rfl, rfl⟩))
                    go_wp2_with (fail)
                    go_roundw
                    case rel => exact ⟨q, by omega, rfl, g, bd, l + 1, out, HNEW.out, HOw.out.off (X := (· = w.heap.size + 1)) (fun j _ hj => by omega) (hO1 2 _), HT2.out.long, HR2.out.off (X := (· = w.heap.size + 1)) (by omega) (hO1 2 _), hb2.setCell (by simp) _, by simpa using hz2, by omega, by omega, by omega, by omega⟩
                    case measure => simp [intOf]; omega
                  · have e6 : decide ((200 : Int) < (m : Int)) = false := by simp; omega
                    by_cases hm0 : m = 0
                    · have e7 : decide (0 < m) = false := by simp; omega
                      have HNEW := Lib.hid (HSTEP.out g bd l out (.inr (.inl ⟨List.eq_nil_of_length_eq_zero (by rw [HSL.out]; exact hm0), rfl, rfl, rfl, rfl⟩)))
                      clear hm0
                      go_wp2_with (fail)
                      go_roundw
                      case rel => exact ⟨q, by omega, rfl, g, bd, l, out, HNEW.out, HOw.out, HT2.out, HR2.out, hb2, hz2, by omega, by omega, by omega, by omega⟩
                      case measure => simp [intOf]; omega
                    · have e7 : decide (0 < m) = true := by simp; omega
                      have hne : sg ≠ [] := fun e => hm0 (by rw [← HSL.out, e]; rfl)
                      have HP := rbody_fr _ _ _ sg wr B2 (by omega)
                      rcases hf : frameB sg with _ | y
                      · rw [hf, show frameE (none : Option (List UInt8)) = 40 from rfl] at HP
                        have HP := Lib.hid HP
                        have HNEW := Lib.hid (HSTEP.out g (bd + 1) l out (.inr (.inr (.inl ⟨by rw [HSL.out]; omega, hne, hf, rfl, rfl, rfl, rfl⟩))))
                        clear hm0 hne hf d0 d1 d2 f0 f1 f2
                        go_wp2_with (fail)
                        refine HP.out.mono ?_
                        rintro e w1 ⟨A1, n1, c9, rfl, -, -, T⟩
                        have hT3 := HT2.out.off (X := fun _ => False) (fun h => h) (Off.of_below T)
                        have hR3 := HR2.out.off (X := fun _ => False) (fun h => h) (Off.of_below T)
                        have hO3 := HOw.out.below T
                        have hb3 := below_step hb2 hb2.size T
                        have hz3 : w.heap.size + 2 ≤ w1.heap.size := Nat.le_trans hz2 T.size
                        have hO4 := fun (j : Nat) (u : Value) => (Off.refl (· = w.heap.size + 1) w1).one j u
                        obtain ⟨-, d1, -, -⟩ := hT3.cells
                        have f1 := hT3.free 1
                        have HT3 := Lib.hid hT3
                        have HR3 := Lib.hid hR3
                        have HO3 := Lib.hid hO3
                        clear hT3 hR3 hO3 hO1
                        go_wp2_with (fail)
                        go_roundw
                        case rel => exact ⟨q, by omega, rfl, g, bd + 1, l, out, HNEW.out, HO3.out.off (X := (· = w.heap.size + 1)) (fun j _ hj => by omega) (hO4 1 _), HT3.out.bad, HR3.out.off (X := (· = w.heap.size + 1)) (by omega) (hO4 1 _), hb3.setCell (by simp) _, by simpa using hz3, by omega, by omega, by omega, by omega⟩
                        case measure => simp [intOf]; omega
                      · rw [hf, show frameE (some y) = 0 from rfl] at HP
                        have HP := Lib.hid HP
                        have HNEW := Lib.hid (HSTEP.out (g + 1) bd l (out ++ [y]) (.inr (.inr (.inr ⟨by rw [HSL.out]; omega, hne, y, hf, rfl, rfl, rfl, rfl⟩))))
                        clear hm0 hne hf d0 d1 d2 f0 f1 f2
                        go_wp2_with (fail)
                        refine HP.out.mono ?_
                        rintro e w1 ⟨A1, n1, c9, rfl, B9, F9, T⟩
                        have hT3 := HT2.out.off (X := fun _ => False) (fun h => h) (Off.of_below T)
                        have hR3 := HR2.out.off (X := fun _ => False) (fun h => h) (Off.of_below T)
                        have hO3 := HOw.out.below T
                        have hb3 := below_step hb2 hb2.size T
                        have hz3 : w.heap.size + 2 ≤ w1.heap.size := Nat.le_trans hz2 T.size
                        obtain ⟨d0, -, -, -⟩ := hT3.cells
                        have f0 := hT3.free 0
                        have O4 : Off (· = w.heap.size + 1) w1 (w1.setCell ⟨w.heap.size + 1, 0, none⟩ (.int .i64 ((g : Int) + 1))) := (Off.refl _ w1).one 0 _
                        have B10 := B9.off (X := (· = w.heap.size + 1)) (F9.imp (fun j hj => by have hj : j = w.heap.size + 1 := hj; show j < wr.heap.size; omega)) O4
                        have R := Lib.hid (Rwf.lit1' (B := wr.heap.size) B10 F9 w1.heap.size (by simp) T.size)
                        have hO5 := (hO3.off (X := (· = w.heap.size + 1)) (fun j _ hj => by omega) O4).below ((Below.refl _ _).alloc (Nat.le_refl _) (.cells #[.slice A1 n1 c9] 22))
                        have HV := Lib.hid hO5
                        have hvl := Lib.hid HOw.out.lt
                        have hO6 := Lib.hid (O4.alloc (.cells #[.slice A1 n1 c9] 22))
                        have hb5 := Lib.hid ((hb3.setCell (p := ⟨w.heap.size + 1, 0, none⟩) (by simp) (.int .i64 ((g : Int) + 1))).alloc (by simp; omega) (.cells #[.slice A1 n1 c9] 22))
                        have HT3 := Lib.hid hT3
                        have HR3 := Lib.hid hR3
                        clear hT3 hR3 hO3 hO5 O4 B9 B10 F9 hO1
                        go_wp2_with ((with_reducible refine app_rws _ rfl (.tmp 79) (.tmp 81) rfl (w.heap.size + 2) u4 out rfl ?_ wr.heap.size (some ⟨w1.heap.size, 0, none⟩) 1 1 [y] rfl ?_ ?_ ?_ ?_ ?_ ?_); (exact HV.out); (exact R.out); (omega); (first | omega | (simp; omega)); (omega); (intro j hj; exact (hvl.out j hj).2); intro v3 w3 hown3 hgrow3)
                        have hr : ∀ j, u4.ownBlock = some j → w.heap.size + 2 ≤ j := fun j hj => (hvl.out j hj).1
                        go_roundw
                        case rel =>
                          refine ⟨q, by omega, rfl, g + 1, bd, l, out ++ [y], HNEW.out, hown3, ?_, ?_, ?_, ?_, by omega, by omega, by omega, by simp; omega⟩
                          · show w3.heap[_]? = _
                            rw [hgrow3.block (w.heap.size + 1) (by simp; omega) (fun e => by have := hr _ e.symm; omega), Below.heap_alloc _ _ _ (by simp; omega)]
                            exact HT3.out.good
                          · show w3.heap[_]? = _
                            rw [hgrow3.block w.heap.size (by simp; omega) (fun e => by have := hr _ e.symm; omega), Below.heap_alloc _ _ _ (by simp; omega), Below.heap_setCell _ _ _ _ (by simp)]
                            exact HR3.out
                          · exact hb5.out.grown hgrow3 (by simp; omega) (fun j hj => by have := hr j hj; omega)
                          · exact Nat.le_trans (by simp; omega) hgrow3.size
                        case measure => simp [intOf]; omega
                · have e1 : decide (q < b.length) = false := by simp; omega
                  have e5 : decide (b.length ≤ q) = true := by simp; omega
                  have HST := Lib.hid (sinv_stop b k2 g bd l k out HSI.out hlt2 (by
                    have h9 := HQ.out
                    rw [List.take_of_length_le (by omega)] at h9
                    exact h9))
                  clear hqe
                  obtain ⟨d0, d1, d2, d3⟩ := HT2.out.cells
                  obtain ⟨r0, r1, r2, r3⟩ := HR2.out.cells
                  have f0 := HR2.out.free 0
                  have f1 := HR2.out.free 1
                  have f2 := HR2.out.free 2
                  have f3 := HR2.out.free 3
                  go_wp2_with (fail)
                  go_region
                  go_wp2_with (fail)
                  have HTW := HR2.out.fill g bd l k
                  obtain ⟨P, cc, rfl, hRw⟩ := HOw.out.shape
                  refine bodyPost_ret (results_scan _ _ (.slice P out.length cc) _ _ _ _ _ rfl rfl HTW) rfl ?_
                  have hO3 := (((((Off.refl (· = w.heap.size) wr).one 0 (.int .i64 (g : Int))).one 1 (.int .i64 (bd : Int))).one 2 (.int .i64 (l : Int))).one 3 (.int .i64 (k : Int))).drew
                  refine ⟨P, cc, g, bd, l, k, ?_, ?_, HST.out.2, ?_⟩
                  · rw [HST.out.1]
                  · rw [HST.out.1]
                    exact (hRw.off (X := (· = w.heap.size)) (fun j _ hj => by omega) hO3).rws
                  · exact (((((hb2.setCell (Nat.le_refl _) _).setCell (Nat.le_refl _) _).setCell (Nat.le_refl _) _).setCell (Nat.le_refl _) _).drew)
          · have e3 : decide (k2 < b.length) = false := by simpa using hlt2
            have HST := Lib.hid (HSI.out.2 (by omega))
            obtain ⟨d0, d1, d2, d3⟩ := HT2.out.cells
            obtain ⟨r0, r1, r2, r3⟩ := HR2.out.cells
            have f0 := HR2.out.free 0
            have f1 := HR2.out.free 1
            have f2 := HR2.out.free 2
            have f3 := HR2.out.free 3
            go_wp2_with (fail)
            go_region
            go_wp2_with (fail)
            have HTW := HR2.out.fill g bd l k
            obtain ⟨P, cc, rfl, hRw⟩ := HOw.out.shape
            refine bodyPost_ret (results_scan _ _ (.slice P out.length cc) _ _ _ _ _ rfl rfl HTW) rfl ?_
            have hO3 := (((((Off.refl (· = w.heap.size) wr).one 0 (.int .i64 (g : Int))).one 1 (.int .i64 (bd : Int))).one 2 (.int .i64 (l : Int))).one 3 (.int .i64 (k : Int))).drew
            refine ⟨P, cc, g, bd, l, k, ?_, ?_, HST.out.2, ?_⟩
            · rw [HST.out.1]
            · rw [HST.out.1]
              exact (hRw.off (X := (· = w.heap.size)) (fun j _ hj => by omega) hO3).rws
            · exact (((((hb2.setCell (Nat.le_refl _) _).setCell (Nat.le_refl _) _).setCell (Nat.le_refl _) _).setCell (Nat.le_refl _) _).drew)
end Go.Proofs.Ytjpmfomabofjpaa
