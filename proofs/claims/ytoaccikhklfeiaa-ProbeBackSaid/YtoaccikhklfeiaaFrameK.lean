/- What package frame's calls answer. -/
import Derived.Test.YtoaccikhklfeiaaCrcK2
import Derived.Test.YtoaccikhklfeiaaStuffP
import Derived.Test.YtoaccikhklfeiaaStuffG
import Derived.Test.YtoaccikhklfeiaaFrameM
import Derived.Test.YtoaccikhklfeiaaFresh
namespace Go.Proofs.Ytoaccikhklfeiaa
open Go.RowKit

/-- A call's end that makes a []byte in memory of its own, which may be written, and tells that all went well. -/
def GivesF (w : World) (l : List UInt8) (e : Ending) (w' : World) : Prop :=
  ∃ g c, e = .returned (.tuple #[.slice (some ⟨g, 0, none⟩) l.length c, .int .i64 0]) ∧ Own w' w.heap.size g l.length c l ∧ Below w.heap.size w w'

theorem crcPut_nil4 : (crcPut []).length = 4 := crcPut_length []
set_option maxHeartbeats 1000000 in
theorem fmade_yes (a : Addr) (w : World) (ht : Tab w a) : Calls Try.prog 23 #[.pointer (some a)] w fun e w' => e = .returned (.bool true) ∧ Below w.heap.size w w' := by
  have H := cput_any a none 0 0 [] w ht (Bys.nil w) (by decide)
  unfold GivesO at H
  rw [crcPut_nil4] at H
  have H := Lib.hid H
  go_enter Try.func23, Try.ntmps23
  go_wp2_with (fail)
  refine H.out.mono ?_
  rintro e w1 ⟨g, c, rfl, -, G⟩
  go_wp2
  go_ret
  exact ⟨rfl, G⟩
set_option maxHeartbeats 1000000 in
theorem fmade_no (v : Value) (w : World) (h : Calls Try.prog 26 #[v, .slice none 0 0] w (GivesB w [])) : Calls Try.prog 23 #[v] w fun e w' => e = .returned (.bool false) ∧ Below w.heap.size w w' := by
  have H := Lib.hid h
  clear h
  go_enter Try.func23, Try.ntmps23
  go_wp2_with (fail)
  refine H.out.mono ?_
  rintro e w1 ⟨A1, n1, c1, rfl, B1, G⟩
  obtain rfl : n1 = 0 := B1.len.symm
  go_wp2
  go_ret
  exact ⟨rfl, G⟩

theorem litflag (W : World) : Bys (W.alloc (.cells #[.int .u8 126] 5)) (some ⟨W.heap.size, 0, none⟩) 1 1 [0x7e] := Bys.lit W [0x7e] (by decide)

set_option maxRecDepth 20000 in
set_option maxHeartbeats 2000000 in
theorem wrap_any (a : Addr) (A : Option Addr) (n c : Nat) (l : List UInt8) (w : World) (ht : Tab w a) (h : Bys w A n c l) (hn : n ≤ 96) :
    Calls Try.prog 15 #[.pointer (some a), .slice A n c] w (GivesF w (frameW l)) := by
  have M := Lib.hid (fmade_yes a w ht)
  have hd : decide ((96 : Int) < (n : Int)) = false := by simp; omega
  have HL : Hid ((crcPut l).length = n + 4) := by show _ = _; rw [crcPut_length, h.len]
  have HS := Lib.hid (stuffB_len (crcPut l))
  have HF : Hid (frameW l = [[0x7e], stuffB (crcPut l), [0x7e]].flatten) := by show _ = _; simp [frameW]
  have P := fun W (t : Tab W a) (b : Bys W A n c l) => cput_any a A n c l W t b (by omega)
  have P := Lib.hid P
  generalize frameW l = f at *
  generalize crcPut l = p at *
  have S := fun A1 c1 W (b : Bys W A1 (n + 4) c1 p) => stput_any A1 (n + 4) c1 p W b (by omega) (by have := HS.out; have := HL.out; omega)
  have S := Lib.hid S
  go_enter Try.func15, Try.ntmps15
  go_wp2_with (fail)
  refine M.out.mono ?_
  rintro e w1 ⟨rfl, T⟩
  have ht := ht.below T
  have h := h.below T
  go_wp2_with (fail)
  refine (P.out _ (ht.below ((Below.refl _ _).alloc (Nat.le_refl _) _)) (h.alloc _)).mono ?_
  rintro e w2 ⟨g2, c2, rfl, O2, G⟩
  have B2 := O2.bys
  have F := (litflag w1).below G
  have T := nxt (T.alloc T.size _) G
  clear G O2
  rw [HL.out] at B2 ⊢
  go_wp2_with (fail)
  refine (S.out _ _ _ B2).mono ?_
  rintro e w3 ⟨A3, n3, c3, rfl, B3, G⟩
  have F := F.below G
  have T := nxt T G
  clear G B2
  have h3 := B3.len
  have h4 := HS.out
  have h5 := HL.out
  have h6 : n3 ≤ 2 * (n + 4) := by omega
  have J := ojoin_own _ 3 3 [[0x7e], stuffB p, [0x7e]] _ (litrow w3 _ A3 _ 1 n3 1 1 c3 1 [0x7e] (stuffB p) [0x7e] rfl h3 rfl F B3 F) (by omega) (by omega) (by simp [Lib.lens]; omega) (by simp)
  rw [← HF.out] at J
  have J := Lib.hid J
  clear h3 h4 h5 h6
  go_wp2_with (fail)
  refine J.out.mono ?_
  rintro e w4 ⟨g4, c4, rfl, O4, G⟩
  obtain ⟨m, hm⟩ : ∃ m, f.length = m := ⟨_, rfl⟩
  have O := O4.down (B' := w.heap.size) (by have := T.size; simp; omega)
  have T := nxt (T.alloc T.size _) G
  rw [hm] at O ⊢
  have hm := Lib.hid hm
  clear G O4
  go_wp2_with (fail)
  go_ret2
  refine ⟨g4, c4, ?_, ?_, T⟩
  · rw [hm.out]; rfl
  · rw [hm.out]; exact O

set_option maxHeartbeats 1000000 in
theorem wrap_long (a : Addr) (A : Option Addr) (n c : Nat) (w : World) (ht : Tab w a) (hn : 96 < n) :
    Calls Try.prog 15 #[.pointer (some a), .slice A n c] w fun e w' => e = .returned (.tuple #[.slice none 0 0, .int .i64 2]) ∧ Below w.heap.size w w' := by
  have M := Lib.hid (fmade_yes a w ht)
  have hd : decide ((96 : Int) < (n : Int)) = true := by simp; omega
  go_enter Try.func15, Try.ntmps15
  go_wp2_with (fail)
  refine M.out.mono ?_
  rintro e w1 ⟨rfl, T⟩
  go_wp2_with (fail)
  go_ret2
  exact ⟨rfl, T⟩

set_option maxHeartbeats 1000000 in
theorem wrap_nil (v : Value) (A : Option Addr) (n c : Nat) (w : World) (h : Calls Try.prog 26 #[v, .slice none 0 0] w (GivesB w [])) :
    Calls Try.prog 15 #[v, .slice A n c] w fun e w' => e = .returned (.tuple #[.slice none 0 0, .int .i64 5]) ∧ Below w.heap.size w w' := by
  have M := Lib.hid (fmade_no v w h)
  clear h
  go_enter Try.func15, Try.ntmps15
  go_wp2_with (fail)
  refine M.out.mono ?_
  rintro e w1 ⟨rfl, T⟩
  go_wp2_with (fail)
  go_ret2
  exact ⟨rfl, T⟩
end Go.Proofs.Ytoaccikhklfeiaa
