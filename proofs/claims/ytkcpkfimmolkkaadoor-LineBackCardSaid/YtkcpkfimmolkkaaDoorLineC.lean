/- Package line by its contracts, over what the tables that it reads hold (Tab: 'fun _ => True' where it reads none); what layer 12's law's own live answers over them. -/
import Derived.Test.YtkcpkfimmolkkaaDoorRlins
import Derived.Test.YtkcpkfimmolkkaaDoorPhCs
import Derived.Test.YtkcpkfimmolkkaaDoorSame
namespace Go.Proofs.YtkcpkfimmolkkaaDoor
open Go.RowKit
set_option maxRecDepth 20000

def In12 (k : Int) : Prop := -9223372036854775808 ≤ k ∧ k ≤ 9223372036854775807
/-- a call's end that tells points of its own, and an error's number -/
def GivesSc (w : World) (r : List Pt × Nat) (e : Ending) (w' : World) : Prop := ∃ v, e = .returned (.tuple #[v, .int .i64 (r.2 : Int)]) ∧ OwnC w' w.heap.size v r.1 ∧ Below w.heap.size w w'
/-- what package line answers, in plain words -/
structure LiC (Tab : World → Prop) : Prop where
  keep : ∀ w w', Tab w → Below w.heap.size w w' → Tab w'
  send : ∀ (A : Option Addr) (n c : Nat) (b : List UInt8) (w : World), Bys w A n c b → n ≤ 140737488351232 → Tab w → Calls Tryd.prog 8 #[.slice A n c] w (GivesSc w (sendB b))
  hear : ∀ (A : Option Addr) (n c : Nat) (l : List Pt) (w : World), Cs w A n c l → n ≤ 1000 → Tab w → Calls Tryd.prog 15 #[.slice A n c] w (GivesHr w l)
  long : ∀ (k : Int) (w : World), In12 k → Calls Tryd.prog 12 #[.int .i64 k] w fun e w' => e = .returned (.int .i64 (longI k)) ∧ Below w.heap.size w w'

theorem OwnC.down {w : World} {B B' : Nat} {v : Value} {l : List Pt} (h : OwnC w B v l) (hB : B' ≤ B) : OwnC w B' v l := by
  obtain ⟨vs, ⟨k1, k2⟩, h2⟩ := h
  refine ⟨vs, ⟨k1, ?_⟩, h2⟩
  rcases k2 with k2 | ⟨g, cap, cur, e1, e2, e3⟩
  · exact .inl k2
  · exact .inr ⟨g, cap, cur, e1, Nat.le_trans hB e2, e3⟩
/-- the mark stands first -/
theorem line_mark (b : List UInt8) (h : b.length ≤ 512) : (pointsB (lineB b)).take 17 = markP := by
  have hll := lineB_len b h
  have e : (lineB b).take 4 = markB := by unfold lineB; rw [List.append_assoc]; exact List.take_left' rfl
  have e2 := stepsB_take' (lineB b) 4 (by omega)
  rw [e] at e2
  unfold markP pointsB
  rw [if_neg (by omega), if_neg (by decide), List.take_succ_cons, walkP_take, ← e2]
theorem line_find (b : List UInt8) (h : b.length ≤ 512) : FindR (pointsB (lineB b)) markP 0 0 true := by
  have hpl := line_points b h
  have hmk := mark_len
  refine .inl ⟨rfl, by omega, by omega, by decide, ?_, fun u hu => by omega, fun u hu => by omega⟩
  unfold St
  rw [List.drop_zero, hmk, line_mark b h]
  exact (turnB_zero _).symm
theorem line_self (b : List UInt8) (h : b.length ≤ 512) : HearR (pointsB (lineB b)) (b, 0, 0) := by
  have hpl := line_points b h
  refine .inr ⟨by omega, 0, 0, true, ?_, ?_⟩
  · rw [sliced_uni _ (uni_points _)]
    exact line_find b h
  · have := heard_sent b h [] [] 0
    rw [turnB_zero, List.nil_append, List.append_nil] at this
    rw [if_pos rfl, sliced_uni _ (uni_points _)]
    exact this.symm
theorem hear_nil : HearR [] ([], 0, 120) := .inr ⟨by decide, 0, 0, false, .inr ⟨rfl, rfl, rfl, .inr (fun b hb => by have := mark_len; have h0 : (slicedB []).length = 0 := rfl; omega)⟩, rfl⟩
theorem num12_any (z : Int) (w : World) : Calls Tryd.prog 10 #[.int .i64 z] w fun e w' => e = .returned (.int .i64 z) ∧ w = w' := by
  go_enter Tryd.func10, Tryd.ntmps10
  go_wp2
  go_ret
  exact ⟨rfl, rfl⟩
set_option maxHeartbeats 4000000 in
theorem live12_any {Tab : World → Prop} (C : LiC Tab) (w : World) (hT : Tab w) : Calls Tryd.prog 7 #[] w fun e w' => e = .returned (.bool true) ∧ Below w.heap.size w w' := by
  have HB : Hid (∀ (W : World), Bys (W.alloc (.cells #[.int .u8 97, .int .u8 98, .int .u8 99, .int .u8 100, .int .u8 101, .int .u8 102] 5 (6, 7))) (some ⟨W.heap.size, 0, none⟩) 6 6 [97, 98, 99, 100, 101, 102]) := fun W => Bys.litf W [97, 98, 99, 100, 101, 102] (6, 7) (by decide)
  have HS := Lib.hid (C.send (some ⟨w.heap.size, 0, none⟩) 6 6 [97, 98, 99, 100, 101, 102] _ (HB.out w) (by decide) (C.keep _ _ hT ((Below.refl w.heap.size w).alloc (Nat.le_refl _) _)))
  have HH := Lib.hid (fun A n c l W (T : Below w.heap.size w W) h k => C.hear A n c l W h k (C.keep _ _ hT T))
  have HLG : Hid (∀ W, Calls Tryd.prog 12 #[.int .i64 6] W fun e w' => e = .returned (.int .i64 81) ∧ Below W.heap.size W w') := fun W => C.long 6 W (by unfold In12; omega)
  have HSF := Lib.hid (line_self [97, 98, 99, 100, 101, 102] (by decide))
  have HSB : Hid (sendB [97, 98, 99, 100, 101, 102] = (pointsB (lineB [97, 98, 99, 100, 101, 102]), 0)) := rfl
  have HPL := Lib.hid (line_points [97, 98, 99, 100, 101, 102] (by decide))
  have HNM := Lib.hid num12_any
  rw [HSB.out] at HS
  have kc := fun (w : World) (C : Array Value) (n c : Nat) => Lib.run_convert_bytes_const (P := Tryd.prog) w 22 5 C n c Tryd.underlying22 Tryd.underlying5
  generalize pointsB (lineB [97, 98, 99, 100, 101, 102]) = L at *
  go_enter Tryd.func7, Tryd.ntmps7
  go_wp2_with (fail)
  refine HS.out.mono ?_
  rintro e w1 ⟨v1, rfl, hown1, T1⟩
  have T1 := ((Below.refl w.heap.size w).alloc (Nat.le_refl _) (.cells #[.int .u8 97, .int .u8 98, .int .u8 99, .int .u8 100, .int .u8 101, .int .u8 102] 5 (6, 7))).trans (T1.mono (by simp))
  obtain ⟨A1, c1, rfl, hcs1⟩ := hown1.shape
  have hl81 : L.length = 81 := HPL.out
  simp only at hcs1
  rw [hl81] at hcs1 ⊢
  have HC1 := Lib.hid hcs1
  clear hown1 hcs1 hl81
  go_wp2_with (fail)
  refine (HH.out A1 81 c1 L w1 T1 HC1.out (by decide)).mono ?_
  rintro e w2 ⟨r, A2, n2, c2, hr, rfl, hB2, T2⟩
  obtain rfl := hr.unique HSF.out
  have T2 := nxt T1 T2
  simp only at hB2 ⊢
  have HB2 := Lib.hid hB2
  clear hr hB2
  go_wp2_with (fail)
  refine (HH.out none 0 0 [] w2 T2 (Cs.nil w2) (by decide)).mono ?_
  rintro e w3 ⟨r, A3, n3, c3, hr, rfl, hB3, T3⟩
  obtain rfl := hr.unique hear_nil
  have hB2 := HB2.out.below T3
  have q1 := conv_bys hB2
  have T3 := nxt T2 T3
  simp only
  clear hr hB3 hB2
  go_wp2_with (fail)
  refine (HNM.out _ _).mono ?_
  rintro e w4 ⟨rfl, rfl⟩
  go_wp2_with (fail)
  refine (HNM.out _ _).mono ?_
  rintro e w4 ⟨rfl, rfl⟩
  go_wp2_with (fail)
  refine (HLG.out _).mono ?_
  rintro e w4 ⟨rfl, T4⟩
  have T4 := nxt T3 T4
  go_wp2_with (fail)
  refine (HNM.out _ _).mono ?_
  rintro e w5 ⟨rfl, rfl⟩
  go_wp2
  go_ret
  exact ⟨rfl, T4⟩
end Go.Proofs.YtkcpkfimmolkkaaDoor
