/- Package deframe as it landed: end, Seen, Reset. -/
import Derived.Test.YtjpmfomabofjpaaDef1
import Derived.Deep.RegionHeld3
namespace Go.Proofs.Ytjpmfomabofjpaa
open Go.RowKit

theorem Scn.lt {w : World} {S : Nat} {t : Addr} {s : Sc} (h : Scn w S t s) : S < w.heap.size := by
  obtain ⟨cs, hh, _⟩ := h
  exact lt_of_block hh
theorem Scn.off {X : Nat → Prop} {w w' : World} {S : Nat} {t : Addr} {s : Sc} (h : Scn w S t s) (hX : ¬ X S) (o : Off X w w') : Scn w' S t s := by
  obtain ⟨cs, hh, hc⟩ := h
  exact ⟨cs, (o.block S (lt_of_block hh) hX).trans hh, hc⟩
theorem Scn.below {w w' : World} {S : Nat} {t : Addr} {s : Sc} (h : Scn w S t s) (o : Below w.heap.size w w') : Scn w' S t s :=
  h.off (X := fun _ => False) (fun h => h) (Off.of_below o)
theorem Tab.off {X : Nat → Prop} {w w' : World} {a : Addr} (h : Tab w a) (hX : ¬ X a.block) (o : Off X w w') : Tab w' a := by
  obtain ⟨g, rfl, h1, h2⟩ := h
  exact ⟨g, rfl, by have := o.size; omega, fun i hi => (o.cell (p := ⟨g, i, none⟩) h1 hX).trans (h2 i hi)⟩
theorem Scn.cell {w : World} {S k : Nat} {cs : Array Value} {v : Value} (hh : w.heap[S]? = some (.cells cs 69 (0, 0))) (hc : cs[k]? = some v) : w.cell? ⟨S, k, none⟩ = some v := by
  rw [cell_of_row w _ k cs _ _ hh]; exact hc
theorem Scn.held {w : World} {S : Nat} {t : Addr} {s : Sc} (h : Scn w S t s) (hl : s.h.length ≤ 200) : Bys w (some ⟨S, 2, none⟩) s.h.length 200 s.h := by
  obtain ⟨cs, hh, hc⟩ := h
  refine ⟨rfl, hl, by unfold maxLen; omega, fun _ => ⟨S, 2, rfl, lt_of_block hh, fun j hj => Scn.cell hh (hc.2.2.2.1 j hj)⟩⟩

theorem at_same {cs : Array Value} {k : Nat} {u : Value} (h : k < cs.size) : (cs.setIfInBounds k u)[k]? = some u := Array.getElem?_setIfInBounds_self_of_lt h
theorem at_other {cs : Array Value} {j k : Nat} {u : Value} (h : k ≠ j) : (cs.setIfInBounds k u)[j]? = cs[j]? := Array.getElem?_setIfInBounds_ne h
theorem ScC.atTo {cs : Array Value} {t : Addr} {s : Sc} (h : ScC cs t s) (a : Nat) : ScC (cs.setIfInBounds 1 (.int .i64 (a : Int))) t ⟨a, s.h, s.g, s.b, s.l, s.z⟩ := by
  obtain ⟨h0, h1, h2, h3, h4, h5, h6, h7, h8⟩ := h
  exact ⟨by simpa using h0, (at_other (by omega)).trans h1, at_same (by omega), fun j hj => (at_other (by omega)).trans (h3 j hj), (at_other (by omega)).trans h4, (at_other (by omega)).trans h5, (at_other (by omega)).trans h6, (at_other (by omega)).trans h7, (at_other (by omega)).trans h8⟩
theorem ScC.clear {cs : Array Value} {t : Addr} {s : Sc} (h : ScC cs t s) : ScC (cs.setIfInBounds 202 (.int .i64 0)) t ⟨s.at_, [], s.g, s.b, s.l, s.z⟩ := by
  obtain ⟨h0, h1, h2, h3, h4, h5, h6, h7, h8⟩ := h
  exact ⟨by simpa using h0, (at_other (by omega)).trans h1, (at_other (by omega)).trans h2, fun j hj => absurd hj (by simp), at_same (by omega), (at_other (by omega)).trans h5, (at_other (by omega)).trans h6, (at_other (by omega)).trans h7, (at_other (by omega)).trans h8⟩
theorem ScC.good {cs : Array Value} {t : Addr} {s : Sc} (h : ScC cs t s) (hl : s.h.length ≤ 200) : ScC (cs.setIfInBounds 203 (.int .i64 ((s.g : Int) + 1))) t ⟨s.at_, s.h, s.g + 1, s.b, s.l, s.z⟩ := by
  obtain ⟨h0, h1, h2, h3, h4, h5, h6, h7, h8⟩ := h
  exact ⟨by simpa using h0, (at_other (by omega)).trans h1, (at_other (by omega)).trans h2, fun j hj => (at_other (by simp at hj; omega)).trans (h3 j hj), (at_other (by omega)).trans h4, at_same (by omega), (at_other (by omega)).trans h6, (at_other (by omega)).trans h7, (at_other (by omega)).trans h8⟩
theorem ScC.bad {cs : Array Value} {t : Addr} {s : Sc} (h : ScC cs t s) (hl : s.h.length ≤ 200) : ScC (cs.setIfInBounds 204 (.int .i64 ((s.b : Int) + 1))) t ⟨s.at_, s.h, s.g, s.b + 1, s.l, s.z⟩ := by
  obtain ⟨h0, h1, h2, h3, h4, h5, h6, h7, h8⟩ := h
  exact ⟨by simpa using h0, (at_other (by omega)).trans h1, (at_other (by omega)).trans h2, fun j hj => (at_other (by simp at hj; omega)).trans (h3 j hj), (at_other (by omega)).trans h4, (at_other (by omega)).trans h5, at_same (by omega), (at_other (by omega)).trans h7, (at_other (by omega)).trans h8⟩
theorem ScC.long {cs : Array Value} {t : Addr} {s : Sc} (h : ScC cs t s) (hl : s.h.length ≤ 200) : ScC (cs.setIfInBounds 205 (.int .i64 ((s.l : Int) + 1))) t ⟨s.at_, s.h, s.g, s.b, s.l + 1, s.z⟩ := by
  obtain ⟨h0, h1, h2, h3, h4, h5, h6, h7, h8⟩ := h
  exact ⟨by simpa using h0, (at_other (by omega)).trans h1, (at_other (by omega)).trans h2, fun j hj => (at_other (by simp at hj; omega)).trans (h3 j hj), (at_other (by omega)).trans h4, (at_other (by omega)).trans h5, (at_other (by omega)).trans h6, at_same (by omega), (at_other (by omega)).trans h8⟩
theorem ScC.noise {cs : Array Value} {t : Addr} {s : Sc} (h : ScC cs t s) (hl : s.h.length ≤ 200) : ScC (cs.setIfInBounds 206 (.int .i64 ((s.z : Int) + 1))) t ⟨s.at_, s.h, s.g, s.b, s.l, s.z + 1⟩ := by
  obtain ⟨h0, h1, h2, h3, h4, h5, h6, h7, h8⟩ := h
  exact ⟨by simpa using h0, (at_other (by omega)).trans h1, (at_other (by omega)).trans h2, fun j hj => (at_other (by simp at hj; omega)).trans (h3 j hj), (at_other (by omega)).trans h4, (at_other (by omega)).trans h5, (at_other (by omega)).trans h6, (at_other (by omega)).trans h7, at_same (by omega)⟩
theorem ScC.push {cs : Array Value} {t : Addr} {s : Sc} (h : ScC cs t s) (hl : s.h.length < 200) (x : UInt8) :
    ScC ((cs.setIfInBounds (2 + s.h.length) (.int .u8 (x.toNat : Int))).setIfInBounds 202 (.int .i64 ((s.h.length : Int) + 1))) t ⟨s.at_, s.h ++ [x], s.g, s.b, s.l, s.z⟩ := by
  obtain ⟨h0, h1, h2, h3, h4, h5, h6, h7, h8⟩ := h
  have two : ∀ j, j ≠ 2 + s.h.length → j ≠ 202 → ((cs.setIfInBounds (2 + s.h.length) (.int .u8 (x.toNat : Int))).setIfInBounds 202 (.int .i64 ((s.h.length : Int) + 1)))[j]? = cs[j]? := fun j h1 h2 => (at_other (by omega)).trans (at_other (by omega))
  refine ⟨by simpa using h0, (two _ (by omega) (by omega)).trans h1, (two _ (by omega) (by omega)).trans h2, fun j hj => ?_, ?_, (two _ (by omega) (by omega)).trans h5, (two _ (by omega) (by omega)).trans h6, (two _ (by omega) (by omega)).trans h7, (two _ (by omega) (by omega)).trans h8⟩
  · simp at hj
    by_cases e : j = s.h.length
    · subst e
      rw [at_other (by omega), at_same (by omega)]
      simp
    · rw [two _ (by omega) (by omega), h3 j (by omega)]
      simp [List.getElem_append_left (show j < s.h.length by omega)]
  · rw [at_same (by simp; omega)]
    simp

/-- 's.held[:n]' in the walk's words -/
theorem held_cut (a : Addr) (m : Nat) (hm : m ≤ 200) (W : World) : (Instr.sliceAt 66 (.pointer (some a)) none (some (.int .i64 (m : Int))) none).run Try.prog W = .ok (.slice (some a) m 200) W := by
  obtain ⟨i0, hi, hz0, hz1, hz2⟩ := info_parts Try.info5
  have ht : Try.prog.underlying 66 = some (.array (Try.prog.arrayLen 66) (Try.prog.elem 66)) := by kernel_rfl
  have he : Try.prog.elem 66 = 5 := by kernel_rfl
  have hl : Try.prog.arrayLen 66 = 200 := by kernel_rfl
  rw [run_sliceAt_array_h _ _ _ ht .i64 m (by omega) (by rw [hl]; omega), he, hl]
  simp [Go.sizeOf, typeInfo, hi, hz1, slicedAt, Addr.add]

/-- what end leaves -/
def EndP (w0 : World) (S : Nat) (t : Addr) (s : Sc) (found : List (List UInt8)) (e : Ending) (w' : World) : Prop :=
  ∃ v', e = .returned v' ∧ OwnR w' w0.heap.size v' (found ++ (scEnd s).2) ∧ Scn w' S t ⟨s.at_, s.h, (scEnd s).1.g, (scEnd s).1.b, (scEnd s).1.l, (scEnd s).1.z⟩ ∧ Off (· = S) w0 w'

set_option maxHeartbeats 2000000 in
set_option maxRecDepth 20000 in
theorem send_any (w0 : World) (S : Nat) (t : Addr) (s : Sc) (v : Value) (found : List (List UInt8)) (w : World) (ht : Tab w t) (hs : Scn w S t s) (hS : S < w0.heap.size) (hO : Off (· = S) w0 w) (hv : OwnR w w0.heap.size v found)
    (hl : s.h.length ≤ 200) (hb : s.g < 4611686018427387904 ∧ s.b < 4611686018427387904 ∧ found.length ≤ 1073741824) :
    Calls Try.prog 43 #[.pointer (some ⟨S, 0, none⟩), v] w (EndP w0 S t s found) := by
  have hheld := hs.held hl
  obtain ⟨cs, hh, hcs, h0, h1, h2, h3, h4, h5, h6, h7⟩ := hs
  have c0 := Scn.cell hh h0
  have c3 := Scn.cell hh h3
  have c4 := Scn.cell hh h4
  have c5 := Scn.cell hh h5
  have HC : Hid (ScC cs t s) := ⟨hcs, h0, h1, h2, h3, h4, h5, h6, h7⟩
  have HH := Lib.hid hh
  have f4 : w.frozen? ⟨S, 203, none⟩ = false := frozen_of_row w _ _ cs _ hh
  have f5 : w.frozen? ⟨S, 204, none⟩ = false := frozen_of_row w _ _ cs _ hh
  clear hh hcs h0 h1 h2 h3 h4 h5 h6 h7
  by_cases hn : s.h = []
  · have hz : ((s.h.length : Int) == 0) = true := by rw [hn]; rfl
    have HE : Hid (scEnd s = (⟨1, [], s.g, s.b, s.l, s.z⟩, [])) := by show _ = _; unfold scEnd; rw [if_pos hn]
    clear hn
    go_enter Try.func43, Try.ntmps43
    go_wp2
    go_ret
    refine ⟨_, rfl, ?_, ⟨cs, HH.out, ?_⟩, hO⟩
    · rw [HE.out]; simpa using hv
    · rw [HE.out]; exact HC.out
  · have hz : ((s.h.length : Int) == 0) = false := by
      have : s.h.length ≠ 0 := fun e => hn (List.eq_nil_of_length_eq_zero e)
      simp; omega
    have hsl := fun W => held_cut ⟨S, 2, none⟩ s.h.length hl W
    have BY := fun W t' b => body_fr t (some ⟨S, 2, none⟩) s.h.length 200 s.h W t' b (by omega)
    rcases hf : frameB s.h with _ | y
    · have HE : Hid (scEnd s = (⟨1, [], s.g, s.b + 1, s.l, s.z⟩, [])) := by show _ = _; unfold scEnd; rw [if_neg hn, hf]
      rw [hf, show frameE none = 40 from rfl] at BY
      have BY := Lib.hid (BY w.drew ht hheld)
      clear hn hf
      generalize hm : s.h.length = m at *
      have hm := Lib.hid hm
      go_enter Try.func43, Try.ntmps43
      go_wp2_with (fail)
      go_region_held3 (fun w' => w'.cell? ⟨S, 0, none⟩ = some (.pointer (some t)) ∧ w'.cell? ⟨S, 202, none⟩ = some (.int .i64 (m : Int))) (first | exact ⟨c0, c3⟩ | exact ⟨e0, e3⟩)
        (first | (go_at_call 41; (with_reducible refine BY.out.mono ?_); rintro e w1 ⟨A1, n1, c1, rfl, B1, F1, G⟩; have T := undrew G; have hSw : S < w.heap.size := lt_of_block HH.out; have hh1 : w1.heap[S]? = some (.cells cs 69 (0, 0)) := (T.block S hSw).trans HH.out; have d5 := Scn.cell hh1 HC.out.2.2.2.2.2.2.1; have g5 : w1.frozen? ⟨S, 204, none⟩ = false := frozen_of_row w1 _ _ cs _ hh1; have e0 := (T.cell (p := ⟨S, 0, none⟩) hSw).trans c0; have e3 := (T.cell (p := ⟨S, 202, none⟩) hSw).trans c3; have HH1 := Lib.hid hh1; clear hh1))
      go_wp2_with (fail)
      go_ret
      have O1 : Off (· = S) w0 (w1.setCell ⟨S, 204, none⟩ (.int .i64 ((s.b : Int) + 1))) := (hO.next T).one _ _
      refine ⟨_, rfl, ?_, ⟨_, heap_setCell_same w1 _ _ cs _ _ HH1.out, ?_⟩, O1⟩
      · rw [HE.out, List.append_nil]
        exact (hv.below T).off (X := (· = S)) (fun k _ hk => by omega) ((Off.refl _ w1).one _ _)
      · rw [HE.out]
        exact HC.out.bad (by rw [hm.out]; exact hl)
    · have HE : Hid (scEnd s = (⟨1, [], s.g + 1, s.b, s.l, s.z⟩, [y])) := by show _ = _; unfold scEnd; rw [if_neg hn, hf]
      rw [hf, show frameE (some y) = 0 from rfl] at BY
      have BY := Lib.hid (BY w.drew ht hheld)
      clear hn hf
      generalize hm : s.h.length = m at *
      have hm := Lib.hid hm
      go_enter Try.func43, Try.ntmps43
      go_wp2_with (fail)
      go_region_held3 (fun w' => w'.cell? ⟨S, 0, none⟩ = some (.pointer (some t)) ∧ w'.cell? ⟨S, 202, none⟩ = some (.int .i64 (m : Int))) (first | exact ⟨c0, c3⟩ | exact ⟨e0, e3⟩)
        (first | (go_at_call 41; (with_reducible refine BY.out.mono ?_); rintro e w1 ⟨A1, n1, c1, rfl, B1, F1, G⟩; have T := undrew G; have hSw : S < w.heap.size := lt_of_block HH.out; have hh1 : w1.heap[S]? = some (.cells cs 69 (0, 0)) := (T.block S hSw).trans HH.out; have d4 := Scn.cell hh1 HC.out.2.2.2.2.2.1; have g4 : w1.frozen? ⟨S, 203, none⟩ = false := frozen_of_row w1 _ _ cs _ hh1; have e0 := (T.cell (p := ⟨S, 0, none⟩) hSw).trans c0; have e3 := (T.cell (p := ⟨S, 202, none⟩) hSw).trans c3; have HH1 := Lib.hid hh1; have hv1 := hv.below T; have hvl := hv.lt; have hwz := hO.size; have hO1 := hO.next T; have O1 : Off (· = S) w1 (w1.setCell ⟨S, 203, none⟩ (.int .i64 ((s.g : Int) + 1))) := (Off.refl _ w1).one _ _; have hv2 := hv1.off (X := (· = S)) (fun k _ hk => by omega) O1; have B2 : Bys (w1.setCell ⟨S, 203, none⟩ (.int .i64 ((s.g : Int) + 1))) A1 n1 c1 y := B1.off (X := (· = S)) (F1.imp (fun k hk => by show k < w.heap.size; omega)) O1; have R := Rwf.lit1' (B := w.heap.size) B2 F1 w1.heap.size (by simp) T.size; have HV := Lib.hid (hv2.below ((Below.refl _ _).alloc (Nat.le_refl _) (.cells #[.slice A1 n1 c1] 22))); have HVL := Lib.hid hvl; have R := Lib.hid R; have hO2 := Lib.hid ((hO1.trans O1).alloc (.cells #[.slice A1 n1 c1] 22)); have hTz := T.size; clear hh1 hv hv1 hv2 hvl B1 B2 hO hO1 O1))
      go_wp2_with ((with_reducible refine app_rws _ rfl (.tmp 50) (.tmp 52) rfl w0.heap.size v found rfl ?_ w.heap.size (some ⟨w1.heap.size, 0, none⟩) 1 1 [y] rfl ?_ ?_ ?_ ?_ ?_ ?_); (exact HV.out); (exact R.out); (omega); (simp; omega); (omega); (intro k hk; exact (HVL.out k hk).2); intro v3 w3 hown3 hgrow3)
      go_ret
      have hr : ∀ k, v.ownBlock = some k → w0.heap.size ≤ k := fun k hk => (HVL.out k hk).1
      refine ⟨v3, rfl, by rw [HE.out]; exact hown3, ⟨cs.setIfInBounds 203 (.int .i64 ((s.g : Int) + 1)), ?_, ?_⟩, hO2.out.grown hgrow3 (fun k hk => .inr (hr k hk))⟩
      · rw [hgrow3.block S (by simp; omega) (fun e => by have := hr S e.symm; omega), Below.heap_alloc _ _ _ (by simp; omega)]
        exact heap_setCell_same w1 _ _ cs _ _ HH1.out
      · rw [HE.out]
        exact HC.out.good (by rw [hm.out]; exact hl)

/-- a tally's value -/
def talV (s : Sc) : Value := .agg #[.int .i64 (s.g : Int), .int .i64 (s.b : Int), .int .i64 (s.l : Int), .int .i64 (s.z : Int)]
end Go.Proofs.Ytjpmfomabofjpaa
