/- The document's own window receiver (kedgeref25) as an object of three parts: its own cells, a queue, a list of what is ahead; New, keep. -/
import Derived.Test.YtpidbgnlehikeaaPulM
import Derived.Test.YtpidbgnlehikeaaRecV
import Derived.Test.YtpidbgnlehikeaaRrg
import Derived.Deep.QuietTactic
import Derived.BigQuiet
import Derived.Deep.RegionHeld3
namespace Go.Proofs.Ytpidbgnlehikeaa
open Go.RowKit
set_option maxRecDepth 20000

def ltV (t : Lt) : Rcv := ([.int .i64 (t.1 : Int)], t.2)
def lcells (gq : Nat) (v : Value) (s : Pls) : Array Value := #[.int .i64 s.c.eng, .int .i64 s.c.w, .int .i64 s.c.m, .int .i64 s.c.l, .int .i64 s.c.b, .int .i64 s.c.room, .int .u64 (s.c.beg : Int), .pointer (some ⟨gq, 0, none⟩), v, .int .i64 (s.ent : Int), .int .i64 (s.ret : Int)]
/-- the blocks: its own, the queue's, the list's -/
def Tri3 (g : Nat) (Xq Xl : Nat → Prop) : Nat → Prop := fun k => k = g ∨ Xq k ∨ Xl k
def RLv (g gq : Nat) (v : Value) (s : Pls) (Xq Xl : Nat → Prop) (w : World) : Prop :=
  w.heap[g]? = some (.cells (lcells gq v s) 55 (0, 0)) ∧ RQ gq s.c.room.toNat s.ls w Xq ∧ OwnV 62 2 w 0 (fun k => ¬ Xl k) v (s.late.map ltV) ∧ (∀ k, Xl k → k < w.heap.size) ∧ (∀ k, v.ownBlock = some k → Xl k) ∧ ¬ Xq g ∧ ¬ Xl g ∧ ∀ k, Xl k → ¬ Xq k
def RL (g : Nat) (s : Pls) (w : World) (X : Nat → Prop) : Prop := PlOk s ∧ ∃ gq v Xq Xl, RLv g gq v s Xq Xl w ∧ X = Tri3 g Xq Xl
section
variable {g gq : Nat} {v : Value} {s : Pls} {Xq Xl : Nat → Prop} {w w1 : World}
theorem RLv.lt (h : RLv g gq v s Xq Xl w) : ∀ k, Tri3 g Xq Xl k → k < w.heap.size := fun k hk => by
  rcases hk with rfl | hk | hk
  · exact lt_row h.1
  · exact h.2.1.2.1 k hk
  · exact h.2.2.2.1 k hk
theorem RLv.off {Y : Nat → Prop} (h : RLv g gq v s Xq Xl w) (o : Off Y w w1) (hd : ∀ k, Tri3 g Xq Xl k → ¬ Y k) : RLv g gq v s Xq Xl w1 := by
  obtain ⟨h1, h2, h3, h4, h5, h6, h7, h8⟩ := h
  exact ⟨(o.block g (lt_row h1) (hd g (.inl rfl))).trans h1, (RQ.holds _ _ _).off h2 o (fun k hk => hd k (.inr (.inl hk))), h3.off o (fun k _ hy hx => hd k (.inr (.inr hx)) hy) (fun k hk => hd k (.inr (.inr (h5 k hk)))), fun k hk => Nat.lt_of_lt_of_le (h4 k hk) o.size, h5, h6, h7, h8⟩
theorem RLv.below (h : RLv g gq v s Xq Xl w) (T : Below w.heap.size w w1) : RLv g gq v s Xq Xl w1 := h.off (Y := fun _ => False) (Off.of_below T) (fun _ _ h => h)
theorem RL.holds (g : Nat) (s : Pls) : Holds (RL g s) where
  lt := fun ⟨_, _, _, _, _, h, e⟩ k hk => h.lt k (e ▸ hk)
  off := fun ⟨h0, gq, v, Xq, Xl, h, e⟩ o hd => ⟨h0, gq, v, Xq, Xl, h.off o (fun k hk => hd k (e ▸ hk)), e⟩
/-- the queue is turned -/
theorem RLv.q (h : RLv g gq v s Xq Xl w) {ls' : List (List UInt8)} {Xq' : Nat → Prop} (hq : RQ gq s.c.room.toNat ls' w1 Xq') (T : Turns Xq Xq' w w1) : RLv g gq v { s with ls := ls' } Xq' Xl w1 ∧ Turns (Tri3 g Xq Xl) (Tri3 g Xq' Xl) w w1 := by
  obtain ⟨h1, h2, h3, h4, h5, h6, h7, h8⟩ := h
  have l1 := lt_row h1
  have no : ∀ k, k < w.heap.size → ¬ Xq k → ¬ Xq' k := fun k hk hx hy => by
    rcases T.grow k hy with h | h
    · exact hx h
    · omega
  refine ⟨⟨(T.off.block g l1 h6).trans h1, hq, h3.off T.off (fun k _ hx hl => h8 k hl hx) (fun k hk => h8 k (h5 k hk)), fun k hk => Nat.lt_of_lt_of_le (h4 k hk) T.off.size, h5, no g l1 h6, h7, fun k hk => no k (h4 k hk) (h8 k hk)⟩, ⟨T.off.more (fun k hk => .inr (.inl hk)), fun k hk => ?_⟩⟩
  rcases hk with hk | hk | hk
  · exact .inl (.inl hk)
  · exact (T.grow k hk).imp (fun h => .inr (.inl h)) id
  · exact .inl (.inr (.inr hk))
/-- a number of its own is stored -/
theorem RLv.c (h : RLv g gq v s Xq Xl w) {s' : Pls} (j : Nat) (x : Value) (hc : (lcells gq v s).setIfInBounds j x = lcells gq v s') (e1 : s'.c = s.c) (e2 : s'.ls = s.ls) (e3 : s'.late = s.late) : RLv g gq v s' Xq Xl (w.setCell ⟨g, j, none⟩ x) ∧ Turns (Tri3 g Xq Xl) (Tri3 g Xq Xl) w (w.setCell ⟨g, j, none⟩ x) := by
  obtain ⟨h1, h2, h3, h4, h5, h6, h7, h8⟩ := h
  have O : Off (· = g) w (w.setCell ⟨g, j, none⟩ x) := (Off.refl (· = g) w).setCell (p := ⟨g, j, none⟩) (.inl rfl) x
  refine ⟨⟨by rw [← hc]; exact heap_setCell_same w g j _ _ x h1, ?_, ?_, fun k hk => Nat.lt_of_lt_of_le (h4 k hk) O.size, h5, h6, h7, h8⟩, ⟨O.more (fun k hk => .inl hk), fun k hk => .inl hk⟩⟩
  · rw [e1, e2]
    exact (RQ.holds _ _ _).off h2 O (fun k hk e => h6 (e ▸ hk))
  · rw [e3]
    exact h3.off O (fun k _ e hl => h7 (e ▸ hl)) (fun k hk e => h7 (e ▸ h5 k hk))
/-- another list, made of new memory and of what was there -/
theorem RLv.l (h : RLv g gq v s Xq Xl w) {v' : Value} {l' : List Lt} (T : Below w.heap.size w w1) (ho : OwnV 62 2 w1 w.heap.size (fun k => ¬ (Xl k ∨ w.heap.size ≤ k)) v' (l'.map ltV)) :
    ∃ Xl', RLv g gq v' { s with late := l' } Xq Xl' (w1.setCell ⟨g, 8, none⟩ v') ∧ Turns (Tri3 g Xq Xl) (Tri3 g Xq Xl') w (w1.setCell ⟨g, 8, none⟩ v') := by
  obtain ⟨h1, h2, h3, h4, h5, h6, h7, h8⟩ := h
  have l1 := lt_row h1
  have hg1 := (T.block g l1).trans h1
  have O : Off (· = g) w1 (w1.setCell ⟨g, 8, none⟩ v') := (Off.refl (· = g) w1).setCell (p := ⟨g, 8, none⟩) (.inl rfl) v'
  have hsz : (w1.setCell ⟨g, 8, none⟩ v').heap.size = w1.heap.size := by simp [World.setCell]
  have hs := T.size
  refine ⟨fun k => Xl k ∨ (w.heap.size ≤ k ∧ k < w1.heap.size), ⟨by simpa [lcells] using heap_setCell_same w1 g 8 _ _ v' hg1, ?_, ?_, fun k hk => ?_, fun k hk => .inr (ho.lt k hk), h6, fun hk => ?_, fun k hk hx => ?_⟩, ⟨((Off.of_below T).trans O).more (fun k hk => .inl hk), fun k hk => ?_⟩⟩
  · exact (RQ.holds _ _ _).off ((RQ.holds _ _ _).below h2 T) O (fun k hk e => h6 (e ▸ hk))
  · exact ((ho.down (Nat.zero_le _)).imp (Z' := fun k => ¬ (Xl k ∨ (w.heap.size ≤ k ∧ k < w1.heap.size))) (fun k hk hz hx => hz (hx.imp id (fun h => ⟨h, hk⟩)))).off O (fun k _ e hx => by
      subst e
      rcases hx with hx | hx
      · exact h7 hx
      · omega) (fun k hk e => by have := (ho.lt k hk).1; omega)
  · rw [hsz]
    rcases hk with hk | hk
    · have := h4 k hk; omega
    · exact hk.2
  · rcases hk with hk | hk
    · exact h7 hk
    · omega
  · rcases hk with hk | hk
    · exact h8 k hk hx
    · have := h2.2.1 k hx; omega
  · rcases hk with hk | hk | hk
    · exact .inl (.inl hk)
    · exact .inl (.inr (.inl hk))
    · rcases hk with hk | hk
      · exact .inl (.inr (.inr hk))
      · exact .inr hk.1
theorem RLv.cells (h : RLv g gq v s Xq Xl w) : (w.cell? ⟨g, 1, none⟩ = some (.int .i64 s.c.w) ∧ w.cell? ⟨g, 2, none⟩ = some (.int .i64 s.c.m)) ∧ w.cell? ⟨g, 7, none⟩ = some (.pointer (some ⟨gq, 0, none⟩)) ∧ w.cell? ⟨g, 8, none⟩ = some v ∧ w.cell? ⟨g, 9, none⟩ = some (.int .i64 (s.ent : Int)) ∧ w.cell? ⟨g, 10, none⟩ = some (.int .i64 (s.ret : Int)) ∧ ∀ j, w.frozen? ⟨g, j, none⟩ = false :=
  ⟨⟨cell_of_row _ _ _ _ _ _ h.1, cell_of_row _ _ _ _ _ _ h.1⟩, cell_of_row _ _ _ _ _ _ h.1, cell_of_row _ _ _ _ _ _ h.1, cell_of_row _ _ _ _ _ _ h.1, cell_of_row _ _ _ _ _ _ h.1, fun _ => frozen_of_row _ _ _ _ _ h.1⟩
/-- the list as a slice that reads; it lies at the list's blocks -/
theorem RLv.lst (h : RLv g gq v s Xq Xl w) : ∃ P c, v = .slice P s.late.length c ∧ s.late.length ≤ c ∧ c ≤ 9223372036854775807 ∧ ((P = none ∧ c = 0 ∧ s.late = []) ∨ ∃ b, P = some ⟨b, 0, none⟩) ∧ RV w (fun k => ¬ Xl k) 2 P s.late.length c (s.late.map ltV) := by
  obtain ⟨P, c, h1, h2, h3, h4, h5⟩ := h.2.2.1.shape
  rw [List.length_map] at h1 h2 h5
  refine ⟨P, c, h1, h2, h3, ?_, h5 _ (fun k _ hk => .inl hk) (fun k hk hx => hx (h.2.2.2.2.1 k hk))⟩
  rcases h4 with ⟨e1, e2, e3⟩ | ⟨b, e, _⟩
  · exact .inl ⟨e1, e2, List.map_eq_nil_iff.1 e3⟩
  · exact .inr ⟨b, e⟩
end
/-- one of them in memory -/
theorem lt_cells {w : World} {Y : Nat → Prop} {P : Option Addr} {n c : Nat} {l : List Lt} (h : RV w Y 2 P n c (l.map ltV)) (j : Nat) (hj : j < l.length) : ∃ b o A d, P = some ⟨b, o, none⟩ ∧ b < w.heap.size ∧ w.cell? ⟨b, o + j * 2, none⟩ = some (.int .i64 (l[j].1 : Int)) ∧ w.cell? ⟨b, o + j * 2 + 1, none⟩ = some (.slice A l[j].2.length d) ∧ Bys w A l[j].2.length d l[j].2 := by
  have hl := h.len
  rw [List.length_map] at hl
  obtain ⟨b, o, e, hb, hc⟩ := RV.at_' h (by omega)
  obtain ⟨h3, A, d, h4, h5⟩ := hc j (by simpa using hj)
  simp only [List.getElem_map, ltV] at h3 h4 h5
  exact ⟨b, o, A, d, e, hb, h3 0 (by simp), h4, h5⟩
theorem Try.infoLt : (Try.prog.info? 62).map (fun i => (i.zero, i.size, i.bytes)) = some (some (.agg #[.int .i64 0, .slice none 0 0]), 2, 32) := by kernel_rfl
/-- an empty list of one's own -/
theorem empty_rowl (w : World) (Z : Nat → Prop) : OwnV 62 2 (w.alloc (.cells #[] 62)) w.heap.size Z (.slice (some ⟨w.heap.size, 0, none⟩) 0 0) [] := ⟨[], World.ownsRow_made w #[] 0 (Nat.le_refl _) (Nat.zero_le _) rfl, Rros.nil _ _ _⟩
set_option maxHeartbeats 4000000 in
theorem rlnew_no (c : Cfg) (w : World) (hi : CfI c) (h : plNew c ≠ 0) :
    Calls Try.prog 9 #[cfgV c] w fun e w' => e = .returned (.tuple #[.pointer none, .int .i64 (plNew c)]) ∧ Below w.heap.size w w' := by
  unfold cfgV
  obtain ⟨eng, cw, cm, cl, cb, room, beg⟩ := c
  have hi1 := hi.2.1
  have hi2 := hi.2.2.1
  have hi3 := hi.2.2.2.1
  simp only at hi1 hi2 hi3
  have T0 := (Below.refl _ w).alloc (Nat.le_refl _) (.cells #[.int .i64 eng, .int .i64 cw, .int .i64 cm, .int .i64 cl, .int .i64 cb, .int .i64 room, .int .u64 (beg : Int)] 24)
  have hn := heap_alloc_new w (.cells #[.int .i64 eng, .int .i64 cw, .int .i64 cm, .int .i64 cl, .int .i64 cb, .int .i64 room, .int .u64 (beg : Int)] 24)
  obtain ⟨c0, c1, c2, c3, c4, c5, c6⟩ := row7 hn
  have HK := Lib.hid (fun W => rrcheck_any cw cm cl W hi1 hi2 hi3)
  unfold plNew at *
  simp only at *
  have HT0 := Lib.hid T0
  clear hn T0 hi
  by_cases h1 : rgCheck cw cm cl = 0
  · rw [h1] at HK h
    rw [h1]
    simp only [ne_eq, not_true_eq_false, if_false] at h ⊢
    by_cases h3 : room < 1 ∨ 16 < room
    · rw [if_pos h3]
      have HN := Lib.hid (fun W => rqnew_no room W h3)
      clear h h1 h3
      go_enter Try.func9, Try.ntmps9
      go_wp2_with (fail)
      refine (HK.out _).mono ?_
      rintro e w1 ⟨rfl, rfl⟩
      go_wp2_with (fail)
      refine (HN.out _).mono ?_
      rintro e w1 ⟨rfl, rfl⟩
      go_wp2
      go_ret2
      exact ⟨rfl, HT0.out⟩
    · exact absurd (if_neg h3) h
  · rw [if_pos h1]
    have d1 : (rgCheck cw cm cl != 0) = true := by simpa using h1
    generalize rgCheck cw cm cl = z at *
    clear h h1
    go_enter Try.func9, Try.ntmps9
    go_wp2_with (fail)
    refine (HK.out _).mono ?_
    rintro e w1 ⟨rfl, rfl⟩
    go_wp2
    go_ret2
    exact ⟨rfl, HT0.out⟩
set_option maxHeartbeats 4000000 in
theorem rlnew_yes (c : Cfg) (w : World) (hi : CfI c) (h : plNew c = 0) :
    Calls Try.prog 9 #[cfgV c] w fun e w' => ∃ g X, e = .returned (.tuple #[.pointer (some ⟨g, 0, none⟩), .int .i64 0]) ∧ RL g ⟨c, [], [], 0, 0⟩ w' X ∧ (∀ k, X k → w.heap.size ≤ k) ∧ Below w.heap.size w w' := by
  have HOK := Lib.hid (PlOk.new h)
  have hok := plNew_ok h
  unfold cfgV
  obtain ⟨eng, cw, cm, cl, cb, room, beg⟩ := c
  have hi1 := hi.2.1
  have hi2 := hi.2.2.1
  have hi3 := hi.2.2.2.1
  simp only at hi1 hi2 hi3
  have T0 := (Below.refl _ w).alloc (Nat.le_refl _) (.cells #[.int .i64 eng, .int .i64 cw, .int .i64 cm, .int .i64 cl, .int .i64 cb, .int .i64 room, .int .u64 (beg : Int)] 24)
  have hn := heap_alloc_new w (.cells #[.int .i64 eng, .int .i64 cw, .int .i64 cm, .int .i64 cl, .int .i64 cb, .int .i64 room, .int .u64 (beg : Int)] 24)
  have HK := Lib.hid (fun W => rrcheck_any cw cm cl W hi1 hi2 hi3)
  have hz : rgCheck cw cm cl = 0 := by
    unfold plNew at h
    simp only at h
    by_cases e : rgCheck cw cm cl = 0
    · exact e
    · rw [if_pos e] at h; exact h
  rw [hz] at HK
  obtain ⟨k1, k2, k3, k5⟩ := hok
  simp only at k5
  obtain ⟨rm, rfl⟩ := Int.eq_ofNat_of_zero_le (show 0 ≤ room by omega)
  have HN := Lib.hid (fun W => rqnew_yes rm W (by omega) (by omega))
  have HT0 := Lib.hid T0
  have HH := Lib.hid hn
  clear hn T0 hi h hz k1 k2 k3 k5 hi1 hi2 hi3
  obtain ⟨c0, c1, c2, c3, c4, c5, c6⟩ := row7 HH.out
  go_enter Try.func9, Try.ntmps9
  go_wp2_with (fail)
  refine (HK.out _).mono ?_
  rintro e w1 ⟨rfl, rfl⟩
  go_wp2_with (fail)
  refine (HN.out _).mono ?_
  rintro e w1 ⟨rfl, q1, T1⟩
  have hs1 : (w.alloc (.cells #[.int .i64 eng, .int .i64 cw, .int .i64 cm, .int .i64 cl, .int .i64 cb, .int .i64 (rm : Int), .int .u64 (beg : Int)] 24)).heap.size = w.heap.size + 1 := by simp
  rw [hs1] at q1
  have Q1 := Lib.hid q1
  have hr := (T1.block _ (lt_row HH.out)).trans HH.out
  clear c0 c1 c2 c3 c4 c5 c6
  obtain ⟨c0, c1, c2, c3, c4, c5, c6⟩ := row7 hr
  have T2 := nxt HT0.out T1
  have hlt := q1.2.1
  have hs0 := HT0.out.size
  clear q1 hr
  go_wp2
  go_ret2
  rw [hs1] at hs0
  clear hs1
  generalize w.heap.size + 1 = gq at *
  have T3 := (Below.refl _ w1).alloc (Nat.le_refl _) (.cells (lcells gq (.slice none 0 0) ⟨⟨eng, cw, cm, cl, cb, (rm : Int), beg⟩, [], [], 0, 0⟩) 55)
  refine ⟨w1.heap.size, Tri3 w1.heap.size (· = gq) (fun _ => False), rfl, ⟨HOK.out, gq, .slice none 0 0, (· = gq), fun _ => False, ⟨heap_alloc_new w1 _, (RQ.holds _ _ _).below Q1.out T3, OwnV.nil _ _ _, (fun _ h => False.elim h), (fun k hk => by cases hk), (fun h => by have := hlt _ h; omega), (fun h => h), (fun _ h => False.elim h)⟩, rfl⟩, fun k hk => ?_, nxt T2 T3⟩
  rcases hk with hk | hk | hk
  · have := T2.size; omega
  · omega
  · exact hk.elim
end Go.Proofs.Ytpidbgnlehikeaa
