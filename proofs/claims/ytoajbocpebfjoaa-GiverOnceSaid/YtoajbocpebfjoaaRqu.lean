/- The document's own queue (kedgeref19) as an object: what New, Push, Pop, At answer; kedgeref01.CopyAll. -/
import Derived.Test.YtoajbocpebfjoaaObj
import Derived.Test.YtoajbocpebfjoaaRcopy
import Derived.Deep.RegionHeld3
import Derived.Deep.RegionLaw
namespace Go.Proofs.Ytoajbocpebfjoaa
open Go.RowKit
set_option maxRecDepth 20000

def quPushE (room : Nat) (ls : List (List UInt8)) (n : Nat) : Nat := if 64 < n then 2 else if room ≤ ls.length then 3 else 0
def quPush (room : Nat) (ls : List (List UInt8)) (m : List UInt8) : List (List UInt8) := if quPushE room ls m.length = 0 then ls ++ [m] else ls
/-- the document's queue, at block g, its blocks X -/
def RQ (g room : Nat) (ls : List (List UInt8)) (w : World) (X : Nat → Prop) : Prop :=
  X g ∧ (∀ k, X k → k < w.heap.size) ∧ (1 ≤ room ∧ room ≤ 16 ∧ ls.length ≤ room ∧ ∀ m ∈ ls, m.length ≤ 64) ∧ ∃ v, w.heap[g]? = some (.cells #[.int .i64 (room : Int), v] 60 (0, 0)) ∧ OwnY w 0 (fun k => ¬ X k ∨ k = g) v ls ∧ ∀ k, v.ownBlock = some k → X k ∧ k ≠ g
theorem RQ.holds (g room : Nat) (ls : List (List UInt8)) : Holds (RQ g room ls) where
  lt := fun h => h.2.1
  off := fun {w w' X Y} h o hd => by
    obtain ⟨h1, h2, h3, v, h4, h5, h6⟩ := h
    refine ⟨h1, fun k hk => Nat.lt_of_lt_of_le (h2 k hk) o.size, h3, v, (o.block g (h2 g h1) (hd g h1)).trans h4, h5.off o (fun k _ hy => .inl (fun hx => hd k hx hy)) (fun k hk => hd k (h6 k hk).1), h6⟩
theorem row2 {w : World} {g : Nat} {t : TypeId} {a b : Value} (h : w.heap[g]? = some (.cells #[a, b] t (0, 0))) :
    w.cell? ⟨g, 0, none⟩ = some a ∧ w.cell? ⟨g, 1, none⟩ = some b ∧ w.frozen? ⟨g, 0, none⟩ = false ∧ w.frozen? ⟨g, 1, none⟩ = false :=
  ⟨cell_of_row _ _ _ _ _ _ h, cell_of_row _ _ _ _ _ _ h, frozen_of_row w _ _ _ _ h, frozen_of_row w _ _ _ _ h⟩
theorem rqnew_no (r : Int) (w : World) (h : r < 1 ∨ 16 < r) :
    Calls Try.prog 27 #[.int .i64 r] w fun e w' => e = .returned (.tuple #[.pointer none, .int .i64 1]) ∧ w = w' := by
  by_cases h1 : r < 1
  · have d1 : decide (r < 1) = true := by simpa using h1
    clear h h1
    go_enter Try.func27, Try.ntmps27
    go_wp2
    go_ret2
    exact ⟨rfl, rfl⟩
  · have d1 : decide (r < 1) = false := by simpa using h1
    have d2 : decide (16 < r) = true := by simp; omega
    clear h h1
    go_enter Try.func27, Try.ntmps27
    go_wp2
    go_ret2
    exact ⟨rfl, rfl⟩
theorem rqnew_yes (room : Nat) (w : World) (h1 : 1 ≤ room) (h2 : room ≤ 16) :
    Calls Try.prog 27 #[.int .i64 (room : Int)] w fun e w' => e = .returned (.tuple #[.pointer (some ⟨w.heap.size, 0, none⟩), .int .i64 0]) ∧ RQ w.heap.size room [] w' (· = w.heap.size) ∧ Below w.heap.size w w' := by
  have d1 : decide ((room : Int) < 1) = false := by simp; omega
  have d2 : decide ((16 : Int) < (room : Int)) = false := by simp; omega
  go_enter Try.func27, Try.ntmps27
  go_wp2
  go_ret2
  exact ⟨rfl, ⟨rfl, fun k hk => by subst hk; simp, ⟨h1, h2, Nat.zero_le _, fun m hm => by cases hm⟩, _, heap_alloc_new w _, OwnY.nil _ _ _, fun k hk => by cases hk⟩, (Below.refl _ _).alloc (Nat.le_refl _) _⟩
/-- the loaded cells of a queue -/
theorem RQ.cells {g room : Nat} {ls : List (List UInt8)} {w : World} {X : Nat → Prop} (h : RQ g room ls w X) : ∃ P c, ls.length ≤ c ∧ c ≤ maxLen ∧ w.cell? ⟨g, 0, none⟩ = some (.int .i64 (room : Int)) ∧ w.cell? ⟨g, 1, none⟩ = some (.slice P ls.length c) ∧ Rws w P ls.length c ls := by
  obtain ⟨h1, h2, h3, v, h4, h5, h6⟩ := h
  obtain ⟨c0, c1, _, _⟩ := row2 h4
  obtain ⟨P, c, rfl, k1, k2, k3, _⟩ := h5.shape
  exact ⟨P, c, k1, k2, c0, c1, k3⟩
set_option maxHeartbeats 2000000 in
theorem rqpush_no (g room : Nat) (ls : List (List UInt8)) (A : Option Addr) (n c : Nat) (w : World) (X : Nat → Prop) (hQ : RQ g room ls w X) (hn : quPushE room ls n ≠ 0) :
    Calls Try.prog 32 #[.pointer (some ⟨g, 0, none⟩), .slice A n c] w fun e w' => e = .returned (.int .i64 ((quPushE room ls n : Nat) : Int)) ∧ Below w.heap.size w w' := by
  obtain ⟨P, cc, k1, k2, c0, c1, _⟩ := hQ.cells
  clear hQ
  unfold quPushE at *
  by_cases h1 : 64 < n
  · rw [if_pos h1]
    have d1 : decide ((64 : Int) < (n : Int)) = true := by simp; omega
    clear h1 hn
    go_enter Try.func32, Try.ntmps32
    go_wp2
    go_ret
    exact ⟨rfl, Below.refl _ _⟩
  · rw [if_neg h1] at hn ⊢
    by_cases h2 : room ≤ ls.length
    · rw [if_pos h2]
      have d1 : decide ((64 : Int) < (n : Int)) = false := by simp; omega
      have d2 : decide ((room : Int) ≤ (ls.length : Int)) = true := by simp; omega
      clear h1 hn
      go_enter Try.func32, Try.ntmps32
      go_wp2_with (fail)
      go_region
      go_wp2
      go_ret
      exact ⟨rfl, below_drewN' (Below.refl _ _) _⟩
    · exact absurd (if_neg h2) hn
/-- behind the push -/
theorem RQ.pushed {g room : Nat} {ls : List (List UInt8)} {w w1 w3 : World} {X : Nat → Prop} {v v' : Value} {m : List UInt8} {o : Obj} (hX : X g) (hlt : ∀ k, X k → k < w.heap.size) (hr : 1 ≤ room ∧ room ≤ 16 ∧ ls.length < room) (hall : ∀ u ∈ ls, u.length ≤ 64) (hm : m.length ≤ 64)
    (hg : w.heap[g]? = some (.cells #[.int .i64 (room : Int), v] 60 (0, 0))) (hob : ∀ k, v.ownBlock = some k → X k ∧ k ≠ g) (T1 : Below w.heap.size w w1)
    (hown : OwnY w3 0 (fun k => ¬ (X k ∨ w.heap.size ≤ k) ∨ k = g) v' (ls ++ [m])) (hgrow : (w1.alloc o).grownBy w3 v.ownBlock) (hwhere : v'.ownBlock = v.ownBlock ∨ v'.ownBlock = some (w1.alloc o).heap.size) :
    ∃ X', RQ g room (ls ++ [m]) (w3.setCell ⟨g, 1, none⟩ v') X' ∧ Turns X X' w (w3.setCell ⟨g, 1, none⟩ v') := by
  have hgw := hlt g hX
  have O3 : Off X w w3 := ((Off.of_below T1).alloc o).grown hgrow (fun k hk => .inl (hob k hk).1)
  have hs1 : w.heap.size < (w1.alloc o).heap.size := by have := T1.size; simp; omega
  have hg1 : (w1.alloc o).heap[g]? = some (.cells #[.int .i64 (room : Int), v] 60 (0, 0)) := hp_old ((T1.block g hgw).trans hg) o
  have hg3 : w3.heap[g]? = some (.cells #[.int .i64 (room : Int), v] 60 (0, 0)) := (hgrow.block g (by omega) (fun e => (hob g e.symm).2 rfl)).trans hg1
  have hg4 := heap_setCell_same w3 g 1 _ _ v' hg3
  have hsz : (w3.setCell ⟨g, 1, none⟩ v').heap.size = w3.heap.size := by simp [World.setCell]
  have hob' : ∀ k, v'.ownBlock = some k → (X k ∨ w.heap.size ≤ k) ∧ k ≠ g := fun k hk => by
    rcases hwhere with h | h
    · exact ⟨.inl (hob k (h ▸ hk)).1, (hob k (h ▸ hk)).2⟩
    · rw [h] at hk; injection hk with hk; exact ⟨.inr (by omega), by omega⟩
  have O4 : Off (· = g) w3 (w3.setCell ⟨g, 1, none⟩ v') := (Off.refl (· = g) w3).setCell (p := ⟨g, 1, none⟩) (.inl rfl) v'
  have hown4 := hown.off O4 (fun k _ hk => .inr hk) (fun k hk => (hob' k hk).2)
  refine ⟨fun k => X k ∨ (w.heap.size ≤ k ∧ k < (w3.setCell ⟨g, 1, none⟩ v').heap.size), ⟨.inl hX, fun k hk => ?_, ⟨hr.1, hr.2.1, by simp; omega, fun u hu => (List.mem_append.1 hu).elim (hall u) (fun h => by rw [List.mem_singleton.1 h]; exact hm)⟩, v', by simpa using hg4, hown4.imp (fun k hk hz => ?_), fun k hk => ?_⟩, ⟨O3.setCell (p := ⟨g, 1, none⟩) (.inl hX) v', fun k hk => ?_⟩⟩
  · rcases hk with hk | hk
    · have := hlt k hk; have := O3.size; omega
    · exact hk.2
  · rcases hz with hz | hz
    · exact .inl (fun h => hz (h.elim .inl (fun h => .inr ⟨h, hk⟩)))
    · exact .inr hz
  · refine ⟨?_, (hob' k hk).2⟩
    rcases (hob' k hk).1 with h | h
    · exact .inl h
    · exact .inr ⟨h, by rw [hsz]; exact (hown.lt k hk).2⟩
  · rcases hk with hk | hk
    · exact .inl hk
    · exact .inr hk.1
set_option maxHeartbeats 4000000 in
theorem rqpush_yes (g room : Nat) (ls : List (List UInt8)) (A : Option Addr) (n c : Nat) (m : List UInt8) (w : World) (X : Nat → Prop) (hQ : RQ g room ls w X) (hB : Bys w A n c m) (h1 : n ≤ 64) (h2 : ls.length < room) :
    Calls Try.prog 32 #[.pointer (some ⟨g, 0, none⟩), .slice A n c] w fun e w' => e = .returned (.int .i64 0) ∧ ∃ X', RQ g room (ls ++ [m]) w' X' ∧ Turns X X' w w' := by
  obtain ⟨hX, hlt, hr, v, hg, hown, hob⟩ := hQ
  obtain ⟨c0, c1, f0, f1⟩ := row2 hg
  have hgw := hlt g hX
  obtain ⟨P, cc, rfl, k1, k2, _, _⟩ := hown.shape
  have d1 : decide ((64 : Int) < (n : Int)) = false := by simp; omega
  have d2 : decide ((room : Int) ≤ (ls.length : Int)) = false := by simp; omega
  have HC : Hid (∀ W, Below w.heap.size w W → Calls Try.prog 44 #[.slice A n c] W (GivesW W m)) := fun W T => rcopy_any A n c m W (hB.below T) (by omega)
  obtain ⟨N, hN⟩ : ∃ N, ls.length = N := ⟨_, rfl⟩
  have HN := Lib.hid hN
  have hrN : N < 16 := by omega
  have HR := Lib.hid (And.intro hr.1 (And.intro hr.2.1 h2))
  have HALL := Lib.hid hr.2.2.2
  rw [hN] at c1 k1 d2 hown hob hg
  have HOW := Lib.hid (hown.imp (Z' := fun k => ¬ (X k ∨ w.heap.size ≤ k) ∨ k = g) (fun k _ hz => hz.elim (fun h => .inl (fun hx => h (.inl hx))) .inr))
  have HG := Lib.hid hg
  have HOB := Lib.hid hob
  have hL : m.length = n := hB.len
  have hz1 : ∀ k, ¬ (X k ∨ w.heap.size ≤ k) ∨ k = g → k < w.heap.size := fun k hz => by
    rcases hz with hz | hz
    · exact Nat.lt_of_not_le (fun h => hz (.inr h))
    · omega
  have HZ1 := Lib.hid hz1
  have hz2 : ∀ k, (Value.slice P N cc).ownBlock = some k → k < w.heap.size := fun k hk => hlt k (hob k hk).1
  have HZ2 := Lib.hid hz2
  have HLT := Lib.hid hlt
  have hz3 : ∀ k, (Value.slice P N cc).ownBlock = some k → k ≠ g := fun k hk => (hob k hk).2
  have HZ3 := Lib.hid hz3
  have P0 := (Below.refl w.heap.size w).drew
  have d3 : ¬ ((room : Int) ≤ (N : Int)) := by omega
  clear hown hg hB hN hob hz1 hz2 hz3 hlt h2 hr
  go_enter Try.func32, Try.ntmps32
  go_wp2_with (fail)
  go_region
  go_wp2_with (fail)
  go_region_law
    (first
      | (go_simp; go_at_call 44; (with_reducible refine (HC.out _ (by first | exact P0 | exact P0.drew)).mono ?_); rintro e w1 ⟨v1, rfl, hw1, U1⟩; obtain ⟨A1, cA, rfl⟩ := own_shape hw1; rw [hL] at hw1; have T1 := nxt (by first | exact P0 | exact P0.drew) U1; have C1 := (T1.cell (p := ⟨g, 1, none⟩) hgw).trans c1; have C2 := fun o => ((T1.alloc T1.size o).cell (p := ⟨g, 1, none⟩) hgw).trans c1)
      | ((refine step_rwy _ rfl (.tmp 24) (.tmp 27) rfl 0 (fun k => ¬ (X k ∨ w.heap.size ≤ k) ∨ k = g) (.slice P N cc) ls rfl ?_ (fun k => k < w.heap.size) (some ⟨w1.heap.size, 0, none⟩) 1 1 [m] rfl rfl ?_ ?_ ?_ ?_ ?_ ?_); (exact HOW.out.below (T1.alloc T1.size _)); (exact lit_text hw1 hL (fun k h1 _ h => absurd h (Nat.not_lt.2 h1))); (rw [HN.out]; omega); (exact Nat.zero_le _); (exact fun k _ hz => HZ1.out k hz); (exact HZ2.out); (intro v3 w3 hown3 hgrow3 hwhere3); obtain ⟨P3, c3, hv3, _⟩ := hown3.shape; rw [show (ls ++ [m]).length = N + 1 by simp [HN.out]] at hv3; subst hv3; have C3 := grown_cell (p := ⟨g, 1, none⟩) hgrow3 (by have := T1.size; simp; omega) (fun e => HZ3.out g e rfl) (C2 _); have f3 := (frozen_of_block (hgrow3.block g (by have := T1.size; simp; omega) (fun e => HZ3.out g e.symm rfl)) 1).trans ((frozen_of_block ((T1.alloc T1.size (.cells #[.slice A1 n cA] 39)).block g hgw) 1).trans f1)))
  all_goals
    go_wp2
    go_ret
    exact ⟨rfl, RQ.pushed hX HLT.out HR.out HALL.out (by omega) HG.out HOB.out T1 hown3 hgrow3 hwhere3⟩
set_option maxHeartbeats 2000000 in
theorem rcopyall_any (P : Option Addr) (n c : Nat) (ls : List (List UInt8)) (w : World) (hR : Rws w P n c ls) (hn : n ≤ 1000000000) (hall : ∀ m ∈ ls, m.length ≤ 140737488355328) :
    Calls Try.prog 47 #[.slice P n c] w fun e w' => ∃ v, e = .returned v ∧ OwnY w' w.heap.size (· < w.heap.size) v ls ∧ Below w.heap.size w w' := by
  have hl := hR.1
  have hnc := hR.2.1
  have hcm := hR.2.2.1
  unfold maxLen at hcm
  have HA := Lib.hid hR.at_
  have HALL := Lib.hid hall
  have HLN := Lib.hid hl
  clear hR hall hl
  go_enter Try.func47, Try.ntmps47
  go_wp2_with (fail)
  go_loopw [3, 4] (fun v i wr => ∃ k : Nat, k ≤ n ∧ i = .int .i64 (k : Int) ∧ OwnY wr w.heap.size (· < w.heap.size) v (ls.take k) ∧ Below w.heap.size w wr) (fun _ i _ => n - (intOf i).toNat)
  case atStart => exact ⟨0, Nat.zero_le _, rfl, OwnY.nil _ _ _, Below.refl _ _⟩
  case round =>
    obtain ⟨k, hk, rfl, hown, hbel⟩ := hrel
    by_cases hlt : k < n
    · have hkl : k < ls.length := by rw [HLN.out]; exact hlt
      obtain ⟨b, o, A, d, rfl, hb, hk1, hc, hB⟩ := HA.out k hlt
      have c1 := (hbel.cell (p := ⟨b, o + k, none⟩) hb).trans hc
      have hm := HALL.out _ (List.getElem_mem hkl)
      have HT : Hid (ls.take (k + 1) = ls.take k ++ [ls[k]]) := List.take_succ_eq_append_getElem hkl
      have HCP := Lib.hid (rcopy_any A _ d ls[k] wr (hB.below hbel) hm)
      have hLk : ls[k].length = ls[k].length := rfl
      have HOW := Lib.hid hown
      have htl : (ls.take k).length = k := by simp; omega
      obtain ⟨P0, c0, hv, _⟩ := hown.shape
      rw [htl] at hv
      subst hv
      clear hc hB hown
      generalize ls[k] = x at *
      obtain ⟨L, hL⟩ : ∃ L, x.length = L := ⟨_, rfl⟩
      rw [hL] at c1 HCP hm
      have HTL := Lib.hid htl
      clear htl hLk
      go_wp2_with (fail)
      refine HCP.out.mono ?_
      rintro e w1 ⟨v1, rfl, hw1, U1⟩
      obtain ⟨A1, cA, rfl⟩ := own_shape hw1
      rw [hL] at hw1
      have HO1 := Lib.hid (HOW.out.below (U1.alloc U1.size (.cells #[.slice A1 L cA] 39)))
      have hs := hbel.size
      have HW1 := Lib.hid hw1
      clear hw1
      go_wp2_with ((refine app_rwy _ rfl (.tmp 11) (.tmp 17) rfl w.heap.size (· < w.heap.size) (.slice P0 k c0) (ls.take k) rfl ?_ (fun j => j < wr.heap.size) (some ⟨w1.heap.size, 0, none⟩) 1 1 [x] rfl rfl ?_ ?_ ?_ ?_ ?_ ?_); (exact HO1.out); (exact lit_text HW1.out hL (fun j h1 _ h => absurd h (Nat.not_lt.2 h1))); (rw [HTL.out]; omega); (have := U1.size; simp; omega); (exact fun j _ h => Nat.lt_of_lt_of_le h hs); (exact fun j hj => (HOW.out.lt j hj).2); intro v3 w3 hown3 hgrow3 hwhere3)
      go_roundw
      case rel =>
        rw [← HT.out] at hown3
        exact ⟨k + 1, by omega, by go_num, hown3, ((hbel.trans (U1.mono hs)).alloc (by have := U1.size; omega) _).grown hgrow3 (by have := U1.size; simp; omega) (fun j hj => (HOW.out.lt j hj).1)⟩
      case measure => simp [intOf]; omega
    · have e : ls.take k = ls := List.take_of_length_le (by rw [HLN.out]; omega)
      rw [e] at hown
      have HO := Lib.hid hown
      clear hown e
      go_wp2
      go_ret
      exact ⟨_, rfl, HO.out, hbel⟩
theorem Rws.tail {w : World} {b o n c : Nat} {ls : List (List UInt8)} (h : Rws w (some ⟨b, o, none⟩) n c ls) (hn : 0 < n) : Rws w (some ⟨b, o + 1, none⟩) (n - 1) (c - 1) ls.tail := by
  obtain ⟨h1, h2, h3, h4⟩ := h
  refine ⟨by simp; omega, by omega, by omega, fun h0 => ?_⟩
  obtain ⟨b', o', vs, e, hb, hl, hc, hv⟩ := h4 hn
  injection e with e
  injection e with e1 e2
  subst e1 e2
  refine ⟨b, o + 1, vs.tail, rfl, hb, by simp; omega, fun j hj => ?_, fun j hj hj' => ?_⟩
  · simp at hj
    have := hc (j + 1) (by omega)
    rw [show o + 1 + j = o + (j + 1) by omega, this]
    simp
  · simp at hj hj'
    obtain ⟨A, d, k1, k2⟩ := hv (j + 1) (by omega) (by omega)
    refine ⟨A, d, ?_, ?_⟩
    · simpa using k1
    · simpa using k2
set_option maxHeartbeats 1000000 in
theorem rqpop_no (g room : Nat) (w : World) (X : Nat → Prop) (hQ : RQ g room [] w X) :
    Calls Try.prog 36 #[.pointer (some ⟨g, 0, none⟩)] w fun e w' => e = .returned (.tuple #[.slice none 0 0, .bool false]) ∧ w = w' := by
  obtain ⟨P, cc, k1, k2, c0, c1, hR⟩ := hQ.cells
  clear hR hQ
  simp only [List.length_nil] at c1
  go_enter Try.func36, Try.ntmps36
  go_wp2
  go_ret2
  exact ⟨rfl, rfl⟩
/-- behind the pop -/
theorem RQ.popped {g room : Nat} {m : List UInt8} {ls : List (List UInt8)} {w w1 : World} {X : Nat → Prop} {v v' : Value} (hX : X g) (hlt : ∀ k, X k → k < w.heap.size) (hr : 1 ≤ room ∧ room ≤ 16 ∧ (m :: ls).length ≤ room ∧ ∀ u ∈ m :: ls, u.length ≤ 64)
    (hg : w.heap[g]? = some (.cells #[.int .i64 (room : Int), v] 60 (0, 0))) (T1 : Below w.heap.size w w1) (hown : OwnY w1 w.heap.size (· < w.heap.size) v' ls) :
    RQ g room ls (w1.setCell ⟨g, 1, none⟩ v') (fun k => k = g ∨ (w.heap.size ≤ k ∧ k < w1.heap.size)) ∧ Turns X (fun k => k = g ∨ (w.heap.size ≤ k ∧ k < w1.heap.size)) w (w1.setCell ⟨g, 1, none⟩ v') := by
  have hgw := hlt g hX
  have hsz : (w1.setCell ⟨g, 1, none⟩ v').heap.size = w1.heap.size := by simp [World.setCell]
  have hs := T1.size
  have hg1 := (T1.block g hgw).trans hg
  have hg4 := heap_setCell_same w1 g 1 _ _ v' hg1
  have O4 : Off (· = g) w1 (w1.setCell ⟨g, 1, none⟩ v') := (Off.refl (· = g) w1).setCell (p := ⟨g, 1, none⟩) (.inl rfl) v'
  have hob : ∀ k, v'.ownBlock = some k → w.heap.size ≤ k ∧ k < w1.heap.size := hown.lt
  have h4 := hown.off O4 (fun k _ hk => by subst hk; exact hgw) (fun k hk e => by have := hob k hk; omega)
  refine ⟨⟨.inl rfl, fun k hk => by rcases hk with hk | hk <;> omega, ⟨hr.1, hr.2.1, by have := hr.2.2.1; simp at this; omega, fun u hu => hr.2.2.2 u (List.mem_cons_of_mem _ hu)⟩, v', by simpa using hg4, (h4.down (Nat.zero_le _)).imp (fun k hk hz => ?_), fun k hk => ⟨.inr (hob k hk), by have := hob k hk; omega⟩⟩, ⟨(Off.of_below T1).setCell (p := ⟨g, 1, none⟩) (.inl hX) v', fun k hk => ?_⟩⟩
  · rcases hz with hz | hz
    · exact Nat.lt_of_not_le (fun h => hz (.inr ⟨h, by omega⟩))
    · omega
  · rcases hk with rfl | hk
    · exact .inl hX
    · exact .inr hk.1
set_option maxHeartbeats 2000000 in
theorem rqpop_yes (g room : Nat) (m : List UInt8) (ls : List (List UInt8)) (w : World) (X : Nat → Prop) (hQ : RQ g room (m :: ls) w X) :
    Calls Try.prog 36 #[.pointer (some ⟨g, 0, none⟩)] w fun e w' => ∃ A n c X', e = .returned (.tuple #[.slice A n c, .bool true]) ∧ Bys w' A n c m ∧ RQ g room ls w' X' ∧ Turns X X' w w' ∧ Av (fun k => X' k ∨ ¬ X k) n A := by
  obtain ⟨hX, hlt, hr, v, hg, hown, hob⟩ := hQ
  obtain ⟨c0, c1, f0, f1⟩ := row2 hg
  have hgw := hlt g hX
  obtain ⟨P, cc, rfl, k1, k2, kR, k3⟩ := hown.shape
  obtain ⟨b, vs, rfl, kb, hbw, hvl, hcell, hrv⟩ := k3 (by simp)
  obtain ⟨A, d, q1, q2, q3⟩ := hrv.2 0 (by rw [hvl]; simp) (by simp)
  have ca := hcell 0 (by rw [hvl]; simp)
  rw [q1] at ca
  simp only [List.getElem_cons_zero] at ca q2 q3
  have htl := kR.tail (by simp)
  simp only [List.tail_cons, List.length_cons, Nat.add_sub_cancel] at htl
  obtain ⟨N, hN⟩ : ∃ N, ls.length = N := ⟨_, rfl⟩
  have hN16 : N < 16 := by have := hr.2.2.1; simp at this; omega
  have HALL : ∀ u ∈ ls, u.length ≤ 140737488355328 := fun u hu => by have := hr.2.2.2 u (List.mem_cons_of_mem _ hu); omega
  simp only [List.length_cons] at c1 k1
  rw [hN] at c1 k1 htl
  have HCA : Hid (∀ (P' : Option Addr) (n' c' : Nat), Rws w P' n' c' ls → n' ≤ 16 → Calls Try.prog 47 #[.slice P' n' c'] w fun e w' => ∃ v, e = .returned v ∧ OwnY w' w.heap.size (· < w.heap.size) v ls ∧ Below w.heap.size w w') := fun P' n' c' h1 h2 => rcopyall_any P' n' c' ls w h1 (by omega) HALL
  have HE : Hid (∀ w1 v', Below w.heap.size w w1 → OwnY w1 w.heap.size (· < w.heap.size) v' ls → RQ g room ls (w1.setCell ⟨g, 1, none⟩ v') (fun k => k = g ∨ (w.heap.size ≤ k ∧ k < w1.heap.size)) ∧ Turns X (fun k => k = g ∨ (w.heap.size ≤ k ∧ k < w1.heap.size)) w (w1.setCell ⟨g, 1, none⟩ v')) := fun w1 v' T1 h => RQ.popped hX hlt hr hg T1 h
  have HB := Lib.hid q2
  have hav : ∀ w1 : World, Av (fun k => (k = g ∨ (w.heap.size ≤ k ∧ k < w1.heap.size)) ∨ ¬ X k) m.length A := fun w1 hn p e hx => by
    obtain ⟨b', o', e', hb', _⟩ := q2.at_ hn
    rw [e] at e'
    injection e' with e'
    subst e'
    rcases hx with (hx | hx) | hx
    · exact q3 hn _ e (.inl (.inr hx))
    · have h2 := hx.1; simp at h2; omega
    · exact q3 hn _ e (.inl (.inl hx))
  have HAV := Lib.hid hav
  have HAG : Hid (0 < m.length → ∀ p, A = some p → p.block ≠ g) := fun hn p e hx => q3 hn p e (.inl (.inr hx))
  obtain ⟨L, hL⟩ : ∃ L, m.length = L := ⟨_, rfl⟩
  rw [hL] at ca HB HAV HAG
  have HTL := Lib.hid htl
  clear hown hg hob kR k3 hrv hcell q1 q2 q3 hav htl HALL hr hlt kb
  have hn0 : ((N + 1 : Nat) : Int) ≠ 0 := by omega
  by_cases hc1 : cc = 1
  · subst hc1
    obtain rfl : N = 0 := by omega
    go_enter Try.func36, Try.ntmps36
    have hls : ls = [] := List.eq_nil_of_length_eq_zero hN
    go_wp2_with (fail)
    refine (HCA.out _ _ _ (by rw [hls]; exact ⟨rfl, Nat.le_refl _, Nat.zero_le _, fun h => absurd h (by omega)⟩) (by omega)).mono ?_
    rintro e w1 ⟨v1, rfl, hv, U1⟩
    obtain ⟨P3, c3, hv3, _⟩ := hv.shape
    rw [hN] at hv3
    subst hv3
    have f3 := (frozen_of_block (U1.block g hgw) 1).trans f1
    have C3 := (U1.cell (p := ⟨g, 1, none⟩) hgw).trans c1
    have HE1 := Lib.hid (HE.out w1 _ U1 hv)
    have HB1 := Lib.hid (Bys.off (X := (· = g)) (HB.out.below U1) (fun hn p e hx => HAG.out hn p e hx) ((Off.refl (· = g) w1).setCell (p := ⟨g, 1, none⟩) (.inl rfl) (.slice P3 0 c3)))
    have HAV1 := Lib.hid (HAV.out w1)
    clear hv hN
    go_wp2
    go_ret2
    exact ⟨A, L, d, _, rfl, HB1.out, HE1.out.1, HE1.out.2, HAV1.out⟩
  · go_enter Try.func36, Try.ntmps36
    go_wp2_with (fail)
    refine (HCA.out _ _ _ HTL.out (by omega)).mono ?_
    rintro e w1 ⟨v1, rfl, hv, U1⟩
    obtain ⟨P3, c3, hv3, _⟩ := hv.shape
    rw [hN] at hv3
    subst hv3
    have f3 := (frozen_of_block (U1.block g hgw) 1).trans f1
    have C3 := (U1.cell (p := ⟨g, 1, none⟩) hgw).trans c1
    have HE1 := Lib.hid (HE.out w1 _ U1 hv)
    have HB1 := Lib.hid (Bys.off (X := (· = g)) (HB.out.below U1) (fun hn p e hx => HAG.out hn p e hx) ((Off.refl (· = g) w1).setCell (p := ⟨g, 1, none⟩) (.inl rfl) (.slice P3 N c3)))
    have HAV1 := Lib.hid (HAV.out w1)
    clear hv hN
    go_wp2
    go_ret2
    exact ⟨A, L, d, _, rfl, HB1.out, HE1.out.1, HE1.out.2, HAV1.out⟩
end Go.Proofs.Ytoajbocpebfjoaa
