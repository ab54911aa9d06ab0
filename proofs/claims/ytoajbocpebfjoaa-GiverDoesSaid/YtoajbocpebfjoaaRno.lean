/- The document's own source of numbers (kedgeref26) as an object: New, Next; its First, Same. -/
import Derived.Test.YtoajbocpebfjoaaUntV
import Derived.Deep.RegionHeld3
import Derived.Deep.RegionLaw
import Derived.IntWalk
namespace Go.Proofs.Ytoajbocpebfjoaa
open Go.RowKit
set_option maxRecDepth 20000

/-- the i'th number that is drawn -/
def nx (l : List Nat) (i : Nat) : Nat := if i < l.length then l.getD i 0 else 9223372036854775808 + (i - l.length)
def drawn (l : List Nat) (k : Nat) : List Nat := (List.range k).map (nx l)
theorem drawn_len (l : List Nat) (k : Nat) : (drawn l k).length = k := by simp [drawn]
theorem drawn_succ (l : List Nat) (k : Nat) : drawn l (k + 1) = drawn l k ++ [nx l k] := by simp [drawn, List.range_succ]
/-- the document's source, at block g, its blocks X -/
def RN (g : Nat) (l : List Nat) (k : Nat) (w : World) (X : Nat → Prop) : Prop :=
  X g ∧ (∀ j, X j → j < w.heap.size) ∧ (l.length ≤ 1000000 ∧ k ≤ 1000000) ∧ ∃ vL vU, w.heap[g]? = some (.cells #[vL, vU] 86 (0, 0)) ∧ OwnU w 0 vL l ∧ OwnU w 0 vU (drawn l k) ∧ (∀ j, vL.ownBlock = some j → X j ∧ j ≠ g) ∧ (∀ j, vU.ownBlock = some j → X j ∧ j ≠ g) ∧ ∀ j, vL.ownBlock = some j → vU.ownBlock ≠ some j
theorem RN.holds (g : Nat) (l : List Nat) (k : Nat) : Holds (RN g l k) where
  lt := fun h => h.2.1
  off := fun {w w' X Y} h o hd => by
    obtain ⟨h1, h2, h3, vL, vU, h4, h5, h6, h7, h8, h9⟩ := h
    exact ⟨h1, fun k hk => Nat.lt_of_lt_of_le (h2 k hk) o.size, h3, vL, vU, (o.block g (h2 g h1) (hd g h1)).trans h4, h5.off o (fun k hk => hd k (h7 k hk).1), h6.off o (fun k hk => hd k (h8 k hk).1), h7, h8, h9⟩
theorem row2u {w : World} {g : Nat} {t : TypeId} {a b : Value} (h : w.heap[g]? = some (.cells #[a, b] t (0, 0))) :
    w.cell? ⟨g, 0, none⟩ = some a ∧ w.cell? ⟨g, 1, none⟩ = some b ∧ w.frozen? ⟨g, 0, none⟩ = false ∧ w.frozen? ⟨g, 1, none⟩ = false :=
  ⟨cell_of_row _ _ _ _ _ _ h, cell_of_row _ _ _ _ _ _ h, frozen_of_row w _ _ _ _ h, frozen_of_row w _ _ _ _ h⟩
theorem RN.cells {g k : Nat} {l : List Nat} {w : World} {X : Nat → Prop} (h : RN g l k w X) : ∃ P c Q d, w.cell? ⟨g, 0, none⟩ = some (.slice P l.length c) ∧ w.cell? ⟨g, 1, none⟩ = some (.slice Q k d) ∧ Us w P l.length c l ∧ Us w Q k d (drawn l k) := by
  obtain ⟨h1, h2, h3, vL, vU, h4, h5, h6, h7, h8, h9⟩ := h
  obtain ⟨c0, c1, _, _⟩ := row2u h4
  obtain ⟨P, c, rfl, kL, _⟩ := h5.shape
  obtain ⟨Q, d, e, kU, _⟩ := h6.shape
  rw [drawn_len] at e kU
  subst e
  exact ⟨P, c, Q, d, c0, c1, kL, kU⟩
set_option maxHeartbeats 1000000 in
theorem rnnew_any (A : Option Addr) (n c : Nat) (l : List Nat) (w : World) (hU : Us w A n c l) (hn : n ≤ 1000000) :
    Calls Try.prog 11 #[.slice A n c] w fun e w' => ∃ g X, e = .returned (.pointer (some ⟨g, 0, none⟩)) ∧ RN g l 0 w' X ∧ (∀ k, X k → w.heap.size ≤ k) ∧ Below w.heap.size w w' := by
  have hE := empty_rowu w
  have hU1 := Vals.alloc hU (.cells #[] 38)
  have hl := hU.len
  have hs : (w.alloc (.cells #[] 38)).heap.size = w.heap.size + 1 := by simp
  have HE := Lib.hid hE
  have HU := Lib.hid hU1
  clear hU hE hU1
  go_enter Try.func11, Try.ntmps11
  go_wp2_with ((refine app_u _ rfl (.tmp 3) (.tmp 4) rfl w.heap.size (.slice (some ⟨w.heap.size, 0, none⟩) 0 0) [] rfl ?_ A n c l rfl ?_ ?_ ?_ ?_); (exact HE.out); (exact HU.out); (simp; omega); (simp); intro v w1 hown hgrow hwhere; (simp only [List.nil_append] at hown); obtain ⟨P, d, hv, -⟩ := hown.shape; (rw [hl] at hv); subst hv)
  have HO := Lib.hid hown
  have HT := Lib.hid (((Below.refl _ w).alloc (Nat.le_refl _) (.cells #[] 38)).grown hgrow (by rw [hs]; omega) (fun k hk => by cases hk; exact Nat.le_refl _))
  have HG := Lib.hid hgrow
  clear hown hgrow hwhere
  go_wp2
  go_ret
  have T := HT.out
  have hlt := HO.out.lt
  refine ⟨w1.heap.size, fun j => j = w1.heap.size ∨ (w.heap.size ≤ j ∧ j < w1.heap.size), rfl, ⟨.inl rfl, fun j hj => ?_, ⟨by omega, by omega⟩, _, _, heap_alloc_new w1 _, ?_, OwnU.nil _ _, fun j hj => ?_, fun j hj => (nomatch hj), fun j hj h => (nomatch h)⟩, fun j hj => ?_, T.alloc T.size _⟩
  · simp; omega
  · exact (OwnU.down HO.out (Nat.zero_le _)).below ((Below.refl _ w1).alloc (Nat.le_refl _) _)
  · have := hlt j hj
    exact ⟨.inr this, by omega⟩
  · have := T.size
    rcases hj with hj | hj <;> omega
/-- behind the drawing -/
theorem RN.pushed {g k x : Nat} {l : List Nat} {w w1 w3 : World} {X : Nat → Prop} {vL vU v' : Value} {o : Obj} (hX : X g) (hlt : ∀ j, X j → j < w.heap.size) (hb : l.length ≤ 1000000 ∧ k < 1000000)
    (hg : w.heap[g]? = some (.cells #[vL, vU] 86 (0, 0))) (hL : OwnU w 0 vL l) (hLX : ∀ j, vL.ownBlock = some j → X j ∧ j ≠ g) (hUX : ∀ j, vU.ownBlock = some j → X j ∧ j ≠ g) (hLU : ∀ j, vL.ownBlock = some j → vU.ownBlock ≠ some j) (T1 : Below w.heap.size w w1) (hx : x = nx l k)
    (hown : OwnU w3 0 v' (drawn l k ++ [x])) (hgrow : (w1.alloc o).grownBy w3 vU.ownBlock) (hwhere : v'.ownBlock = vU.ownBlock ∨ v'.ownBlock = some (w1.alloc o).heap.size) :
    ∃ X', RN g l (k + 1) (w3.setCell ⟨g, 1, none⟩ v') X' ∧ Turns X X' w (w3.setCell ⟨g, 1, none⟩ v') := by
  subst hx
  have hgw := hlt g hX
  have hU3 : Off (fun j => vU.ownBlock = some j) w w3 := ((Off.of_below T1).alloc o).grown hgrow (fun k hk => .inl hk)
  have O3 : Off X w w3 := ((Off.of_below T1).alloc o).grown hgrow (fun k hk => .inl (hUX k hk).1)
  have hs1 : w.heap.size < (w1.alloc o).heap.size := by have := T1.size; simp; omega
  have hg3 : w3.heap[g]? = some (.cells #[vL, vU] 86 (0, 0)) := (hU3.block g hgw (fun e => (hUX g e).2 rfl)).trans hg
  have hg4 := heap_setCell_same w3 g 1 _ _ v' hg3
  have hsz : (w3.setCell ⟨g, 1, none⟩ v').heap.size = w3.heap.size := by simp [World.setCell]
  have hUX' : ∀ j, v'.ownBlock = some j → (X j ∨ w.heap.size ≤ j) ∧ j ≠ g := fun j hj => by
    rcases hwhere with h | h
    · exact ⟨.inl (hUX j (h ▸ hj)).1, (hUX j (h ▸ hj)).2⟩
    · rw [h] at hj; injection hj with hj; exact ⟨.inr (by omega), by omega⟩
  have O4 : Off (· = g) w3 (w3.setCell ⟨g, 1, none⟩ v') := (Off.refl (· = g) w3).setCell (p := ⟨g, 1, none⟩) (.inl rfl) v'
  have hown4 := hown.off O4 (fun j hj => (hUX' j hj).2)
  have hL4 := (hL.off hU3 hLU).off O4 (fun j hj => (hLX j hj).2)
  refine ⟨fun j => X j ∨ (w.heap.size ≤ j ∧ j < (w3.setCell ⟨g, 1, none⟩ v').heap.size), ⟨.inl hX, fun j hj => ?_, ⟨hb.1, by omega⟩, vL, v', by simpa using hg4, hL4, by rw [drawn_succ]; exact hown4, fun j hj => ⟨.inl (hLX j hj).1, (hLX j hj).2⟩, fun j hj => ⟨?_, (hUX' j hj).2⟩, fun j hj h => ?_⟩, ⟨O3.setCell (p := ⟨g, 1, none⟩) (.inl hX) v', fun j hj => ?_⟩⟩
  · rcases hj with hj | hj
    · have := hlt j hj; have := O3.size; omega
    · exact hj.2
  · rcases (hUX' j hj).1 with h | h
    · exact .inl h
    · exact .inr ⟨h, by rw [hsz]; exact (hown.lt j hj).2⟩
  · rcases hwhere with e | e
    · exact hLU j hj (e ▸ h)
    · rw [e] at h; injection h with h
      have := hlt j (hLX j hj).1; omega
  · rcases hj with hj | hj
    · exact .inl hj
    · exact .inr hj.1
set_option maxHeartbeats 2000000 in
theorem rnnext_any (g : Nat) (l : List Nat) (k : Nat) (w : World) (X : Nat → Prop) (hN : RN g l k w X) (hk : k < 1000000) :
    Calls Try.prog 28 #[.pointer (some ⟨g, 0, none⟩)] w fun e w' => e = .returned (.int .u64 ((nx l k : Nat) : Int)) ∧ ∃ X', RN g l (k + 1) w' X' ∧ Turns X X' w w' := by
  obtain ⟨hX, hlt, hb, vL, vU, hg, hL, hU, hLX, hUX, hLU⟩ := hN
  obtain ⟨c0, c1, f0, f1⟩ := row2u hg
  have hgw := hlt g hX
  obtain ⟨P, c, rfl, kL, _⟩ := hL.shape
  obtain ⟨Q, d, e, kU, _⟩ := hU.shape
  rw [drawn_len] at e kU
  subst e
  have HP : Hid (∀ (w3 : World) (v' : Value) (x : Nat), x = nx l k → OwnU w3 0 v' (drawn l k ++ [x]) → ∀ (w1 : World) (o : Obj), Below w.heap.size w w1 → (w1.alloc o).grownBy w3 (Value.slice Q k d).ownBlock → (v'.ownBlock = (Value.slice Q k d).ownBlock ∨ v'.ownBlock = some (w1.alloc o).heap.size) → ∃ X', RN g l (k + 1) (w3.setCell ⟨g, 1, none⟩ v') X' ∧ Turns X X' w (w3.setCell ⟨g, 1, none⟩ v')) :=
    fun w3 v' x hx hown w1 o T1 hgrow hwhere => RN.pushed hX hlt ⟨hb.1, hk⟩ hg hL hLX hUX hLU T1 hx hown hgrow hwhere
  have HU := Lib.hid hU
  have HUX := Lib.hid hUX
  have hqb : ∀ j, (Value.slice Q k d).ownBlock = some j → j < w.heap.size ∧ j ≠ g := fun j hj => ⟨hlt j (hUX j hj).1, (hUX j hj).2⟩
  have HQB := Lib.hid hqb
  obtain ⟨NL, hNL⟩ : ∃ n, l.length = n := ⟨_, rfl⟩
  rw [hNL] at c0 kL hb
  have HNL := Lib.hid hNL
  have hd := kU.le
  have hc := kL.le
  have hlen1 : (drawn l k).length + 1 ≤ 17592186044416 := by rw [drawn_len]; omega
  have HLEN := Lib.hid hlen1
  clear hL hU hLX hUX hLU hqb kU hlen1 hX hlt
  by_cases hlt : k < NL
  · obtain ⟨b, o, rfl, hbw, hcl⟩ := kL.cell (by omega)
    have hx : nx l k = l[k]'(by omega) := by unfold nx; rw [if_pos (by omega)]; simp [hNL, hlt]
    have cx := hcl k (by omega)
    rw [← hx] at cx
    obtain ⟨x, hxx⟩ : ∃ x, nx l k = x := ⟨_, rfl⟩
    rw [hxx] at cx ⊢
    have HX := Lib.hid hxx
    have d1 : decide ((k : Int) < (NL : Int)) = true := by simp; omega
    have d2 : (k : Int) < (NL : Int) := by omega
    have HLIT := Lib.hid (fun w : World => Us.lit1 w x)
    clear hx hxx hcl kL hg hNL
    go_enter Try.func28, Try.ntmps28
    go_wp2_with (fail)
    go_region
    go_wp2_with (fail)
    go_region
    have T1 : Below w.heap.size w w.drew.drew := (Below.refl w.heap.size w).drew.drew
    have T2 := T1.alloc T1.size (.cells #[.int .u64 (x : Int)] 38)
    have C2 := (T2.cell (p := ⟨g, 1, none⟩) hgw).trans c1
    have f2 := (frozen_of_block (T2.block g hgw) 1).trans f1
    have HU2 := Lib.hid (HU.out.below T2)
    have HS2 := Lib.hid T2.size
    go_wp2_with ((refine app_u _ rfl (.tmp 44) (.tmp 46) rfl 0 (.slice Q k d) (drawn l k) rfl ?_ (some ⟨w.heap.size, 0, none⟩) 1 1 [x] rfl ?_ ?_ ?_ ?_); (exact HU2.out); (exact HLIT.out w.drew.drew); (exact HLEN.out); (exact Nat.zero_le _); intro v3 w3 hown3 hgrow3 hwhere3; (have C3 := grown_cell (p := ⟨g, 1, none⟩) hgrow3 (Nat.lt_of_lt_of_le hgw HS2.out) (fun e => (HQB.out g e).2 rfl) C2); (have f3 := (frozen_of_block (hgrow3.block g (Nat.lt_of_lt_of_le hgw HS2.out) (fun e => (HQB.out g e.symm).2 rfl)) 1).trans f2); (have HE := Lib.hid (HP.out w3 v3 x HX.out.symm hown3 w.drew.drew (.cells #[.int .u64 (x : Int)] 38) T1 hgrow3 hwhere3)); obtain ⟨P3, c3, hv3, _⟩ := hown3.shape; (rw [show (drawn l k ++ [x]).length = k + 1 by simp [drawn_len]] at hv3); subst hv3)
    clear hown3 hgrow3 hwhere3
    go_wp2
    go_ret
    exact ⟨rfl, HE.out⟩
  · obtain ⟨x, hxx, hz⟩ : ∃ x, nx l k = x ∧ (x : Int) = 9223372036854775808 + ((k : Int) - (NL : Int)) := ⟨_, rfl, by unfold nx; rw [hNL, if_neg hlt]; omega⟩
    rw [hxx]
    have HX := Lib.hid hxx
    have HZ := Lib.hid hz
    have HLIT := Lib.hid (fun w : World => Us.litz w x _ hz)
    have hw1 : IntKind.i64.wrap ((k : Int) - (NL : Int)) = (k : Int) - (NL : Int) := IntWalk.i64_in _ (by omega)
    have hw2 : wrap64 ((k : Int) - (NL : Int)) = (k : Int) - (NL : Int) := IntWalk.wrap64_in _ (by omega)
    have hw3 : IntKind.u64.wrap ((k : Int) - (NL : Int)) = (k : Int) - (NL : Int) := IntWalk.u64_in _ (by omega)
    have hw4 : IntKind.u64.wrap (9223372036854775808 + ((k : Int) - (NL : Int))) = 9223372036854775808 + ((k : Int) - (NL : Int)) := IntWalk.u64_in _ (by omega)
    have d1 : decide ((k : Int) < (NL : Int)) = false := by simp; omega
    have d2 : ¬ ((k : Int) < (NL : Int)) := by omega
    clear hxx hz kL hg hNL
    go_enter Try.func28, Try.ntmps28
    go_wp2_with (fail)
    go_region
    go_wp2_with (fail)
    go_region
    have T1 : Below w.heap.size w w.drew.drew := (Below.refl w.heap.size w).drew.drew
    have T2 := T1.alloc T1.size (.cells #[.int .u64 (9223372036854775808 + ((k : Int) - (NL : Int)))] 38)
    have C2 := (T2.cell (p := ⟨g, 1, none⟩) hgw).trans c1
    have f2 := (frozen_of_block (T2.block g hgw) 1).trans f1
    have HU2 := Lib.hid (HU.out.below T2)
    have HS2 := Lib.hid T2.size
    go_wp2_with ((refine app_u _ rfl (.tmp 44) (.tmp 46) rfl 0 (.slice Q k d) (drawn l k) rfl ?_ (some ⟨w.heap.size, 0, none⟩) 1 1 [x] rfl ?_ ?_ ?_ ?_); (exact HU2.out); (exact HLIT.out w.drew.drew); (exact HLEN.out); (exact Nat.zero_le _); intro v3 w3 hown3 hgrow3 hwhere3; (have C3 := grown_cell (p := ⟨g, 1, none⟩) hgrow3 (Nat.lt_of_lt_of_le hgw HS2.out) (fun e => (HQB.out g e).2 rfl) C2); (have f3 := (frozen_of_block (hgrow3.block g (Nat.lt_of_lt_of_le hgw HS2.out) (fun e => (HQB.out g e.symm).2 rfl)) 1).trans f2); (have HE := Lib.hid (HP.out w3 v3 x HX.out.symm hown3 w.drew.drew (.cells #[.int .u64 (9223372036854775808 + ((k : Int) - (NL : Int)))] 38) T1 hgrow3 hwhere3)); obtain ⟨P3, c3, hv3, _⟩ := hown3.shape; (rw [show (drawn l k ++ [x]).length = k + 1 by simp [drawn_len]] at hv3); subst hv3)
    clear hown3 hgrow3 hwhere3
    go_wp2
    go_ret
    exact ⟨by rw [HZ.out]; rfl, HE.out⟩
/-- the first number that is the same as one ahead of it -/
def Dup (l : List Nat) (r : Nat × Nat × Bool) : Prop :=
  (∃ k i, r = (k, i, true) ∧ k < i ∧ i < l.length ∧ l.getD k 0 = l.getD i 0 ∧ (∀ a b, a < b → b < i → l.getD a 0 ≠ l.getD b 0) ∧ ∀ a, a < k → l.getD a 0 ≠ l.getD i 0) ∨
  (r = (0, 0, false) ∧ ∀ a b, a < b → b < l.length → l.getD a 0 ≠ l.getD b 0)
theorem Dup.unique {l : List Nat} {r r' : Nat × Nat × Bool} (h : Dup l r) (h' : Dup l r') : r = r' := by
  rcases h with ⟨k, i, rfl, h1, h2, h3, h4, h5⟩ | ⟨rfl, h1⟩
  · rcases h' with ⟨k', i', rfl, j1, j2, j3, j4, j5⟩ | ⟨rfl, j1⟩
    · have e : i = i' := by
        rcases Nat.lt_trichotomy i i' with h | h | h
        · exact absurd h3 (j4 k i h1 h)
        · exact h
        · exact absurd j3 (h4 k' i' j1 h)
      subst e
      have e : k = k' := by
        rcases Nat.lt_trichotomy k k' with h | h | h
        · exact absurd h3 (j5 k h)
        · exact h
        · exact absurd j3 (h5 k' h)
      subst e
      rfl
    · exact absurd h3 (j1 k i h1 h2)
  · rcases h' with ⟨k', i', rfl, j1, j2, j3, j4, j5⟩ | ⟨rfl, j1⟩
    · exact absurd j3 (h1 k' i' j1 j2)
    · rfl
def GivesDup (w : World) (l : List Nat) (e : Ending) (w' : World) : Prop := (∃ k i t, e = .returned (.tuple #[.int .i64 ((k : Nat) : Int), .int .i64 ((i : Nat) : Int), .bool t]) ∧ Dup l (k, i, t)) ∧ Below w.heap.size w w'
end Go.Proofs.Ytoajbocpebfjoaa
