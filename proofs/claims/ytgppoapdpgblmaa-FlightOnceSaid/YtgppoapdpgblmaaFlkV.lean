/- A row of frames at any place of its block (a list that is cut at its head, or in its middle): read, append, one stored, one cut out. Nothing of the program's own functions is in here. -/
import Derived.Test.YtgppoapdpgblmaaFliV
import Derived.ArgAppend
namespace Go.Proofs.Ytgppoapdpgblmaa
open Go.RowKit
set_option maxRecDepth 20000

/-- frames that may be written, wherever they lie in their block; no text of them lies at a block of Z, or in that block -/
def OwnG (w : World) (Z : Nat → Prop) (v : Value) (l : List Frm) : Prop :=
  ∃ P c ms, v = .slice P l.length c ∧ l.length ≤ c ∧ c ≤ maxLen ∧ Frows w (fun k => Z k ∨ v.ownBlock = some k) ms l ∧ (P = none → c = 0) ∧
    ∀ p, P = some p → ∃ b o, p = ⟨b, o, none⟩ ∧ b < w.heap.size ∧ (∀ j, j < c * 3 → (w.cell? ⟨b, o + j, none⟩).isSome = true) ∧ (∀ r, w.frozen? ⟨b, r, none⟩ = false) ∧ ∀ j u, (fvs ms)[j]? = some u → w.cell? ⟨b, o + j, none⟩ = some u
theorem OwnG.nil (w : World) (Z : Nat → Prop) : OwnG w Z (.slice none 0 0) [] := ⟨none, 0, [], rfl, Nat.le_refl _, Nat.zero_le _, Frows.nil _ _, fun _ => rfl, fun p h => by cases h⟩
theorem OwnG.lt {w : World} {Z : Nat → Prop} {v : Value} {l : List Frm} (h : OwnG w Z v l) (k : Nat) (hk : v.ownBlock = some k) : k < w.heap.size := by
  obtain ⟨P, c, ms, rfl, _, _, _, _, h5⟩ := h
  rcases P with _ | p
  · cases hk
  · obtain ⟨b, o, rfl, hb, _⟩ := h5 p rfl
    cases hk
    exact hb
theorem OwnG.off {X Z : Nat → Prop} {w w' : World} {v : Value} {l : List Frm} (h : OwnG w Z v l) (o : Off X w w') (hX : ∀ k, k < w.heap.size → X k → Z k) (hv : ∀ k, v.ownBlock = some k → ¬ X k) : OwnG w' Z v l := by
  obtain ⟨P, c, ms, rfl, h1, h2, h3, h4, h5⟩ := h
  refine ⟨P, c, ms, rfl, h1, h2, h3.off o (fun k hk hx => .inl (hX k hk hx)), h4, fun p hp => ?_⟩
  subst hp
  obtain ⟨b, of, rfl, hb, hc, hf, hu⟩ := h5 p rfl
  have hn := hv b rfl
  exact ⟨b, of, rfl, Nat.lt_of_lt_of_le hb o.size, fun j hj => by rw [o.cell (p := ⟨b, of + j, none⟩) hb hn]; exact hc j hj, fun r => by rw [frozen_of_block (o.block b hb hn)]; exact hf r, fun j u hu' => by rw [o.cell (p := ⟨b, of + j, none⟩) hb hn]; exact hu j u hu'⟩
theorem OwnG.below {Z : Nat → Prop} {w w' : World} {v : Value} {l : List Frm} (h : OwnG w Z v l) (T : Below w.heap.size w w') : OwnG w' Z v l := h.off (X := fun _ => False) (Off.of_below T) (fun _ _ h => h.elim) (fun _ _ h => h)
theorem OwnG.imp {w : World} {Z Z' : Nat → Prop} {v : Value} {l : List Frm} (h : OwnG w Z v l) (hZ : ∀ k, k < w.heap.size → Z' k → Z k) : OwnG w Z' v l := by
  obtain ⟨P, c, ms, rfl, h1, h2, h3, h4⟩ := h
  exact ⟨P, c, ms, rfl, h1, h2, h3.imp (fun k hk hx => hx.elim (fun h => .inl (hZ k hk h)) .inr), h4⟩
theorem OwnG.of_own {w : World} {B : Nat} {Z : Nat → Prop} {v : Value} {l : List Frm} {ms : List Fam} (h1 : w.ownsRow B 40 3 v l.length (fvs ms)) (h2 : Frows w (fun k => Z k ∨ v.ownBlock = some k) ms l) : OwnG w Z v l := by
  rcases h1.2 with ⟨hv, hn⟩ | ⟨g, cap, cur, hv, hg, hh, hnc, hcm, hcs, ht⟩
  · have : l = [] := List.eq_nil_of_length_eq_zero hn
    subst this
    subst hv
    exact OwnG.nil _ _
  · subst hv
    refine ⟨_, cap, ms, rfl, hnc, hcm, h2, fun h => (nomatch h), fun p hp => ?_⟩
    injection hp with hp
    subst hp
    refine ⟨g, 0, rfl, lt_of_block hh, fun j hj => ?_, fun r => World.ownsRow.frozenAt h1 r, fun j u hu => ?_⟩
    · rw [Nat.zero_add, cell_of_row _ _ _ _ _ _ hh, Array.getElem?_eq_getElem (by omega)]
      rfl
    · have hj := (List.getElem?_eq_some_iff.1 hu).1
      rw [fvs_len, h2.1] at hj
      rw [Nat.zero_add, World.ownsRow.cellAt h1 j hj]
      exact hu
theorem OwnF.own {w : World} {B : Nat} {Z : Nat → Prop} {v : Value} {l : List Frm} (h : OwnF w B Z v l) : OwnG w Z v l := by
  obtain ⟨ms, h1, h2⟩ := h
  exact OwnG.of_own h1 h2
/-- the frames as a slice that reads -/
theorem OwnG.shape {w : World} {Z : Nat → Prop} {v : Value} {l : List Frm} (h : OwnG w Z v l) : ∃ P c, v = .slice P l.length c ∧ l.length ≤ c ∧ c ≤ maxLen ∧ (0 < l.length → ∃ b o, P = some ⟨b, o, none⟩ ∧ v.ownBlock = some b ∧ b < w.heap.size ∧ (∀ r, w.frozen? ⟨b, r, none⟩ = false) ∧
      ∀ j (h : j < l.length), ∃ u1 u2, w.cell? ⟨b, o + j * 3, none⟩ = some (.int .i64 (l[j].1 : Int)) ∧ w.cell? ⟨b, o + j * 3 + 1, none⟩ = some u1 ∧ w.cell? ⟨b, o + j * 3 + 2, none⟩ = some u2 ∧ Tx w (fun k => Z k ∨ k = b) l[j].2.1 u1 ∧ Tx w (fun k => Z k ∨ k = b) l[j].2.2 u2) := by
  obtain ⟨P, c, ms, rfl, h1, h2, h3, h4, h5⟩ := h
  refine ⟨P, c, rfl, h1, h2, fun hn => ?_⟩
  rcases P with _ | p
  · have := h4 rfl
    omega
  · obtain ⟨b, o, rfl, hb, hc, hf, hu⟩ := h5 p rfl
    refine ⟨b, o, rfl, rfl, hb, hf, fun j hj => ?_⟩
    have hjm : j < ms.length := by rw [h3.1]; exact hj
    have c0 := hu _ _ (fvs_at ms j 0 hjm (by omega))
    have c1 := hu _ _ (fvs_at ms j 1 hjm (by omega))
    have c2 := hu _ _ (fvs_at ms j 2 hjm (by omega))
    obtain ⟨e1, e2, e3⟩ := h3.2 j hjm hj
    have c0 : w.cell? ⟨b, o + j * 3, none⟩ = some (.int .i64 (ms[j].1 : Int)) := by simpa [fld] using c0
    have c1 : w.cell? ⟨b, o + j * 3 + 1, none⟩ = some ms[j].2.1 := by simpa [fld, Nat.add_assoc] using c1
    have c2 : w.cell? ⟨b, o + j * 3 + 2, none⟩ = some ms[j].2.2 := by simpa [fld, Nat.add_assoc] using c2
    rw [e1] at c0
    have hz : ∀ k, Z k ∨ k = b → Z k ∨ (Value.slice (some ⟨b, o, none⟩) l.length c).ownBlock = some k := fun k hk => hk.imp id (fun e => by rw [e]; rfl)
    exact ⟨_, _, c0, c1, c2, e2.imp (fun k _ => hz k), e3.imp (fun k _ => hz k)⟩
/-- one cell of a run of cells stored -/
theorem cells_set {w : World} {b o : Nat} {xs : List Value} (h : ∀ j u, xs[j]? = some u → w.cell? ⟨b, o + j, none⟩ = some u) (k : Nat) (hk : k < xs.length) (x : Value) :
    ∀ j u, (xs.set k x)[j]? = some u → (w.setCell ⟨b, o + k, none⟩ x).cell? ⟨b, o + j, none⟩ = some u := by
  intro j u hu
  by_cases e : k = j
  · subst e
    rw [List.getElem?_set_self hk] at hu
    injection hu with hu
    subst hu
    exact World.cell?_setCell_same _ _ _ (h k _ (List.getElem?_eq_getElem hk))
  · rw [List.getElem?_set_ne e] at hu
    rw [World.cell?_setCell_other _ _ _ _ (fun h => e (by injection h with _ h; omega))]
    exact h j u hu
theorem some_setCell {w : World} {p q : Addr} {x : Value} (h : (w.cell? q).isSome = true) : ((w.setCell p x).cell? q).isSome = true := by
  by_cases e : q = p
  · subst e
    obtain ⟨u, hu⟩ := Option.isSome_iff_exists.1 h
    rw [World.cell?_setCell_same _ _ _ hu, Option.isSome_some]
  · rw [World.cell?_setCell_other _ _ _ _ (Ne.symm e)]
    exact h
/-- a frame stored -/
theorem OwnG.stored {w : World} {b o n c j : Nat} {Z : Nat → Prop} {l : List Frm} (h : OwnG w Z (.slice (some ⟨b, o, none⟩) n c) l) (hj : j < l.length) (f : Frm) (u1 u2 : Value)
    (h1 : Tx w (fun k => Z k ∨ k = b) f.2.1 u1) (h2 : Tx w (fun k => Z k ∨ k = b) f.2.2 u2) :
    OwnG (((w.setCell ⟨b, o + j * 3, none⟩ (.int .i64 (f.1 : Int))).setCell ⟨b, o + j * 3 + 1, none⟩ u1).setCell ⟨b, o + j * 3 + 2, none⟩ u2) Z (.slice (some ⟨b, o, none⟩) n c) (l.set j f) := by
  obtain ⟨P, c', ms, hv, k1, k2, k3, k4, k5⟩ := h
  injection hv with e1 e2 e3
  subst e1 e2 e3
  obtain ⟨b', o', e, hb, hc, hf, hu⟩ := k5 _ rfl
  injection e with e1 e2
  subst e1 e2
  have hjm : j < ms.length := by rw [k3.1]; exact hj
  have hlen := fvs_len ms
  have O : Off (· = b) w (((w.setCell ⟨b, o + j * 3, none⟩ (.int .i64 (f.1 : Int))).setCell ⟨b, o + j * 3 + 1, none⟩ u1).setCell ⟨b, o + j * 3 + 2, none⟩ u2) :=
    (((Off.refl (· = b) w).setCell (p := ⟨b, o + j * 3, none⟩) (.inl rfl) _).setCell (p := ⟨b, o + j * 3 + 1, none⟩) (.inl rfl) _).setCell (p := ⟨b, o + j * 3 + 2, none⟩) (.inl rfl) _
  have hz : ∀ k, (Z k ∨ (Value.slice (some ⟨b, o, none⟩) l.length c).ownBlock = some k) → (Z k ∨ k = b) := fun k hk => hk.imp id (fun e => by injection e with e; exact e.symm)
  have s1 := cells_set hu (j * 3) (by omega) (.int .i64 (f.1 : Int))
  have s2 := cells_set s1 (j * 3 + 1) (by simp; omega) u1
  have s3 := cells_set s2 (j * 3 + 2) (by simp; omega) u2
  rw [fvs_set ms j hjm (f.1, u1, u2)] at s3
  simp only [← Nat.add_assoc] at s3
  refine ⟨_, c, ms.set j (f.1, u1, u2), by rw [List.length_set], by rw [List.length_set]; exact k1, k2, (k3.set j ⟨rfl, h1.imp (fun k _ => hz k), h2.imp (fun k _ => hz k)⟩).off O (fun k _ hk => .inr (by subst hk; rfl)), k4, fun p hp => ?_⟩
  injection hp with hp
  subst hp
  exact ⟨b, o, rfl, Nat.lt_of_lt_of_le hb O.size, fun i hi => some_setCell (some_setCell (some_setCell (hc i hi))), fun r => by rw [World.frozen?_setCell, World.frozen?_setCell, World.frozen?_setCell]; exact hf r, s3⟩
theorem set_same (xs : List Value) (i : Nat) (u : Value) (h : xs[i]? = some u) : xs.set i u = xs := by
  obtain ⟨hi, rfl⟩ := List.getElem?_eq_some_iff.1 h
  exact List.set_getElem_self hi
/-- a frame's first text stored -/
theorem OwnG.spoilt {w : World} {b o n c j : Nat} {Z : Nat → Prop} {l : List Frm} (h : OwnG w Z (.slice (some ⟨b, o, none⟩) n c) l) (hj : j < l.length) (t : List UInt8) (u1 : Value) (h1 : Tx w (fun k => Z k ∨ k = b) t u1) :
    OwnG (w.setCell ⟨b, o + j * 3 + 1, none⟩ u1) Z (.slice (some ⟨b, o, none⟩) n c) (l.set j (l[j].1, t, l[j].2.2)) := by
  obtain ⟨P, c', ms, hv, k1, k2, k3, k4, k5⟩ := h
  injection hv with e1 e2 e3
  subst e1 e2 e3
  obtain ⟨b', o', e, hb, hc, hf, hu⟩ := k5 _ rfl
  injection e with e1 e2
  subst e1 e2
  have hjm : j < ms.length := by rw [k3.1]; exact hj
  have hlen := fvs_len ms
  have O : Off (· = b) w (w.setCell ⟨b, o + j * 3 + 1, none⟩ u1) := (Off.refl (· = b) w).setCell (p := ⟨b, o + j * 3 + 1, none⟩) (.inl rfl) _
  have hz : ∀ k, (Z k ∨ (Value.slice (some ⟨b, o, none⟩) l.length c).ownBlock = some k) → (Z k ∨ k = b) := fun k hk => hk.imp id (fun e => by injection e with e; exact e.symm)
  have s2 := cells_set hu (j * 3 + 1) (by omega) u1
  have e0 := fvs_set ms j hjm (ms[j].1, u1, ms[j].2.2)
  have a0 : (fvs ms).set (j * 3) (.int .i64 (ms[j].1 : Int)) = fvs ms := set_same _ _ _ (by have := fvs_at ms j 0 hjm (by omega); simpa [fld] using this)
  simp only [a0] at e0
  have a2 : ((fvs ms).set (j * 3 + 1) u1).set (j * 3 + 2) ms[j].2.2 = (fvs ms).set (j * 3 + 1) u1 := set_same _ _ _ (by rw [List.getElem?_set_ne (by omega)]; have := fvs_at ms j 2 hjm (by omega); simpa [fld] using this)
  rw [a2] at e0
  rw [e0] at s2
  simp only [← Nat.add_assoc] at s2
  obtain ⟨x1, x2, x3⟩ := k3.2 j hjm hj
  refine ⟨_, c, ms.set j (ms[j].1, u1, ms[j].2.2), by rw [List.length_set], by rw [List.length_set]; exact k1, k2, (k3.set j (m := (ms[j].1, u1, ms[j].2.2)) (t := (l[j].1, t, l[j].2.2)) ⟨x1, h1.imp (fun k _ => hz k), x3⟩).off O (fun k _ hk => .inr (by subst hk; rfl)), k4, fun p hp => ?_⟩
  injection hp with hp
  subst hp
  exact ⟨b, o, rfl, Nat.lt_of_lt_of_le hb O.size, fun i hi => some_setCell (hc i hi), fun r => by rw [World.frozen?_setCell]; exact hf r, s2⟩
/-- the head is cut off -/
theorem OwnG.tail {w : World} {b o o' n c : Nat} {Z : Nat → Prop} {l : List Frm} (h : OwnG w Z (.slice (some ⟨b, o, none⟩) n c) l) (hn : 0 < n) (ho : o' = o + 3 ∨ c = 1) : OwnG w Z (.slice (some ⟨b, o', none⟩) (n - 1) (c - 1)) l.tail := by
  obtain ⟨P, c', ms, hv, k1, k2, k3, k4, k5⟩ := h
  injection hv with e1 e2 e3
  subst e1 e2 e3
  obtain ⟨b', o1, e, hb, hc, hf, hu⟩ := k5 _ rfl
  injection e with e1 e2
  subst e1 e2
  obtain ⟨f, l', rfl⟩ : ∃ f l', l = f :: l' := by cases l with | nil => simp at hn | cons f l' => exact ⟨f, l', rfl⟩
  obtain ⟨m, ms', rfl⟩ : ∃ f l', ms = f :: l' := by cases ms with | nil => have := k3.1; simp at this | cons f l' => exact ⟨f, l', rfl⟩
  simp only [List.length_cons] at k1
  refine ⟨some ⟨b, o', none⟩, c - 1, ms', by simp, by simp; omega, by omega, ⟨by have := k3.1; simpa using this, fun j h1 h2 => ?_⟩, fun h => (nomatch h), fun p hp => ?_⟩
  · have := k3.2 (j + 1) (by simp; omega) (by simp at h2 ⊢; omega)
    exact this
  · injection hp with hp
    subst hp
    refine ⟨b, o', rfl, hb, fun j hj => ?_, hf, fun j u hj => ?_⟩
    · rcases ho with rfl | rfl
      · have := hc (3 + j) (by omega)
        rwa [← Nat.add_assoc] at this
      · omega
    · have hj' := (List.getElem?_eq_some_iff.1 hj).1
      rw [fvs_len] at hj'
      rcases ho with rfl | rfl
      · have e : (fvs (m :: ms'))[3 + j]? = some u := by
          have e1 : fvs (m :: ms') = [.int .i64 (m.1 : Int), m.2.1, m.2.2] ++ fvs ms' := by simp [fvs]
          rw [e1, List.getElem?_append_right (by simp)]
          simpa using hj
        have := hu _ _ e
        rwa [← Nat.add_assoc] at this
      · have := k3.1
        simp at this
        omega
theorem Frows.erase {w : World} {Y : Nat → Prop} {ms : List Fam} {l : List Frm} (h : Frows w Y ms l) (i : Nat) : Frows w Y (ms.eraseIdx i) (l.eraseIdx i) := by
  have hl := h.1
  refine ⟨by rw [List.length_eraseIdx, List.length_eraseIdx, hl], fun j h1 h2 => ?_⟩
  rw [List.getElem_eraseIdx, List.getElem_eraseIdx]
  rw [List.length_eraseIdx] at h1 h2
  by_cases hj : j < i
  · rw [dif_pos hj, dif_pos hj]
    exact h.2 j (by split at h1 <;> omega) (by split at h2 <;> omega)
  · rw [dif_neg hj, dif_neg hj]
    exact h.2 (j + 1) (by split at h1 <;> omega) (by split at h2 <;> omega)
theorem fvs_drop (l : List Fam) (k j : Nat) (hk : k ≤ l.length) : (fvs (l.drop k))[j]? = (fvs l)[k * 3 + j]? := by
  have e : fvs l = fvs (l.take k) ++ fvs (l.drop k) := by rw [← fvs_append, List.take_append_drop]
  have hl : (fvs (l.take k)).length = k * 3 := by rw [fvs_len, List.length_take, Nat.min_eq_left hk]
  rw [e, List.getElem?_append_right (by omega), hl]
  congr 1
  omega
theorem fvs_take (l : List Fam) (k j : Nat) (u : Value) (h : (fvs (l.take k))[j]? = some u) : (fvs l)[j]? = some u := by
  have e : fvs l = fvs (l.take k) ++ fvs (l.drop k) := by rw [← fvs_append, List.take_append_drop]
  rw [e, List.getElem?_append_left (List.getElem?_eq_some_iff.1 h).1]
  exact h
theorem frows_one {w : World} {Y : Nat → Prop} {ms : List Fam} {l : List Frm} (h : Frows w Y ms l) : ∀ u ∈ fvs ms, u.oneCell' = true := by
  intro u hu
  unfold fvs at hu
  obtain ⟨m, hm, hu⟩ := List.mem_flatMap.1 hu
  obtain ⟨j, hj, rfl⟩ := List.mem_iff_getElem.1 hm
  obtain ⟨-, h2, h3⟩ := h.2 j hj (by rw [← h.1]; exact hj)
  simp at hu
  rcases hu with rfl | rfl | rfl
  · rfl
  · exact tx_one h2
  · exact tx_one h3
theorem grownBy_of_none {w w' : World} (h : w.grownBy w' none) (row : Option Nat) : w.grownBy w' row := ⟨h.os, h.tape, h.output, h.size, fun k hk _ => h.block k hk (by simp)⟩
/-- append of one frame that a literal holds -/
theorem run_append_g (w : World) (Z : Nat → Prop) (v : Value) (l : List Frm) (hown : OwnG w Z v l) (Z' : Nat → Prop) (g : Nat) (f : Frm) (u1 u2 : Value)
    (hg : w.heap[g]? = some (.cells #[.int .i64 (f.1 : Int), u1, u2] 40 (0, 0))) (h1 : Tx w Z' f.2.1 u1) (h2 : Tx w Z' f.2.2 u2)
    (hlen : l.length + 1 ≤ 1099511627776) (hZ : ∀ k, k < w.heap.size → Z k → Z' k) (hv' : ∀ k, v.ownBlock = some k → Z' k) (ty : TypeId) :
    ∃ v' w', (Builtin.append_ #[57, 57] ty #[v, .slice (some ⟨g, 0, none⟩) 1 1]).run Try.prog w = .ok v' w' ∧ OwnG w' Z v' (l ++ [f]) ∧ w.grownBy w' v.ownBlock ∧ (v'.ownBlock = v.ownBlock ∨ ∀ k, v'.ownBlock = some k → w.heap.size ≤ k) := by
  obtain ⟨i0, hi, hz0, hz1, hz2⟩ := info_parts Try.infoF
  obtain ⟨P, c, ms, rfl, k1, k2, k3, k4, k5⟩ := hown
  have hcells : ∀ j u, (fvs [(f.1, u1, u2)])[j]? = some u → w.cell? ((⟨g, 0, none⟩ : Addr).add j) = some u := by
    intro j u hu
    have e : (⟨g, 0, none⟩ : Addr).add j = ⟨g, j, none⟩ := by unfold Addr.add; split <;> simp_all
    rw [e, cell_of_row _ _ _ _ _ _ hg]
    simpa [fvs] using hu
  have hone1 := tx_one h1
  have hone2 := tx_one h2
  rcases P with _ | p
  · obtain rfl := k4 rfl
    have hl0 : l = [] := List.eq_nil_of_length_eq_zero (by omega)
    subst hl0
    obtain ⟨v', w', r1, r2, r3, r4⟩ := run_append_f w 0 Z (.slice none 0 0) [] (OwnF.nil _ _ _) Z' g f u1 u2 hg h1 h2 hlen (Nat.zero_le _) hZ (fun k hk => by cases hk) ty
    exact ⟨v', w', r1, r2.own, r3, r4.imp id (fun e k hk => by rw [e] at hk; injection hk with hk; omega)⟩
  · obtain ⟨b, o, rfl, hb, hc, hf, hu⟩ := k5 p rfl
    have hlen3 := fvs_len ms
    have hml := k3.1
    have one : ∀ u ∈ fvs [(f.1, u1, u2)], u.oneCell' = true := by
      intro u hu
      simp [fvs] at hu
      rcases hu with rfl | rfl | rfl
      · rfl
      · exact hone1
      · exact hone2
    have new : Frow w (fun k => Z k ∨ k = b) (f.1, u1, u2) f := by
      have e : ∀ k, k < w.heap.size → (Z k ∨ k = b) → Z' k := fun k hk hx => by
        rcases hx with hx | rfl
        · exact hZ k hk hx
        · exact hv' _ rfl
      exact ⟨rfl, h1.imp e, h2.imp e⟩
    have old : Frows w (fun k => Z k ∨ k = b) ms l := k3.imp (fun k _ hk => hk.imp id (fun e => by rw [e]; rfl))
    by_cases hroom : l.length + 1 ≤ c
    · have hr := run_append_room_cells (P := Try.prog) w 57 ty 40 i0 Try.underlying57 hi b o l.length c ⟨g, 0, none⟩ 1 1 (fvs [(f.1, u1, u2)]) (by rw [hz1]; rfl) hcells one hroom
        (fun j hj => by rw [hz1, Nat.add_assoc]; exact hc _ (by simp [fvs] at hj; omega)) (fun j _ => hf _)
      rw [hz1] at hr
      have hS : ∀ j, j < (fvs [(f.1, u1, u2)]).length → (w.cell? ⟨b, o + l.length * 3 + j, none⟩).isSome = true := fun j hj => by rw [Nat.add_assoc]; exact hc _ (by simp [fvs] at hj; omega)
      have O : Off (· = b) w (w.setCells b (o + l.length * 3) (fvs [(f.1, u1, u2)])) := by
        show Off (· = b) w (((w.setCell ⟨b, o + l.length * 3, none⟩ _).setCell ⟨b, o + l.length * 3 + 1, none⟩ _).setCell ⟨b, o + l.length * 3 + 1 + 1, none⟩ _)
        exact (((Off.refl (· = b) w).setCell (p := ⟨b, _, none⟩) (.inl rfl) _).setCell (p := ⟨b, _, none⟩) (.inl rfl) _).setCell (p := ⟨b, _, none⟩) (.inl rfl) _
      refine ⟨_, _, hr, ⟨some ⟨b, o, none⟩, c, ms ++ [(f.1, u1, u2)], by simp, by simpa using hroom, k2, ?_, fun h => (nomatch h), fun p hp => ?_⟩, ⟨O.os, O.tape, O.output, O.size, fun k hk hne => O.block k hk (fun e => hne (by rw [e]; rfl))⟩, .inl rfl⟩
      · have := (old.snoc new).off O (fun k _ hk => .inr hk)
        exact this.imp (fun k _ hk => hk.imp id (fun e => by injection e with e; exact e.symm))
      · injection hp with hp
        subst hp
        refine ⟨b, o, rfl, Nat.lt_of_lt_of_le hb O.size, fun j hj => ?_, fun r => by rw [World.frozen?_setCells]; exact hf r, fun j u hj => ?_⟩
        · show ((((w.setCell ⟨b, o + l.length * 3, none⟩ _).setCell ⟨b, o + l.length * 3 + 1, none⟩ _).setCell ⟨b, o + l.length * 3 + 1 + 1, none⟩ _).cell? _).isSome = true
          exact some_setCell (some_setCell (some_setCell (hc j hj)))
        · rw [fvs_append] at hj
          by_cases hlt : j < (fvs ms).length
          · rw [List.getElem?_append_left hlt] at hj
            rw [World.cell?_setCells_out _ _ _ _ _ (fun _ _ => .inl (by simp; omega))]
            exact hu j u hj
          · rw [List.getElem?_append_right (by omega)] at hj
            obtain ⟨h3, h4⟩ := List.getElem?_eq_some_iff.1 hj
            have := World.cell?_setCells_in b _ _ w hS (j - (fvs ms).length) h3
            rw [h4, show o + l.length * 3 + (j - (fvs ms).length) = o + j by omega] at this
            exact this
    · obtain ⟨v', w', r1, r2, r3⟩ := run_append_arg_grows (P := Try.prog) w 57 ty 40 i0 (.agg #[.int .i64 0, .slice none 0 0, .slice none 0 0]) 3 56 Try.underlying57 hi hz0 hz1 hz2 rfl (by decide) ⟨b, o, none⟩ l.length c (fvs ms) (by omega)
        (fun j u hj => by rw [Addr.add_lit]; exact hu j u hj) ⟨g, 0, none⟩ 1 1 (fvs [(f.1, u1, u2)]) rfl hcells (by omega) (by unfold maxLen; omega) (by omega)
      have O : Off (fun _ => False) w w' := (Off.refl _ w).grown r3 (fun k hk => by cases hk)
      have hv'k : ∀ k, v'.ownBlock = some k → w.heap.size ≤ k := fun k hk => (r2.lt k hk).1
      refine ⟨v', w', r1, OwnG.of_own (ms := ms ++ [(f.1, u1, u2)]) (by rw [List.length_append, fvs_append]; exact r2) ?_, grownBy_of_none r3 _, ?_⟩
      · have hnew : ∀ {ms : List Fam} {l : List Frm}, Frows w (fun k => Z k ∨ k = b) ms l → Frows w' (fun k => Z k ∨ v'.ownBlock = some k) ms l := fun {ms l} h => by
          have h2 := h.imp (Y' := fun k => Z k ∨ w.heap.size ≤ k) (fun k hk hx => hx.elim .inl (fun e => by omega))
          exact (h2.off O (fun k _ hk => hk.elim)).imp (fun k _ hx => hx.imp id (fun e => hv'k k e))
        exact hnew (old.snoc new)
      · exact .inr hv'k
theorem app_g {ops : Array Oper} {rest : List Oper} {o : Oper} {ac : Act} {Q : Exit → Act → World → Prop} (w : World) (hgd : o.guard = none) (s x : Operand)
    (ho : o.op = .call { callee := .builtin .append, args := #[s, x], argTypes := #[57, 57] })
    (Z : Nat → Prop) (v : Value) (l : List Frm) (hs : ac.eval s = v) (hown : OwnG w Z v l) (Z' : Nat → Prop) (g : Nat) (f : Frm) (u1 u2 : Value) (hx : ac.eval x = .slice (some ⟨g, 0, none⟩) 1 1)
    (hg : w.heap[g]? = some (.cells #[.int .i64 (f.1 : Int), u1, u2] 40 (0, 0))) (h1 : Tx w Z' f.2.1 u1) (h2 : Tx w Z' f.2.2 u2)
    (hlen : l.length + 1 ≤ 1099511627776) (hZ : ∀ k, k < w.heap.size → Z k → Z' k) (hv' : ∀ k, v.ownBlock = some k → Z' k)
    (h : ∀ v' w', OwnG w' Z v' (l ++ [f]) → w.grownBy w' v.ownBlock → (v'.ownBlock = v.ownBlock ∨ ∀ k, v'.ownBlock = some k → w.heap.size ≤ k) → wpList Try.prog ops Q rest (ac.put o.dst v') w') : wpList Try.prog ops Q (o :: rest) ac w := by
  refine wpList_plain hgd fun K hK => ?_
  obtain ⟨v', w', hrun, k2, k3, k4⟩ := run_append_g w Z v l hown Z' g f u1 u2 hg h1 h2 hlen hZ hv' o.type
  unfold Oper.wp execOp
  simp only [ho, resolve, invoke, builtin, Sem.run_bind, Sem.run_pure, Result.andThen_ok, List.map_toArray, List.map_cons, List.map_nil, hs, hx, hrun]
  exact hK _ _ (h v' w' k2 k3 k4)
theorem step_g {ops : Array Oper} {o : Oper} {ac : Act} {K : Act → World → Prop} {Q : Exit → Act → World → Prop} {E : Prop} (w : World) (hgd : o.guard = none) (s x : Operand)
    (ho : o.op = .call { callee := .builtin .append, args := #[s, x], argTypes := #[57, 57] })
    (Z : Nat → Prop) (v : Value) (l : List Frm) (hs : ac.eval s = v) (hown : OwnG w Z v l) (Z' : Nat → Prop) (g : Nat) (f : Frm) (u1 u2 : Value) (hx : ac.eval x = .slice (some ⟨g, 0, none⟩) 1 1)
    (hg : w.heap[g]? = some (.cells #[.int .i64 (f.1 : Int), u1, u2] 40 (0, 0))) (h1 : Tx w Z' f.2.1 u1) (h2 : Tx w Z' f.2.2 u2)
    (hlen : l.length + 1 ≤ 1099511627776) (hZ : ∀ k, k < w.heap.size → Z k → Z' k) (hv' : ∀ k, v.ownBlock = some k → Z' k)
    (h : ∀ v' w', OwnG w' Z v' (l ++ [f]) → w.grownBy w' v.ownBlock → (v'.ownBlock = v.ownBlock ∨ ∀ k, v'.ownBlock = some k → w.heap.size ≤ k) → K (ac.put o.dst v') w') :
    if Region.wanted o (yielded ops ac.tmps) = true then Oper.wp Try.prog o ac w K Q else E := by
  have hw : Region.wanted o (yielded ops ac.tmps) = true := by simp [Region.wanted, hgd]
  rw [if_pos hw]
  obtain ⟨v', w', hrun, k2, k3, k4⟩ := run_append_g w Z v l hown Z' g f u1 u2 hg h1 h2 hlen hZ hv' o.type
  unfold Oper.wp execOp
  simp only [ho, resolve, invoke, builtin, Sem.run_bind, Sem.run_pure, Result.andThen_ok, List.map_toArray, List.map_cons, List.map_nil, hs, hx, hrun]
  exact h v' w' k2 k3 k4
/-- 'append(l[:i:i], l[i+1:]...)' -/
theorem run_cut_g (w : World) (Z : Nat → Prop) (b o n c : Nat) (l : List Frm) (hown : OwnG w Z (.slice (some ⟨b, o, none⟩) n c) l) (i : Nat) (hi : i < n) (q : Addr) (hq : q = ⟨b, o + (i + 1) * 3, none⟩ ∨ n = i + 1) (m c2 : Nat) (hm : m = n - (i + 1)) (hlen : l.length ≤ 1099511627776) (ty : TypeId) :
    ∃ v' w', (Builtin.append_ #[57, 57] ty #[.slice (some ⟨b, o, none⟩) i i, .slice (some q) m c2]).run Try.prog w = .ok v' w' ∧ OwnG w' Z v' (l.eraseIdx i) ∧ w.grownBy w' none ∧ (v'.ownBlock = some b ∨ ∀ k, v'.ownBlock = some k → w.heap.size ≤ k) := by
  obtain ⟨i0, hi0, hz0, hz1, hz2⟩ := info_parts Try.infoF
  obtain ⟨P, c', ms, hv, k1, k2, k3, k4, k5⟩ := hown
  injection hv with e1 e2 e3
  subst e1 e2 e3
  obtain ⟨b', o1, e, hb, hc, hf, hu⟩ := k5 _ rfl
  injection e with e1 e2
  subst e1 e2
  have hml := k3.1
  have hl1 : (fvs (ms.take i)).length = i * 3 := by rw [fvs_len, List.length_take, Nat.min_eq_left (by omega)]
  have hl2 : (fvs (ms.drop (i + 1))).length = m * 3 := by rw [fvs_len, List.length_drop]; omega
  have hfe : fvs (ms.eraseIdx i) = fvs (ms.take i) ++ fvs (ms.drop (i + 1)) := by rw [← fvs_append, List.eraseIdx_eq_take_drop_succ]
  have hel : (l.eraseIdx i).length = i + m := by rw [List.length_eraseIdx, if_pos hi]; omega
  have ker : Frows w (fun k => Z k ∨ k = b) (ms.eraseIdx i) (l.eraseIdx i) := (k3.erase i).imp (fun k _ hk => hk.imp id (fun e => by rw [e]; rfl))
  have one : ∀ u ∈ fvs (ms.drop (i + 1)), u.oneCell' = true := fun u hu => by
    refine frows_one k3 u ?_
    have e : fvs ms = fvs (ms.take (i + 1)) ++ fvs (ms.drop (i + 1)) := by rw [← fvs_append, List.take_append_drop]
    rw [e]
    exact List.mem_append_right _ hu
  have hnews : ∀ j u, (fvs (ms.drop (i + 1)))[j]? = some u → w.cell? (q.add j) = some u := fun j u hj => by
    rcases hq with rfl | hq
    · rw [fvs_drop ms (i + 1) j (by omega)] at hj
      rw [Addr.add_lit, Nat.add_assoc]
      exact hu _ u hj
    · have := (List.getElem?_eq_some_iff.1 hj).1
      rw [hl2] at this
      omega
  by_cases h0 : m = 0
  · subst h0
    have hd : ms.drop (i + 1) = [] := List.drop_eq_nil_of_le (by omega)
    have hr := run_append_room_cells (P := Try.prog) w 57 ty 40 i0 Try.underlying57 hi0 b o i i q 0 c2 [] (by simp) (fun j u h => by simp at h) (fun u h => by simp at h) (Nat.le_refl _) (fun j h => by simp at h) (fun j h => by simp at h)
    refine ⟨_, _, hr, ⟨some ⟨b, o, none⟩, i, ms.eraseIdx i, by rw [hel], by rw [hel]; exact Nat.le_refl _, by omega, ker.imp (fun k _ hk => hk.imp id (fun e => by injection e with e; exact e.symm)), fun h => (nomatch h), fun p hp => ?_⟩, ⟨rfl, rfl, rfl, Nat.le_refl _, fun _ _ _ => rfl⟩, .inl rfl⟩
    injection hp with hp
    subst hp
    refine ⟨b, o, rfl, hb, fun j hj => hc j (by omega), hf, fun j u hj => ?_⟩
    rw [hfe, hd] at hj
    simp only [fvs, List.flatMap_nil, List.append_nil] at hj
    exact hu j u (fvs_take ms i j u hj)
  · obtain ⟨v', w', r1, r2, r3⟩ := run_append_arg_grows (P := Try.prog) w 57 ty 40 i0 (.agg #[.int .i64 0, .slice none 0 0, .slice none 0 0]) 3 56 Try.underlying57 hi0 hz0 hz1 hz2 rfl (by decide) ⟨b, o, none⟩ i i (fvs (ms.take i)) hl1
        (fun j u hj => by rw [Addr.add_lit]; exact hu j u (fvs_take ms i j u hj)) q m c2 (fvs (ms.drop (i + 1))) hl2 hnews (by omega) (by unfold maxLen; omega) (by omega)
    have O : Off (fun _ => False) w w' := (Off.refl _ w).grown r3 (fun k hk => by cases hk)
    have hv'k : ∀ k, v'.ownBlock = some k → w.heap.size ≤ k := fun k hk => (r2.lt k hk).1
    refine ⟨v', w', r1, OwnG.of_own (ms := ms.eraseIdx i) (by rw [hel, hfe]; exact r2) ?_, r3, .inr hv'k⟩
    have h2 := ker.imp (Y' := fun k => Z k ∨ w.heap.size ≤ k) (fun k hk hx => hx.elim .inl (fun e => by omega))
    exact (h2.off O (fun k _ hk => hk.elim)).imp (fun k _ hx => hx.imp id (fun e => hv'k k e))
theorem step_cut {ops : Array Oper} {o : Oper} {ac : Act} {K : Act → World → Prop} {Q : Exit → Act → World → Prop} {E : Prop} (w : World) (hgd : o.guard = none) (s x : Operand)
    (ho : o.op = .call { callee := .builtin .append, args := #[s, x], argTypes := #[57, 57] })
    (Z : Nat → Prop) (b of n c : Nat) (l : List Frm) (i : Nat) (hs : ac.eval s = .slice (some ⟨b, of, none⟩) i i) (q : Addr) (m c2 : Nat) (hx : ac.eval x = .slice (some q) m c2)
    (hown : OwnG w Z (.slice (some ⟨b, of, none⟩) n c) l) (hi : i < n) (hq : q = ⟨b, of + (i + 1) * 3, none⟩ ∨ n = i + 1) (hm : m = n - (i + 1)) (hlen : l.length ≤ 1099511627776)
    (h : ∀ v' w', OwnG w' Z v' (l.eraseIdx i) → w.grownBy w' none → (v'.ownBlock = some b ∨ ∀ k, v'.ownBlock = some k → w.heap.size ≤ k) → K (ac.put o.dst v') w') :
    if Region.wanted o (yielded ops ac.tmps) = true then Oper.wp Try.prog o ac w K Q else E := by
  have hw : Region.wanted o (yielded ops ac.tmps) = true := by simp [Region.wanted, hgd]
  rw [if_pos hw]
  obtain ⟨v', w', hrun, k2, k3, k4⟩ := run_cut_g w Z b of n c l hown i hi q hq m c2 hm hlen o.type
  unfold Oper.wp execOp
  simp only [ho, resolve, invoke, builtin, Sem.run_bind, Sem.run_pure, Result.andThen_ok, List.map_toArray, List.map_cons, List.map_nil, hs, hx, hrun]
  exact h v' w' k2 k3 k4
end Go.Proofs.Ytgppoapdpgblmaa
