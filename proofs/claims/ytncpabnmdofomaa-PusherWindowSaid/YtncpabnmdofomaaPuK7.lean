/- Package pusher, as landed: a closure is appended to the list; accept. -/
import Derived.Test.YtncpabnmdofomaaPuK6
namespace Go.Proofs.Ytncpabnmdofomaa
open Go.RowKit
set_option maxRecDepth 20000

theorem Try.infoFn : (Try.prog.info? 100).map (fun i => (i.zero, i.size, i.bytes)) = some (some .nilFunc, 1, 8) := by kernel_rfl
theorem off_setCells {b : Nat} : ∀ (vs : List Value) (o : Nat) (w : World), Off (· = b) w (w.setCells b o vs)
  | [], _, w => Off.refl _ w
  | v :: r, o, w => ((Off.refl (· = b) w).setCell (p := ⟨b, o, none⟩) (.inl rfl) v).trans (off_setCells r (o + 1) _)
theorem row_setCells {b : Nat} {t : TypeId} : ∀ (vs : List Value) (o : Nat) (w : World) (cs : Array Value), w.heap[b]? = some (.cells cs t (0, 0)) → o + vs.length ≤ cs.size → ∃ cs', (w.setCells b o vs).heap[b]? = some (.cells cs' t (0, 0)) ∧ cs'.size = cs.size ∧ ∀ j, (j < o ∨ o + vs.length ≤ j) → cs'[j]? = cs[j]?
  | [], _, w, cs, h, _ => ⟨cs, h, rfl, fun _ _ => rfl⟩
  | v :: r, o, w, cs, h, hs => by
    obtain ⟨cs', h1, h2, h3⟩ := row_setCells r (o + 1) (w.setCell ⟨b, o, none⟩ v) (cs.setIfInBounds o v) (heap_setCell_same w b o cs _ v h) (by simp at hs ⊢; omega)
    refine ⟨cs', h1, by simpa using h2, fun j hj => ?_⟩
    simp at hj
    rw [h3 j (by omega), Array.getElem?_setIfInBounds_ne (by omega)]
theorem run_app_row {w : World} {P : Option Addr} {n c : Nat} {vs : List Value} (h : Row w P n c vs) (b : Nat) (f : Value) (hf : f.oneCell' = true) (hb : w.cell? ⟨b, 0, none⟩ = some f) (hn : n ≤ 100000) (ty : TypeId) :
    ∃ P' c' w', (Builtin.append_ #[76, 76] ty #[.slice P n c, .slice (some ⟨b, 0, none⟩) 1 1]).run Try.prog w = .ok (.slice P' (n + 1) c') w' ∧ Row w' P' (n + 1) c' (vs ++ [f]) ∧ Off (RowB P c) w w' ∧ ∀ k, RowB P' c' k → RowB P c k ∨ k = w.heap.size := by
  obtain ⟨h1, h2, h3, h4⟩ := h
  obtain ⟨i0, hi, hz0, hz1, hz2⟩ := info_parts Try.infoFn
  have ht : Try.prog.underlying 76 = some (.slice 100) := Try.underlying76
  have hsrc : Src Try.prog i0.size 76 (.slice (some ⟨b, 0, none⟩) 1 1) 1 [f] w := Src.ofSlice w ht ⟨b, 0, none⟩ 1 1 [f] (by rw [hz1]; rfl) (fun j u hu => by
    match j, hu with
    | 0, hu =>
      simp at hu
      subst hu
      exact hb) (fun u hu => by rw [List.mem_singleton.1 hu]; exact hf)
  by_cases hr : n + 1 ≤ c
  · obtain ⟨bk, o, cs, rfl, h5, h6, h7⟩ := h4 (by omega)
    have hcell : ∀ j, w.cell? ⟨bk, j, none⟩ = cs[j]? := fun j => cell_of_row _ _ _ _ _ _ h5
    have hrun := run_append_room_src w 76 76 ty 100 i0 ht hi bk o n c _ 1 [f] hsrc hr (fun j hj => by
      simp at hj
      subst hj
      rw [hz1, hcell, Array.getElem?_eq_getElem (by omega)]
      rfl) (fun j _ => frozen_of_row _ _ _ _ _ h5)
    rw [hz1, Nat.mul_one] at hrun
    refine ⟨_, _, _, hrun, ⟨by simp [h1], hr, h3, fun _ => ⟨bk, o, cs.setIfInBounds (o + n) f, rfl, heap_setCell_same w bk (o + n) cs _ f h5, by simpa using h6, fun j hj => ?_⟩⟩, (off_setCells [f] (o + n) w).more (fun k hk => ⟨by omega, o, by rw [hk]⟩), fun k hk => .inl hk⟩
    simp at hj
    by_cases hjn : j = n
    · subst hjn
      rw [Array.getElem?_setIfInBounds_self_of_lt (by omega)]
      simp [h1]
    · rw [Array.getElem?_setIfInBounds_ne (by omega), h7 j (by omega), List.getElem_append_left (by omega)]
  · have hcn : c = n := by omega
    subst hcn
    have hold : (Builtin.firstCells i0.size c (.slice P c c)).run Try.prog w.drew = .ok vs.toArray w.drew := by
      rcases P with _ | ⟨bk, o, sp⟩
      · have hc0 : c = 0 := by
          rcases Nat.eq_zero_or_pos c with e | e
          · exact e
          · obtain ⟨_, _, _, e', _⟩ := h4 e
            cases e'
        subst hc0
        rw [List.eq_nil_of_length_eq_zero h1]
        exact run_firstCells_none _ _ _ _ _
      · rcases Nat.eq_zero_or_pos c with e | e
        · subst e
          rw [List.eq_nil_of_length_eq_zero h1]
          exact run_firstCells_some _ _ _ _ _ _ [] (by simp) (fun j v hv => by simp at hv)
        · obtain ⟨bk', o', cs, e', h5, h6, h7⟩ := h4 e
          injection e' with e'
          rw [e']
          refine run_firstCells_some _ _ _ _ _ _ vs (by rw [hz1, h1, Nat.mul_one]) (fun j v hv => ?_)
          have hj : j < vs.length := (List.getElem?_eq_some_iff.1 hv).1
          have ea : (⟨bk', o', none⟩ : Addr).add j = ⟨bk', o' + j, none⟩ := by unfold Addr.add; split <;> simp_all
          rw [ea]
          refine ((cell_of_row w bk' (o' + j) cs _ _ h5).trans (h7 j hj)).trans ?_
          rw [List.getElem?_eq_getElem hj] at hv
          exact hv
    have hrun := run_append_grow_src w 76 76 ty 100 i0 .nilFunc ht hi hz0 P c c vs hold _ 1 [f] hsrc (by omega) (by omega) (by rw [hz2]; exact growslice_fits (by omega) (by omega))
    have hge := grownCap_ge w (c + 1) c 100
    have hcm := grownCap_le_maxLen w (c + 1) c 100 (by unfold maxLen; omega)
    refine ⟨_, _, _, hrun, ⟨by simp [h1], hge, hcm, fun _ => ⟨w.heap.size, 0, _, rfl, heap_alloc_new w.drew _, ?_, fun j hj => ?_⟩⟩, ((Off.refl _ w).drew).alloc _, fun k hk => .inr ?_⟩
    · have hzc : (Builtin.zeroCells Value.nilFunc.cells (grownCap w (c + 1) c 100 - (c + 1))).size = grownCap w (c + 1) c 100 - (c + 1) := by rw [size_zeroCells]; exact Nat.mul_one _
      rw [Array.size_append, hzc]
      simp [h1]
      omega
    · rw [Nat.zero_add, Array.getElem?_append_left (by simpa using hj)]
      simp
    · obtain ⟨_, o, e⟩ := hk
      injection e with e
      injection e with e
      exact e.symm
theorem app_f {ops : Array Oper} {rest : List Oper} {o : Oper} {a : Act} {Q : Exit → Act → World → Prop} (w : World) (hgd : o.guard = none) (s x : Operand)
    (ho : o.op = .call { callee := .builtin .append, args := #[s, x], argTypes := #[76, 76] })
    (P : Option Addr) (n c : Nat) (vs : List Value) (hs : a.eval s = .slice P n c) (hR : Row w P n c vs) (b : Nat) (f : Value) (hf : f.oneCell' = true) (hx : a.eval x = .slice (some ⟨b, 0, none⟩) 1 1) (hb : w.cell? ⟨b, 0, none⟩ = some f) (hn : n ≤ 100000)
    (h : ∀ P' c' w', Row w' P' (n + 1) c' (vs ++ [f]) → Off (RowB P c) w w' → (∀ k, RowB P' c' k → RowB P c k ∨ k = w.heap.size) → wpList Try.prog ops Q rest (a.put o.dst (.slice P' (n + 1) c')) w') : wpList Try.prog ops Q (o :: rest) a w := by
  refine wpList_plain hgd fun K hK => ?_
  obtain ⟨P', c', w', hrun, h2, h3, h4⟩ := run_app_row hR b f hf hb hn o.type
  unfold Oper.wp execOp
  simp only [ho, resolve, invoke, builtin, Sem.run_bind, Sem.run_pure, Result.andThen_ok, List.map_toArray, List.map_cons, List.map_nil, hs, hx, hrun]
  exact hK _ _ (h P' c' w' h2 h3 h4)
/-- behind the append of a closure -/
theorem EnV.pushed {T : Nat → Int → List Tmr → World → (Nat → Prop) → Prop} (C : TmC T) {x gt : Nat} {P P' : Option Addr} {n pc pc' : Nat} {vs : List Value} {s : Pus} {Xt Xc : Nat → Prop} {w w1 w2 : World} {m : List UInt8} {f : Value} (h : EnV T x gt P n pc vs s s.base Xt Xc w) (U : Below w.heap.size w w1)
    (hc : Clo w1 (fun k => Xc k ∨ (w.heap.size ≤ k ∧ k < w1.heap.size)) f (rgMod (s.ls.length : Nat) s.c.m) m) (hR : Row w2 P' (n + 1) pc' (vs ++ [f])) (O : Off (RowB P pc) w1 w2) (hP : ∀ k, RowB P' pc' k → RowB P pc k ∨ k = w1.heap.size) :
    EnV T x gt P' (n + 1) pc' (vs ++ [f]) (puAdd s m) s.base Xt (fun k => Xc k ∨ (w.heap.size ≤ k ∧ k < w1.heap.size)) (w2.setCell ⟨x, 6, none⟩ (.slice P' (n + 1) pc')) ∧ Turns (EnX x P pc Xt Xc) (EnX x P' pc' Xt (fun k => Xc k ∨ (w.heap.size ≤ k ∧ k < w1.heap.size))) w (w2.setCell ⟨x, 6, none⟩ (.slice P' (n + 1) pc')) := by
  have hx := lt_row h.row
  have hU := U.size
  have hP' : ∀ k, RowB P' pc' k → k < w.heap.size → RowB P pc k := fun k hk hlt => (hP k hk).elim id (fun e => by omega)
  have hnx : ¬ RowB P' pc' x := fun e => h.nrx (hP' x e hx)
  have O1 : Off (RowB P pc) w w2 := (Off.of_below U).trans O
  have O3 : Off (· = x) w2 (w2.setCell ⟨x, 6, none⟩ (.slice P' (n + 1) pc')) := (Off.refl (· = x) w2).setCell (p := ⟨x, 6, none⟩) (.inl rfl) _
  have hx2 : w2.heap[x]? = _ := (O1.block x hx h.nrx).trans h.row
  have hx3 := heap_setCell_same w2 x 6 _ _ (.slice P' (n + 1) pc') hx2
  have hXcx : ∀ k, (Xc k ∨ (w.heap.size ≤ k ∧ k < w1.heap.size)) → k ≠ x := fun k hk e => by
    subst e
    rcases hk with hk | hk
    · exact h.nxc hk
    · omega
  have hXcr : ∀ k, (Xc k ∨ (w.heap.size ≤ k ∧ k < w1.heap.size)) → ¬ RowB P pc k := fun k hk e => by
    rcases hk with hk | hk
    · exact h.nrc k e hk
    · have := h.lst.blt k e; omega
  have hln : s.ls.length = s.base + n := h.cnt.symm
  refine ⟨⟨by simpa [ecells, puAdd] using hx3, ?_, hR.off O3 (fun k hk e => hnx (e ▸ hk)), by simp [puAdd, hln]; omega, fun j hj => ?_, fun k hk => ?_, h.nxt, fun e => hXcx x e rfl, fun k hk ht => ?_, hnx, fun k hk ht => ?_, fun k hk hc => ?_⟩, ⟨?_, fun k hk => ?_⟩⟩
  · exact (C.holds _ _ _).off ((C.holds _ _ _).off h.tm O1 (fun k hk e => h.nrt k e hk)) O3 (fun k hk e => h.nxt (e ▸ hk))
  · simp at hj
    have hvl := h.lst.1
    by_cases hjn : j < vs.length
    · rw [List.getElem_append_left hjn]
      have h1 := (((h.clo j hjn).off (Off.of_below (X := fun _ => False) U) (fun _ _ h => h)).off O (fun k hk e => h.nrc k e hk)).off O3 (fun k hk e => h.nxc (e ▸ hk))
      have e2 : (puAdd s m).ls.getD (s.base + j) [] = s.ls.getD (s.base + j) [] := by
        unfold puAdd
        simp only [List.getD_eq_getElem?_getD]
        rw [List.getElem?_append_left (by omega)]
      rw [e2]
      exact h1.imp (fun k hk => .inl hk)
    · have e : j = vs.length := by omega
      subst e
      have e3 : (vs ++ [f])[vs.length]'(by simp) = f := by simp
      rw [e3]
      have e2 : (puAdd s m).ls.getD (s.base + vs.length) [] = m := by
        unfold puAdd
        rw [hvl, ← hln]
        simp
      rw [e2, hvl, ← hln]
      exact (hc.off O (fun k hk => hXcr k hk)).off O3 (fun k hk => hXcx k hk)
  · have := O.size
    have := O3.size
    rcases hk with hk | hk
    · have := h.xlt k hk; omega
    · omega
  · rcases hk with hk | hk
    · exact h.nct k hk ht
    · have := (C.holds _ _ _).lt h.tm k ht; omega
  · have hlt := (C.holds _ _ _).lt h.tm k ht
    exact h.nrt k (hP' k hk hlt) ht
  · rcases hc with hc | hc
    · exact h.nrc k (hP' k hk (h.xlt k hc)) hc
    · rcases hP k hk with e | e
      · have := h.lst.blt k e; omega
      · omega
  · exact (O1.more (fun k hk => .inr (.inr (.inr hk)))).trans (O3.more (fun k hk => .inl hk))
  · rcases hk with hk | hk | hk | hk
    · exact .inl (.inl hk)
    · exact .inl (.inr (.inl hk))
    · rcases hk with hk | hk
      · exact .inl (.inr (.inr (.inl hk)))
      · exact .inr hk.1
    · rcases hP k hk with e | e
      · exact .inl (.inr (.inr (.inr e)))
      · exact .inr (by omega)
end Go.Proofs.Ytncpabnmdofomaa
