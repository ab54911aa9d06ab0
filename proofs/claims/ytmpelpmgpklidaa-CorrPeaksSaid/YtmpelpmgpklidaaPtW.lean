/- Points in memory, more: a place of the call's own row stored; a whole slice of points appended to it. Nothing of the program's own functions is in here. -/
import Derived.Test.YtmpelpmgpklidaaPtV
namespace Go.Proofs.Ytmpelpmgpklidaa
open Go.RowKit

theorem Cvs.set {vs : List Value} {l : List Pt} (h : Cvs vs l) (j : Nat) {a b : Nat} {p : Pt} (ha : Fl a p.1) (hb : Fl b p.2) : Cvs (vs.set j (.complex .f64 a b)) (l.set j p) := by
  refine ⟨by simpa using h.1, fun i hi hi' => ?_⟩
  by_cases e : j = i
  · subst e
    exact ⟨a, b, by simp, by simpa using ha, by simpa using hb⟩
  · obtain ⟨x, y, h1, h2, h3⟩ := h.2 i (by simpa using hi) (by simpa using hi')
    exact ⟨x, y, by rw [List.getElem_set_ne e]; exact h1, by rw [List.getElem_set_ne e]; exact h2, by rw [List.getElem_set_ne e]; exact h3⟩
theorem Cvs.append {vs us : List Value} {l m : List Pt} (h : Cvs vs l) (k : Cvs us m) : Cvs (vs ++ us) (l ++ m) := by
  have h1 := h.1
  have k1 := k.1
  refine ⟨by simp; omega, fun i hi hi' => ?_⟩
  by_cases e : i < vs.length
  · obtain ⟨x, y, e1, e2, e3⟩ := h.2 i e (by omega)
    exact ⟨x, y, by rw [List.getElem_append_left e]; exact e1, by rw [List.getElem_append_left (by omega)]; exact e2, by rw [List.getElem_append_left (by omega)]; exact e3⟩
  · simp at hi
    obtain ⟨x, y, e1, e2, e3⟩ := k.2 (i - vs.length) (by omega) (by omega)
    refine ⟨x, y, by rw [List.getElem_append_right (by omega)]; exact e1, ?_, ?_⟩
    · rw [List.getElem_append_right (by omega)]; simpa [h1] using e2
    · rw [List.getElem_append_right (by omega)]; simpa [h1] using e3
section
variable {w : World} {B g n c : Nat} {l : List Pt}
theorem OwnC.num {A : Option Addr} (h : OwnC w B (.slice A n c) l) : l.length = n := by
  obtain ⟨vs, h1, h2⟩ := h
  rcases h1.2 with ⟨hv, hn⟩ | ⟨g', cap, cur, hv, hg, hh, hnc, hcm, hcs, ht⟩
  · injection hv with _ h3; omega
  · injection hv with _ h3; omega
theorem OwnC.stored (h : OwnC w B (.slice (some ⟨g, 0, none⟩) n c) l) (j : Nat) {a b : Nat} {p : Pt} (ha : Fl a p.1) (hb : Fl b p.2) :
    OwnC (w.setCell ⟨g, j, none⟩ (.complex .f64 a b)) B (.slice (some ⟨g, 0, none⟩) n c) (l.set j p) ∧ w.grownBy (w.setCell ⟨g, j, none⟩ (.complex .f64 a b)) (some g) := by
  have hn := h.num
  obtain ⟨vs, h1, h2⟩ := h
  rw [hn] at h1
  obtain ⟨k1, k2⟩ := h1.stored j (.complex .f64 a b)
  exact ⟨⟨_, by rw [List.length_set, hn]; exact k1, h2.set j ha hb⟩, k2⟩
theorem OwnC.cell (h : OwnC w B (.slice (some ⟨g, 0, none⟩) n c) l) (j : Nat) (hj : j < l.length) : ∃ x y, w.cell? ⟨g, j, none⟩ = some (.complex .f64 x y) ∧ w.frozen? ⟨g, j, none⟩ = false ∧ Fl x l[j].1 ∧ Fl y l[j].2 := by
  have hn := h.num
  obtain ⟨vs, h1, h2⟩ := h
  rw [hn] at h1
  have h3 := h2.1
  obtain ⟨x, y, e1, e2, e3⟩ := h2.2 j (by omega) hj
  refine ⟨x, y, ?_, h1.frozenAt j, e2, e3⟩
  rw [h1.cellAt j (by omega), List.getElem?_eq_getElem (by omega), e1]
theorem OwnC.form {v : Value} (h : OwnC w B v l) (hl : 0 < l.length) : ∃ g c, v = .slice (some ⟨g, 0, none⟩) l.length c ∧ B ≤ g ∧ g < w.heap.size ∧ l.length ≤ c ∧ c ≤ 9223372036854775807 := by
  have hlt := h.lt
  obtain ⟨vs, h1, h2⟩ := h
  rcases h1.2 with ⟨hv, hn⟩ | ⟨g', cap, cur, hv, hg, hh, hnc, hcm, hcs, ht⟩
  · omega
  · exact ⟨g', cap, hv, hg, lt_of_block hh, hnc, hcm⟩
end
theorem OwnC.empty (w : World) : OwnC (w.alloc (.cells #[] 25)) w.heap.size (.slice (some ⟨w.heap.size, 0, none⟩) 0 0) [] :=
  ⟨[], World.ownsRow_made w #[] 0 (Nat.le_refl _) (Nat.zero_le _) rfl, Cvs.nil⟩
theorem run_append_cxs (w : World) (B : Nat) (v : Value) (l : List Pt) (hown : OwnC w B v l) (A : Option Addr) (m c : Nat) (r : List Pt) (hR : Cs w A m c r) (hlen : l.length + m ≤ 1099511627776) (hbase : B ≤ w.heap.size) (ty : TypeId) :
    ∃ v' w', (Builtin.append_ #[27, 27] ty #[v, .slice A m c]).run Try.prog w = .ok v' w' ∧ OwnC w' B v' (l ++ r) ∧ w.grownBy w' v.ownBlock ∧ (v'.ownBlock = v.ownBlock ∨ v'.ownBlock = some w.heap.size) := by
  obtain ⟨i0, hi, hz0, hz1, hz2⟩ := info_parts Try.infoC
  have hl := hR.len
  rcases Nat.eq_zero_or_pos m with h0 | h0
  · subst h0
    have : r = [] := List.eq_nil_of_length_eq_zero hl
    subst this
    rcases A with _ | ad
    · refine ⟨v, w, ?_, by simpa using hown, World.grownBy.refl w _, .inl rfl⟩
      obtain ⟨vs, hown, hvs⟩ := hown
      rcases hown.2 with ⟨rfl, hn⟩ | ⟨g, cap, cur, rfl, _, _, hnc, _⟩
      · simp [Builtin.append_, run_underlying Try.underlying27, sizeOf, typeInfo, hi, Builtin.lenOf, Builtin.firstCells]
      · simp [Builtin.append_, run_underlying Try.underlying27, sizeOf, typeInfo, hi, Builtin.lenOf, Builtin.firstCells, hnc, storeCells]
    · obtain ⟨vs, hown, hvs⟩ := hown
      obtain ⟨v', w', hrun, h2, h3, _, h5⟩ := run_append_own_at (P := Try.prog) w B 27 ty 25 i0 (.complex .f64 0 0) 1 16 Try.underlying27 hi hz0 hz1 hz2 rfl (by decide) v l.length vs hown ad 0 c [] rfl (by simp) (by simp) (by unfold maxLen; omega) (by omega) hbase
      exact ⟨v', w', hrun, ⟨vs, by simpa using h2, by simpa using hvs⟩, h3, h5⟩
  · obtain ⟨b, o, us, rfl, hb, hus, hc⟩ := hR.2.2.2 h0
    obtain ⟨vs, hown, hvs⟩ := hown
    have hul := hus.1
    have hcells : ∀ j u, us[j]? = some u → w.cell? ((⟨b, o, none⟩ : Addr).add j) = some u := by
      intro j u hu
      obtain ⟨hj, hu⟩ := List.getElem?_eq_some_iff.1 hu
      have := hc j hj
      rw [hu] at this
      rcases Nat.eq_zero_or_pos j with h | h
      · subst h; simpa [Addr.add] using this
      · rw [Addr.add, if_neg (by simpa using Nat.pos_iff_ne_zero.1 h)]
        simpa using this
    obtain ⟨v', w', hrun, h2, h3, _, h5⟩ := run_append_own_at (P := Try.prog) w B 27 ty 25 i0 (.complex .f64 0 0) 1 16 Try.underlying27 hi hz0 hz1 hz2 rfl (by decide) v l.length vs hown _ m c us (by omega) hcells hus.one (by unfold maxLen; omega) (by omega) hbase
    refine ⟨v', w', hrun, ⟨vs ++ us, ?_, hvs.append hus⟩, h3, h5⟩
    rw [List.length_append, hl]
    exact h2
/-- 'append(s, x...)', s the call's own, x whatever points -/
theorem app_cxs {ops : Array Oper} {rest : List Oper} {o : Oper} {a : Act} {Q : Exit → Act → World → Prop} (w : World) (hgd : o.guard = none) (s x : Operand)
    (ho : o.op = .call { callee := .builtin .append, args := #[s, x], argTypes := #[27, 27] })
    (B : Nat) (v : Value) (l : List Pt) (hs : a.eval s = v) (hown : OwnC w B v l) (A : Option Addr) (m c : Nat) (r : List Pt) (hx : a.eval x = .slice A m c) (hR : Cs w A m c r) (hlen : l.length + m ≤ 1099511627776) (hbase : B ≤ w.heap.size)
    (h : ∀ v' w', OwnC w' B v' (l ++ r) → w.grownBy w' v.ownBlock → (v'.ownBlock = v.ownBlock ∨ v'.ownBlock = some w.heap.size) → wpList Try.prog ops Q rest (a.put o.dst v') w') : wpList Try.prog ops Q (o :: rest) a w := by
  refine wpList_plain hgd fun K hK => ?_
  obtain ⟨v', w', hrun, h2, h3, h4⟩ := run_append_cxs w B v l hown A m c r hR hlen hbase o.type
  unfold Oper.wp execOp
  simp only [ho, resolve, invoke, builtin, Sem.run_bind, Sem.run_pure, Result.andThen_ok, List.map_toArray, List.map_cons, List.map_nil, hs, hx, hrun]
  exact hK _ _ (h v' w' h2 h3 h4)
end Go.Proofs.Ytmpelpmgpklidaa
