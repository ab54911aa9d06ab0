/- Points in memory: slices of pairs of numbers, slices of complex numbers whose parts are small whole numbers; the call's own rows of them; append of one. Nothing of the program's own functions is in here. -/
import Derived.Test.YtkcpkfimmolkkaaDoorFresh
import Derived.Test.YtkcpkfimmolkkaaDoorFacts
import Derived.Test.YtkcpkfimmolkkaaDoorFl
namespace Go.Proofs.YtkcpkfimmolkkaaDoor
open Go.RowKit
set_option maxRecDepth 20000

/-- The slice '.slice A n c' reads as the points l (two cells each). -/
def Ps (w : World) (A : Option Addr) (n c : Nat) (l : List Pt) : Prop :=
  l.length = n ∧ n ≤ c ∧ c ≤ maxLen ∧ (0 < n → ∃ b o, A = some ⟨b, o, none⟩ ∧ b < w.heap.size ∧ ∀ j (h : j < l.length), w.cell? ⟨b, o + j * 2, none⟩ = some (.int .i64 l[j].1) ∧ w.cell? ⟨b, o + j * 2 + 1, none⟩ = some (.int .i64 l[j].2))
section
variable {w w' : World} {A : Option Addr} {n c : Nat} {l : List Pt}
theorem Ps.len (h : Ps w A n c l) : l.length = n := h.1
theorem Ps.le (h : Ps w A n c l) : n ≤ c := h.2.1
theorem Ps.cap (h : Ps w A n c l) : c ≤ 9223372036854775807 := h.2.2.1
theorem Ps.at_ (h : Ps w A n c l) (hn : 0 < n) : ∃ b o, A = some ⟨b, o, none⟩ ∧ b < w.heap.size ∧ ∀ j (h : j < l.length), w.cell? ⟨b, o + j * 2, none⟩ = some (.int .i64 l[j].1) ∧ w.cell? ⟨b, o + j * 2 + 1, none⟩ = some (.int .i64 l[j].2) := h.2.2.2 hn
theorem Ps.below (h : Ps w A n c l) (hb : Below w.heap.size w w') : Ps w' A n c l :=
  ⟨h.1, h.2.1, h.2.2.1, fun hn => by
    obtain ⟨b, o, e, hlt, hc⟩ := h.2.2.2 hn
    refine ⟨b, o, e, by have := hb.size; omega, fun j hj => ?_⟩
    obtain ⟨h1, h2⟩ := hc j hj
    exact ⟨(hb.cell (p := ⟨b, o + j * 2, none⟩) hlt).trans h1, (hb.cell (p := ⟨b, o + j * 2 + 1, none⟩) hlt).trans h2⟩⟩
theorem Ps.nil (w : World) : Ps w none 0 0 [] := ⟨rfl, Nat.le_refl _, Nat.zero_le _, fun h => absurd h (by omega)⟩
end
def ptCells (l : List Pt) : List Value := l.flatMap fun p => [.int .i64 p.1, .int .i64 p.2]
theorem ptCells_len (l : List Pt) : (ptCells l).length = l.length * 2 := by
  induction l with
  | nil => rfl
  | cons e r ih => simp only [ptCells, List.flatMap_cons, List.length_append, List.length_cons, List.length_nil] at ih ⊢; omega
theorem ptCells_append (l m : List Pt) : ptCells (l ++ m) = ptCells l ++ ptCells m := by simp [ptCells]
theorem ptCells_at (l : List Pt) : ∀ j (h : j < l.length), (ptCells l)[j * 2]? = some (.int .i64 l[j].1) ∧ (ptCells l)[j * 2 + 1]? = some (.int .i64 l[j].2) := by
  induction l with
  | nil => intro j h; cases h
  | cons e r ih =>
    intro j h
    match j, h with
    | 0, _ => simp [ptCells]
    | j + 1, h =>
      have := ih j (by simpa using h)
      have e1 : ptCells (e :: r) = .int .i64 e.1 :: .int .i64 e.2 :: ptCells r := rfl
      rw [e1, show (j + 1) * 2 = j * 2 + 2 by omega, show j * 2 + 2 + 1 = (j * 2 + 1) + 2 by omega]
      simpa using this
/-- a literal of points, as it lies in its new block -/
theorem Ps.lit (w : World) (l : List Pt) (t : TypeId) (hl : l.length ≤ 9223372036854775807) : Ps (w.alloc (.cells (ptCells l).toArray t)) (some ⟨w.heap.size, 0, none⟩) l.length l.length l := by
  refine ⟨rfl, Nat.le_refl _, by unfold maxLen; omega, fun _ => ⟨w.heap.size, 0, rfl, by simp, fun j hj => ?_⟩⟩
  have hh := heap_alloc_new w (.cells (ptCells l).toArray t)
  obtain ⟨h1, h2⟩ := ptCells_at l j hj
  rw [cell_of_row _ _ _ _ _ _ hh, cell_of_row _ _ _ _ _ _ hh, List.getElem?_toArray, List.getElem?_toArray, Nat.zero_add]
  exact ⟨h1, h2⟩
/-- the call's own row of points -/
def OwnP (w : World) (B : Nat) (v : Value) (l : List Pt) : Prop := w.ownsRow B 37 2 v l.length (ptCells l)
theorem OwnP.nil (w : World) (B : Nat) : OwnP w B (.slice none 0 0) [] := ⟨rfl, .inl ⟨rfl, rfl⟩⟩
theorem OwnP.below {w w' : World} {B : Nat} {v : Value} {l : List Pt} (h : OwnP w B v l) (o : Below w.heap.size w w') : OwnP w' B v l := own_below h o
theorem OwnP.lit (w : World) (B : Nat) (l : List Pt) (hB : B ≤ w.heap.size) (hl : l.length ≤ 9223372036854775807) : OwnP (w.alloc (.cells (ptCells l).toArray 37)) B (.slice (some ⟨w.heap.size, 0, none⟩) l.length l.length) l := by
  refine ⟨ptCells_len l, .inr ⟨w.heap.size, l.length, (ptCells l).toArray, rfl, hB, heap_alloc_new w _, Nat.le_refl _, by unfold maxLen; omega, by simpa using ptCells_len l, ?_⟩⟩
  rw [← ptCells_len l]
  simp
theorem OwnP.shape {w : World} {B : Nat} {v : Value} {l : List Pt} (h : OwnP w B v l) : ∃ A c, v = .slice A l.length c ∧ Ps w A l.length c l := by
  rcases h.2 with ⟨hv, hn⟩ | ⟨g, cap, cur, hv, hg, hh, hnc, hcm, hcs, ht⟩
  · have : l = [] := List.eq_nil_of_length_eq_zero hn
    subst this
    exact ⟨none, 0, hv, Ps.nil w⟩
  · subst hv
    refine ⟨_, _, rfl, rfl, hnc, hcm, fun hn => ⟨g, 0, rfl, lt_of_block hh, fun j hj => ?_⟩⟩
    obtain ⟨h1, h2⟩ := ptCells_at l j hj
    rw [cell_of_row _ _ _ _ _ _ hh, cell_of_row _ _ _ _ _ _ hh, Nat.zero_add]
    rw [← ht, List.getElem?_take, if_pos (by omega)] at h1 h2
    exact ⟨by simpa using h1, by simpa using h2⟩
theorem Tryd.infoP : (Tryd.prog.info? 37).map (fun i => (i.zero, i.size, i.bytes)) = some (some (.agg #[.int .i64 0, .int .i64 0]), 2, 16) := by kernel_rfl
theorem run_append_pt (w : World) (B : Nat) (v : Value) (l : List Pt) (hown : OwnP w B v l) (g : Nat) (p : Pt) (hg : w.heap[g]? = some (.cells #[.int .i64 p.1, .int .i64 p.2] 37 (0, 0))) (hlen : l.length + 1 ≤ 1099511627776) (hbase : B ≤ w.heap.size) (ty : TypeId) :
    ∃ v' w', (Builtin.append_ #[28, 28] ty #[v, .slice (some ⟨g, 0, none⟩) 1 1]).run Tryd.prog w = .ok v' w' ∧ OwnP w' B v' (l ++ [p]) ∧ w.grownBy w' v.ownBlock ∧ (v'.ownBlock = v.ownBlock ∨ v'.ownBlock = some w.heap.size) := by
  obtain ⟨i0, hi, hz0, hz1, hz2⟩ := info_parts Tryd.infoP
  have hcells : ∀ j u, ([.int .i64 p.1, .int .i64 p.2] : List Value)[j]? = some u → w.cell? ((⟨g, 0, none⟩ : Addr).add j) = some u := by
    intro j u hu
    have e : (⟨g, 0, none⟩ : Addr).add j = ⟨g, j, none⟩ := by unfold Addr.add; split <;> simp_all
    rw [e, cell_of_row _ _ _ _ _ _ hg]
    simpa using hu
  obtain ⟨v', w', hrun, h2, h3, _, h5⟩ := run_append_own_at (P := Tryd.prog) w B 28 ty 37 i0 (.agg #[.int .i64 0, .int .i64 0]) 2 16 Tryd.underlying28 hi hz0 hz1 hz2 rfl (by decide) v l.length (ptCells l) hown _ 1 1 [.int .i64 p.1, .int .i64 p.2] rfl hcells (by intro u hu; simp at hu; rcases hu with rfl | rfl <;> rfl) (by unfold maxLen; omega) (by omega) hbase
  refine ⟨v', w', hrun, ?_, h3, h5⟩
  unfold OwnP
  rw [ptCells_append, List.length_append]
  exact h2
/-- 'append(s, p)', s the call's own -/
theorem app_pt {ops : Array Oper} {rest : List Oper} {o : Oper} {a : Act} {Q : Exit → Act → World → Prop} (w : World) (hgd : o.guard = none) (s x : Operand)
    (ho : o.op = .call { callee := .builtin .append, args := #[s, x], argTypes := #[28, 28] })
    (B : Nat) (v : Value) (l : List Pt) (hs : a.eval s = v) (hown : OwnP w B v l) (g : Nat) (p : Pt) (hx : a.eval x = .slice (some ⟨g, 0, none⟩) 1 1) (hg : w.heap[g]? = some (.cells #[.int .i64 p.1, .int .i64 p.2] 37 (0, 0))) (hlen : l.length + 1 ≤ 1099511627776) (hbase : B ≤ w.heap.size)
    (h : ∀ v' w', OwnP w' B v' (l ++ [p]) → w.grownBy w' v.ownBlock → (v'.ownBlock = v.ownBlock ∨ v'.ownBlock = some w.heap.size) → wpList Tryd.prog ops Q rest (a.put o.dst v') w') : wpList Tryd.prog ops Q (o :: rest) a w := by
  refine wpList_plain hgd fun K hK => ?_
  obtain ⟨v', w', hrun, h2, h3, h4⟩ := run_append_pt w B v l hown g p hg hlen hbase o.type
  unfold Oper.wp execOp
  simp only [ho, resolve, invoke, builtin, Sem.run_bind, Sem.run_pure, Result.andThen_ok, List.map_toArray, List.map_cons, List.map_nil, hs, hx, hrun]
  exact hK _ _ (h v' w' h2 h3 h4)

/-- The values vs are complex numbers whose parts are those of l. -/
def Cvs (vs : List Value) (l : List Pt) : Prop := vs.length = l.length ∧ ∀ j (h : j < vs.length) (h' : j < l.length), ∃ a b, vs[j] = .complex .f64 a b ∧ Fl a l[j].1 ∧ Fl b l[j].2
theorem Cvs.nil : Cvs [] [] := ⟨rfl, fun j h => by cases h⟩
theorem Cvs.snoc {vs : List Value} {l : List Pt} (h : Cvs vs l) {a b : Nat} {p : Pt} (ha : Fl a p.1) (hb : Fl b p.2) : Cvs (vs ++ [.complex .f64 a b]) (l ++ [p]) := by
  have h1 := h.1
  refine ⟨by simp; omega, fun j hj hj' => ?_⟩
  by_cases hlt : j < vs.length
  · rw [List.getElem_append_left hlt, List.getElem_append_left (by omega)]
    exact h.2 j hlt (by omega)
  · simp at hj
    obtain rfl : j = vs.length := by omega
    refine ⟨a, b, by simp, ?_, ?_⟩
    · rw [List.getElem_append_right (by omega)]
      simpa [h1] using ha
    · rw [List.getElem_append_right (by omega)]
      simpa [h1] using hb
theorem Cvs.one {vs : List Value} {l : List Pt} (h : Cvs vs l) : ∀ u ∈ vs, u.oneCell' = true := by
  intro u hu
  obtain ⟨j, hj, rfl⟩ := List.mem_iff_getElem.1 hu
  obtain ⟨a, b, h1, _⟩ := h.2 j hj (by have := h.1; omega)
  rw [h1]
  rfl
/-- The slice '.slice A n c' reads as the complex numbers l. -/
def Cs (w : World) (A : Option Addr) (n c : Nat) (l : List Pt) : Prop :=
  l.length = n ∧ n ≤ c ∧ c ≤ maxLen ∧ (0 < n → ∃ b o vs, A = some ⟨b, o, none⟩ ∧ b < w.heap.size ∧ Cvs vs l ∧ ∀ j (h : j < vs.length), w.cell? ⟨b, o + j, none⟩ = some vs[j])
section
variable {w w' : World} {A : Option Addr} {n c : Nat} {l : List Pt}
theorem Cs.len (h : Cs w A n c l) : l.length = n := h.1
theorem Cs.le (h : Cs w A n c l) : n ≤ c := h.2.1
theorem Cs.cap (h : Cs w A n c l) : c ≤ 9223372036854775807 := h.2.2.1
theorem Cs.at_ (h : Cs w A n c l) (k : Nat) (hk : k < n) : ∃ b o x y, A = some ⟨b, o, none⟩ ∧ b < w.heap.size ∧ ∃ hk' : k < l.length, w.cell? ⟨b, o + k, none⟩ = some (.complex .f64 x y) ∧ Fl x l[k].1 ∧ Fl y l[k].2 := by
  obtain ⟨b, o, vs, e, hb, hv, hc⟩ := h.2.2.2 (by omega)
  have h1 := h.1
  have h2 := hv.1
  obtain ⟨x, y, h3, h4, h5⟩ := hv.2 k (by omega) (by omega)
  exact ⟨b, o, x, y, e, hb, by omega, by rw [hc k (by omega), h3], h4, h5⟩
theorem Cs.below (h : Cs w A n c l) (hb : Below w.heap.size w w') : Cs w' A n c l :=
  ⟨h.1, h.2.1, h.2.2.1, fun hn => by
    obtain ⟨b, o, vs, e, hlt, hv, hc⟩ := h.2.2.2 hn
    exact ⟨b, o, vs, e, by have := hb.size; omega, hv, fun j hj => (hb.cell (p := ⟨b, o + j, none⟩) hlt).trans (hc j hj)⟩⟩
theorem Cs.nil (w : World) : Cs w none 0 0 [] := ⟨rfl, Nat.le_refl _, Nat.zero_le _, fun h => absurd h (by omega)⟩
end
/-- the call's own row of complex numbers -/
def OwnC (w : World) (B : Nat) (v : Value) (l : List Pt) : Prop := ∃ vs, w.ownsRow B 54 1 v l.length vs ∧ Cvs vs l
theorem OwnC.nil (w : World) (B : Nat) : OwnC w B (.slice none 0 0) [] := ⟨[], ⟨rfl, .inl ⟨rfl, rfl⟩⟩, Cvs.nil⟩
theorem OwnC.below {w w' : World} {B : Nat} {v : Value} {l : List Pt} (h : OwnC w B v l) (o : Below w.heap.size w w') : OwnC w' B v l := by
  obtain ⟨vs, h1, h2⟩ := h
  exact ⟨vs, own_below h1 o, h2⟩
theorem OwnC.lt {w : World} {B : Nat} {v : Value} {l : List Pt} (h : OwnC w B v l) (k : Nat) (hk : v.ownBlock = some k) : B ≤ k ∧ k < w.heap.size := by
  obtain ⟨vs, h1, _⟩ := h
  exact h1.lt k hk
theorem OwnC.shape {w : World} {B : Nat} {v : Value} {l : List Pt} (h : OwnC w B v l) : ∃ A c, v = .slice A l.length c ∧ Cs w A l.length c l := by
  obtain ⟨vs, h1, h2⟩ := h
  rcases h1.2 with ⟨hv, hn⟩ | ⟨g, cap, cur, hv, hg, hh, hnc, hcm, hcs, ht⟩
  · have : l = [] := List.eq_nil_of_length_eq_zero hn
    subst this
    exact ⟨none, 0, hv, Cs.nil w⟩
  · subst hv
    refine ⟨_, _, rfl, rfl, hnc, hcm, fun hn => ⟨g, 0, vs, rfl, lt_of_block hh, h2, fun j hj => ?_⟩⟩
    rw [Nat.zero_add, h1.cellAt j (by have := h2.1; omega), List.getElem?_eq_getElem hj]
theorem OwnC.one (w : World) (B : Nat) (a b : Nat) (p : Pt) (ha : Fl a p.1) (hb : Fl b p.2) (hB : B ≤ w.heap.size) : OwnC (w.alloc (.cells #[.complex .f64 a b] 54)) B (.slice (some ⟨w.heap.size, 0, none⟩) 1 1) [p] :=
  ⟨[.complex .f64 a b], ⟨rfl, .inr ⟨w.heap.size, 1, #[.complex .f64 a b], rfl, hB, heap_alloc_new w _, Nat.le_refl _, by unfold maxLen; omega, rfl, rfl⟩⟩, Cvs.snoc Cvs.nil ha hb⟩
theorem Tryd.infoC : (Tryd.prog.info? 54).map (fun i => (i.zero, i.size, i.bytes)) = some (some (.complex .f64 0 0), 1, 16) := by kernel_rfl
theorem run_append_cx (w : World) (B : Nat) (v : Value) (l : List Pt) (hown : OwnC w B v l) (g a b : Nat) (p : Pt) (hg : w.heap[g]? = some (.cells #[.complex .f64 a b] 54 (0, 0))) (ha : Fl a p.1) (hb : Fl b p.2) (hlen : l.length + 1 ≤ 1099511627776) (hbase : B ≤ w.heap.size) (ty : TypeId) :
    ∃ v' w', (Builtin.append_ #[24, 24] ty #[v, .slice (some ⟨g, 0, none⟩) 1 1]).run Tryd.prog w = .ok v' w' ∧ OwnC w' B v' (l ++ [p]) ∧ w.grownBy w' v.ownBlock ∧ (v'.ownBlock = v.ownBlock ∨ v'.ownBlock = some w.heap.size) := by
  obtain ⟨i0, hi, hz0, hz1, hz2⟩ := info_parts Tryd.infoC
  obtain ⟨vs, hown, hvs⟩ := hown
  have hcells : ∀ j u, ([.complex .f64 a b] : List Value)[j]? = some u → w.cell? ((⟨g, 0, none⟩ : Addr).add j) = some u := by
    intro j u hu
    have e : (⟨g, 0, none⟩ : Addr).add j = ⟨g, j, none⟩ := by unfold Addr.add; split <;> simp_all
    rw [e, cell_of_row _ _ _ _ _ _ hg]
    simpa using hu
  obtain ⟨v', w', hrun, h2, h3, _, h5⟩ := run_append_own_at (P := Tryd.prog) w B 24 ty 54 i0 (.complex .f64 0 0) 1 16 Tryd.underlying24 hi hz0 hz1 hz2 rfl (by decide) v l.length vs hown _ 1 1 [.complex .f64 a b] rfl hcells (by intro u hu; simp at hu; subst hu; rfl) (by unfold maxLen; omega) (by omega) hbase
  refine ⟨v', w', hrun, ⟨vs ++ [.complex .f64 a b], ?_, hvs.snoc ha hb⟩, h3, h5⟩
  rw [List.length_append]
  exact h2
/-- 'append(s, z)', s the call's own -/
theorem app_cx {ops : Array Oper} {rest : List Oper} {o : Oper} {a : Act} {Q : Exit → Act → World → Prop} (w : World) (hgd : o.guard = none) (s x : Operand)
    (ho : o.op = .call { callee := .builtin .append, args := #[s, x], argTypes := #[24, 24] })
    (B : Nat) (v : Value) (l : List Pt) (hs : a.eval s = v) (hown : OwnC w B v l) (g c d : Nat) (p : Pt) (hx : a.eval x = .slice (some ⟨g, 0, none⟩) 1 1) (hg : w.heap[g]? = some (.cells #[.complex .f64 c d] 54 (0, 0))) (hc : Fl c p.1) (hd : Fl d p.2) (hlen : l.length + 1 ≤ 1099511627776) (hbase : B ≤ w.heap.size)
    (h : ∀ v' w', OwnC w' B v' (l ++ [p]) → w.grownBy w' v.ownBlock → (v'.ownBlock = v.ownBlock ∨ v'.ownBlock = some w.heap.size) → wpList Tryd.prog ops Q rest (a.put o.dst v') w') : wpList Tryd.prog ops Q (o :: rest) a w := by
  refine wpList_plain hgd fun K hK => ?_
  obtain ⟨v', w', hrun, h2, h3, h4⟩ := run_append_cx w B v l hown g c d p hg hc hd hlen hbase o.type
  unfold Oper.wp execOp
  simp only [ho, resolve, invoke, builtin, Sem.run_bind, Sem.run_pure, Result.andThen_ok, List.map_toArray, List.map_cons, List.map_nil, hs, hx, hrun]
  exact hK _ _ (h v' w' h2 h3 h4)
/-- A call's end that makes a row of complex numbers of its own; of points. -/
def GivesC (w : World) (l : List Pt) (e : Ending) (w' : World) : Prop := ∃ v, e = .returned v ∧ OwnC w' w.heap.size v l ∧ Below w.heap.size w w'
def GivesP (w : World) (l : List Pt) (e : Ending) (w' : World) : Prop := ∃ v, e = .returned v ∧ OwnP w' w.heap.size v l ∧ Below w.heap.size w w'
end Go.Proofs.YtkcpkfimmolkkaaDoor
