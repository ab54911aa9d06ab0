/- Package tally, as landed: its rows in memory (a number, a text that is a value, a count), the object; a row appended, a count stored; made, New. -/
import Derived.Test.YtpdnpfohcnpenaaTlC
import Derived.Test.YtpdnpfohcnpenaaMapK
namespace Go.Proofs.Ytpdnpfohcnpenaa
open Go.RowKit Go.Maps
set_option maxRecDepth 20000

def tms (l : List Tal) : List Tam := l.map fun t => (t.1, .string ⟨t.2.1.toArray⟩, t.2.2)
theorem tms_len (l : List Tal) : (tms l).length = l.length := by simp [tms]
/-- rows in a block of the tally's own -/
def OwnK (w : World) (v : Value) (l : List Tal) : Prop := w.ownsRow 0 114 3 v l.length (mvs (tms l))
theorem OwnK.nil (w : World) : OwnK w (.slice none 0 0) [] := ⟨rfl, .inl ⟨rfl, rfl⟩⟩
theorem OwnK.lt {w : World} {v : Value} {l : List Tal} (h : OwnK w v l) (k : Nat) (hk : v.ownBlock = some k) : k < w.heap.size := (World.ownsRow.lt h k hk).2
theorem OwnK.off {X : Nat → Prop} {w w' : World} {v : Value} {l : List Tal} (h : OwnK w v l) (o : Off X w w') (hv : ∀ k, v.ownBlock = some k → ¬ X k) : OwnK w' v l := by
  refine ⟨h.1, ?_⟩
  rcases h.2 with h3 | ⟨g, cap, cur, rfl, hg, hh, r⟩
  · exact Or.inl h3
  · refine Or.inr ⟨g, cap, cur, rfl, hg, ?_, r⟩
    rw [o.block g (lt_of_block hh) (hv g rfl)]
    exact hh
theorem OwnK.below {w w' : World} {v : Value} {l : List Tal} (h : OwnK w v l) (T : Below w.heap.size w w') : OwnK w' v l := h.off (X := fun _ => False) (Off.of_below T) (fun _ _ h => h)
theorem OwnK.shape {w : World} {v : Value} {l : List Tal} (h : OwnK w v l) : ∃ P c, v = .slice P l.length c ∧ l.length ≤ c ∧ c ≤ maxLen ∧ (0 < l.length → ∃ b, P = some ⟨b, 0, none⟩ ∧ v.ownBlock = some b ∧ b < w.heap.size ∧ (∀ r, w.frozen? ⟨b, r, none⟩ = false) ∧
      ∀ j (h : j < l.length), w.cell? ⟨b, j * 3, none⟩ = some (.int .i64 l[j].1) ∧ w.cell? ⟨b, j * 3 + 1, none⟩ = some (.string ⟨l[j].2.1.toArray⟩) ∧ w.cell? ⟨b, j * 3 + 2, none⟩ = some (.int .u64 (l[j].2.2 : Int))) := by
  have h1 := h
  unfold OwnK at h1
  rcases h1.2 with ⟨hv, hn⟩ | ⟨g, cap, cur, hv, hg, hh, hnc, hcm, hcs, ht⟩
  · have : l = [] := List.eq_nil_of_length_eq_zero hn
    subst this
    exact ⟨none, 0, hv, Nat.le_refl _, Nat.zero_le _, fun h => absurd h (by simp)⟩
  · subst hv
    refine ⟨_, _, rfl, hnc, hcm, fun _ => ⟨g, rfl, rfl, lt_of_block hh, fun r => World.ownsRow.frozenAt h1 r, fun j hj => ?_⟩⟩
    have hjm : j < (tms l).length := by rw [tms_len]; exact hj
    have c := fun r (hr : r < 3) => (World.ownsRow.cellAt h1 (j * 3 + r) (by omega)).trans (mvs_at (tms l) j r hjm hr)
    have c0 := c 0 (by omega)
    have c1 := c 1 (by omega)
    have c2 := c 2 (by omega)
    exact ⟨by simpa [mld, tms] using c0, by simpa [mld, tms] using c1, by simpa [mld, tms] using c2⟩
/-- a count stored -/
theorem OwnK.counted {w : World} {g n c j : Nat} {l : List Tal} (h : OwnK w (.slice (some ⟨g, 0, none⟩) n c) l) (hn : l.length = n) (hj : j < l.length) (k : Nat) :
    OwnK (w.setCell ⟨g, j * 3 + 2, none⟩ (.int .u64 (k : Int))) (.slice (some ⟨g, 0, none⟩) n c) (l.set j (l[j].1, l[j].2.1, k)) := by
  have h1 : w.ownsRow 0 114 3 (.slice (some ⟨g, 0, none⟩) n c) n (mvs (tms l)) := hn ▸ h
  have h3 := World.ownsRow.stored h1 (j * 3 + 2) (.int .u64 (k : Int))
  have hjm : j < (tms l).length := by rw [tms_len]; exact hj
  rw [mvs_set (tms l) j hjm k] at h3
  have e : (tms l).set j ((tms l)[j].1, (tms l)[j].2.1, k) = tms (l.set j (l[j].1, l[j].2.1, k)) := by
    have e1 : (tms l)[j] = (l[j].1, .string ⟨l[j].2.1.toArray⟩, l[j].2.2) := by simp [tms]
    rw [e1]
    unfold tms
    rw [List.map_set]
  rw [e] at h3
  unfold OwnK
  rw [List.length_set, hn]
  exact h3.1
theorem Try.infoKr : (Try.prog.info? 114).map (fun i => (i.zero, i.size, i.bytes)) = some (some (.agg #[.int .i64 0, .string ByteArray.empty, .int .u64 0]), 3, 32) := by kernel_rfl
theorem run_append_k (w : World) (v : Value) (l : List Tal) (hown : OwnK w v l) (g : Nat) (a : Int) (t : List UInt8) (k : Nat)
    (hg : w.heap[g]? = some (.cells #[.int .i64 a, .string ⟨t.toArray⟩, .int .u64 (k : Int)] 114 (0, 0))) (hlen : l.length + 1 ≤ 1099511627776) (ty : TypeId) :
    ∃ v' w', (Builtin.append_ #[93, 93] ty #[v, .slice (some ⟨g, 0, none⟩) 1 1]).run Try.prog w = .ok v' w' ∧ OwnK w' v' (l ++ [(a, t, k)]) ∧ w.grownBy w' v.ownBlock ∧ (v'.ownBlock = v.ownBlock ∨ v'.ownBlock = some w.heap.size) := by
  obtain ⟨i0, hi, hz0, hz1, hz2⟩ := info_parts Try.infoKr
  have hcells : ∀ j u, (mvs (tms [(a, t, k)]))[j]? = some u → w.cell? ((⟨g, 0, none⟩ : Addr).add j) = some u := by
    intro j u hu
    have e : (⟨g, 0, none⟩ : Addr).add j = ⟨g, j, none⟩ := by unfold Addr.add; split <;> simp_all
    rw [e, cell_of_row _ _ _ _ _ _ hg]
    simpa [mvs, tms] using hu
  obtain ⟨v', w', hrun, h2, h3, _, h5⟩ := run_append_own_at (P := Try.prog) w 0 93 ty 114 i0 (.agg #[.int .i64 0, .string ByteArray.empty, .int .u64 0]) 3 32 Try.underlying93 hi hz0 hz1 hz2 rfl (by decide) v l.length (mvs (tms l)) hown _ 1 1 (mvs (tms [(a, t, k)])) rfl hcells (by intro u hu; simp [mvs, tms] at hu; rcases hu with rfl | rfl | rfl <;> rfl) (by unfold maxLen; omega) (by omega) (Nat.zero_le _)
  refine ⟨v', w', hrun, ?_, h3, h5⟩
  unfold OwnK
  rw [List.length_append, show tms (l ++ [(a, t, k)]) = tms l ++ tms [(a, t, k)] by simp [tms], mvs_append]
  exact h2
theorem step_k {ops : Array Oper} {o : Oper} {ac : Act} {K : Act → World → Prop} {Q : Exit → Act → World → Prop} {E : Prop} (w : World) (hgd : o.guard = none) (s x : Operand)
    (ho : o.op = .call { callee := .builtin .append, args := #[s, x], argTypes := #[93, 93] })
    (v : Value) (l : List Tal) (hs : ac.eval s = v) (hown : OwnK w v l) (g : Nat) (a : Int) (t : List UInt8) (k : Nat) (hx : ac.eval x = .slice (some ⟨g, 0, none⟩) 1 1)
    (hg : w.heap[g]? = some (.cells #[.int .i64 a, .string ⟨t.toArray⟩, .int .u64 (k : Int)] 114 (0, 0))) (hlen : l.length + 1 ≤ 1099511627776)
    (h : ∀ v' w', OwnK w' v' (l ++ [(a, t, k)]) → w.grownBy w' v.ownBlock → (v'.ownBlock = v.ownBlock ∨ v'.ownBlock = some w.heap.size) → K (ac.put o.dst v') w') :
    if Region.wanted o (yielded ops ac.tmps) = true then Oper.wp Try.prog o ac w K Q else E := by
  have hw : Region.wanted o (yielded ops ac.tmps) = true := by simp [Region.wanted, hgd]
  rw [if_pos hw]
  obtain ⟨v', w', hrun, h2, h3, h4⟩ := run_append_k w v l hown g a t k hg hlen o.type
  unfold Oper.wp execOp
  simp only [ho, resolve, invoke, builtin, Sem.run_bind, Sem.run_pure, Result.andThen_ok, List.map_toArray, List.map_cons, List.map_nil, hs, hx, hrun]
  exact h v' w' h2 h3 h4
/-- the place of a key among the rows -/
def alPl (l : List Tal) (a : Int) (d : List UInt8) : Option Nat := if alAt l a d < l.length then some (alAt l a d) else none
theorem alAt_snoc (l : List Tal) (t : Tal) (a : Int) (d : List UInt8) : alAt (l ++ [t]) a d = if alAt l a d < l.length then alAt l a d else if t.1 = a ∧ t.2.1 = d then l.length else l.length + 1 := by
  have hlen : (l ++ [t]).length = l.length + 1 := by simp
  by_cases h : alAt l a d < l.length
  · rw [if_pos h]
    refine alAt_unique _ a d _ (by omega) (fun j hj hj' => ?_) (fun hj' => ?_)
    · rw [List.getElem_append_left (by omega)]
      exact alAt_lt l a d j hj (by omega)
    · rw [List.getElem_append_left h]
      exact alAt_hit l a d h
  · rw [if_neg h]
    have hno : ∀ j (hj : j < l.length), ¬ (l[j].1 = a ∧ l[j].2.1 = d) := fun j hj => alAt_lt l a d j (by omega) hj
    by_cases h2 : t.1 = a ∧ t.2.1 = d
    · rw [if_pos h2]
      refine alAt_unique _ a d _ (by omega) (fun j hj hj' => ?_) (fun hj' => ?_)
      · rw [List.getElem_append_left hj]
        exact hno j hj
      · simpa using h2
    · rw [if_neg h2]
      refine alAt_unique _ a d _ (by omega) (fun j hj hj' => ?_) (fun hj' => absurd hj' (by omega))
      rcases Nat.lt_or_ge j l.length with h3 | h3
      · rw [List.getElem_append_left h3]
        exact hno j h3
      · obtain rfl : j = l.length := by omega
        simpa using h2
theorem alPl_snoc (l : List Tal) (t : Tal) (hn : alPl l t.1 t.2.1 = none) : (fun c u => if c = t.1 ∧ u = t.2.1 then some l.length else alPl l c u) = alPl (l ++ [t]) := by
  funext c u
  unfold alPl at hn ⊢
  have hn2 : ¬ alAt l t.1 t.2.1 < l.length := fun h => by rw [if_pos h] at hn; cases hn
  rw [alAt_snoc]
  by_cases h : c = t.1 ∧ u = t.2.1
  · obtain ⟨rfl, rfl⟩ := h
    rw [if_pos ⟨rfl, rfl⟩, if_neg hn2]
    simp
  · rw [if_neg h]
    by_cases h2 : alAt l c u < l.length
    · rw [if_pos h2, if_pos h2, if_pos (by simp; omega)]
    · have h4 : ¬ (t.1 = c ∧ t.2.1 = u) := fun h3 => h ⟨h3.1.symm, h3.2.symm⟩
      rw [if_neg h2, if_neg h2, if_neg h4]
      simp
theorem alAt_set (l : List Tal) (j : Nat) (hj : j < l.length) (k : Nat) (a : Int) (d : List UInt8) : alAt (l.set j (l[j].1, l[j].2.1, k)) a d = alAt l a d := by
  induction l generalizing j with
  | nil => simp at hj
  | cons t l ih =>
    match j, hj with
    | 0, _ => simp [alAt]
    | j + 1, hj =>
      have := ih j (by simp at hj; omega)
      simp only [List.set_cons_succ, List.getElem_cons_succ, alAt]
      rw [this]
theorem alPl_set (l : List Tal) (j : Nat) (hj : j < l.length) (k : Nat) : alPl (l.set j (l[j].1, l[j].2.1, k)) = alPl l := by
  funext a d
  unfold alPl
  rw [alAt_set l j hj, List.length_set]
/-- a tally of the rows l, at block g; its map at block m, its rows' slice v -/
structure TlI (g m : Nat) (v : Value) (l : List Tal) (w : World) : Prop where
  row : w.heap[g]? = some (.cells #[.map (some m), v] 95 (0, 0))
  ne : m ≠ g
  map : MapK w m l.length (alPl l)
  own : OwnK w v l
  far : ∀ k, v.ownBlock = some k → k ≠ g ∧ k ≠ m
theorem TlI.off {Y : Nat → Prop} {g m : Nat} {v : Value} {l : List Tal} {w w' : World} (h : TlI g m v l w) (o : Off Y w w') (h1 : ¬ Y g) (h2 : ¬ Y m) (h3 : ∀ k, v.ownBlock = some k → ¬ Y k) : TlI g m v l w' :=
  ⟨(o.block g (lt_of_block h.row) h1).trans h.row, h.ne, h.map.off o h2, h.own.off o h3, h.far⟩
theorem TlI.below {g m : Nat} {v : Value} {l : List Tal} {w w' : World} (h : TlI g m v l w) (T : Below w.heap.size w w') : TlI g m v l w' := h.off (Y := fun _ => False) (Off.of_below T) (fun h => h) (fun h => h) (fun _ _ h => h)
theorem TlI.cells {g m : Nat} {v : Value} {l : List Tal} {w : World} (h : TlI g m v l w) : w.cell? ⟨g, 0, none⟩ = some (.map (some m)) ∧ w.cell? ⟨g, 1, none⟩ = some v ∧ w.frozen? ⟨g, 0, none⟩ = false ∧ w.frozen? ⟨g, 1, none⟩ = false ∧ g < w.heap.size :=
  ⟨cell_of_row _ _ _ _ _ _ h.row, cell_of_row _ _ _ _ _ _ h.row, frozen_of_row w _ _ _ _ h.row, frozen_of_row w _ _ _ _ h.row, lt_of_block h.row⟩
def TlP (g : Nat) (l : List Tal) (w : World) (X : Nat → Prop) : Prop := ∃ m v, TlI g m v l w ∧ X g ∧ X m ∧ (∀ k, v.ownBlock = some k → X k) ∧ ∀ k, X k → k < w.heap.size
theorem TlP.holds (g : Nat) (l : List Tal) : Holds (TlP g l) where
  lt := fun h => by obtain ⟨m, v, _, _, _, _, h5⟩ := h; exact h5
  off := fun {w w' X Y} h o hd => by
    obtain ⟨m, v, h1, h2, h3, h4, h5⟩ := h
    exact ⟨m, v, h1.off o (hd g h2) (hd m h3) (fun k hk => hd k (h4 k hk)), h2, h3, h4, fun k hk => Nat.lt_of_lt_of_le (h5 k hk) o.size⟩
/-- behind a call that turned nothing but the tally's blocks -/
theorem TlP.turned {g m' : Nat} {v' : Value} {l' : List Tal} {w w' : World} {X : Nat → Prop} (h2 : X g) (h5 : ∀ k, X k → k < w.heap.size) (hI : TlI g m' v' l' w') (O : Off X w w') (hm : X m' ∨ w.heap.size ≤ m') (hv : ∀ k, v'.ownBlock = some k → X k ∨ w.heap.size ≤ k) :
    ∃ X', TlP g l' w' X' ∧ Turns X X' w w' := by
  have hmw : m' < w'.heap.size := hI.map.lt
  refine ⟨fun k => X k ∨ (w.heap.size ≤ k ∧ k < w'.heap.size), ⟨m', v', hI, .inl h2, hm.imp id (fun h => ⟨h, hmw⟩), fun k hk => (hv k hk).imp id (fun h => ⟨h, hI.own.lt k hk⟩), fun k hk => ?_⟩, O, fun k hk => hk.imp id (fun h => h.1)⟩
  rcases hk with hk | hk
  · exact Nat.lt_of_lt_of_le (h5 k hk) O.size
  · exact hk.2
theorem tlmade_any (g m : Nat) (v : Value) (l : List Tal) (w : World) (h : TlI g m v l w) :
    Calls Try.prog 61 #[.pointer (some ⟨g, 0, none⟩)] w fun e w' => e = .returned (.bool true) ∧ w = w' := by
  obtain ⟨c0, c1, f0, f1, _⟩ := h.cells
  have qT : ∀ (w : World) (r : Option Nat), (binOp .neq 92 (.map r) (.map none)).run Try.prog w = .ok (.bool (!r.isNone)) w := fun w r => run_neq_map_nil w _ _ _ r Try.underlying92
  clear h
  go_enter Try.func61, Try.ntmps61
  go_wp2
  go_ret
  exact ⟨rfl, rfl⟩
theorem tlnmade_any (w : World) :
    Calls Try.prog 61 #[.pointer none] w fun e w' => e = .returned (.bool false) ∧ w = w' := by
  go_enter Try.func61, Try.ntmps61
  go_wp2
  go_ret
  exact ⟨rfl, rfl⟩
theorem tlnew_i (w : World) : TlI (w.heap.size + 1) w.heap.size (.slice none 0 0) [] ((w.alloc (.map #[] 0)).alloc (.cells #[.map (some w.heap.size), .slice none 0 0] 95 (0, 0))) := by
  have hs : (w.alloc (.map #[] 0)).heap.size = w.heap.size + 1 := by simp
  refine ⟨by have := heap_alloc_new (w.alloc (.map #[] 0)) (.cells #[.map (some w.heap.size), .slice none 0 0] 95 (0, 0)); rw [hs] at this; exact this, by omega, ?_, OwnK.nil _, fun k hk => by cases hk⟩
  have h := (MapK.made w).below ((Below.refl _ _).alloc (Nat.le_refl _) (.cells #[.map (some w.heap.size), .slice none 0 0] 95 (0, 0)))
  exact h
set_option maxHeartbeats 1000000 in
theorem tlnew_any (w : World) : Calls Try.prog 25 #[] w fun e w' => e = .returned (.pointer (some ⟨w.heap.size + 1, 0, none⟩)) ∧ TlI (w.heap.size + 1) w.heap.size (.slice none 0 0) [] w' ∧ Below w.heap.size w w' := by
  have HI := Lib.hid (tlnew_i w)
  have HB : Hid (Below w.heap.size w ((w.alloc (.map #[] 0)).alloc (.cells #[.map (some w.heap.size), .slice none 0 0] 95 (0, 0)))) := ((Below.refl _ _).alloc (Nat.le_refl _) _).alloc (by simp) _
  have hmm := @run_makeMap Try.prog
  go_enter Try.func25, Try.ntmps25
  go_wp2
  go_ret
  exact ⟨rfl, HI.out, HB.out⟩
end Go.Proofs.Ytpdnpfohcnpenaa
