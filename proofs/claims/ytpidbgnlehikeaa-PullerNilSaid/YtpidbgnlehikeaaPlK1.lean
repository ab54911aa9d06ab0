/- Package puller, as landed: what is ahead as a map of texts; the object: a block with a pointer to a second one, which holds a queue and that map. -/
import Derived.Test.YtpidbgnlehikeaaPlC
import Derived.Test.YtpidbgnlehikeaaRgK
import Derived.Test.YtpidbgnlehikeaaMapS
import Derived.Test.YtpidbgnlehikeaaSep
import Derived.Deep.QuietTactic
import Derived.BigQuiet
import Derived.Deep.RegionHeld3
namespace Go.Proofs.Ytpidbgnlehikeaa
open Go.RowKit
set_option maxRecDepth 20000

/-- what a place has among those that are ahead -/
def ltGet (l : List Lt) (k : Int) : Option (List UInt8) := match l.find? (fun t => (t.1 : Int) == k) with | some t => some t.2 | none => none
theorem ltGet_nil (k : Int) : ltGet [] k = none := rfl
theorem ltGet_cons (t : Lt) (l : List Lt) (k : Int) : ltGet (t :: l) k = if (t.1 : Int) = k then some t.2 else ltGet l k := by
  unfold ltGet
  by_cases h : (t.1 : Int) = k
  · simp [h]
  · simp [h]
theorem ltGet_append (l m : List Lt) (k : Int) : ltGet (l ++ m) k = (ltGet l k).or (ltGet m k) := by
  induction l with
  | nil => simp [ltGet_nil]
  | cons t l ih =>
    rw [List.cons_append, ltGet_cons, ltGet_cons, ih]
    by_cases h : (t.1 : Int) = k <;> simp [h]
theorem ltGet_none {l : List Lt} {k : Int} (h : ∀ t ∈ l, (t.1 : Int) ≠ k) : ltGet l k = none := by
  induction l with
  | nil => rfl
  | cons t l ih =>
    rw [ltGet_cons, if_neg (h t (by simp)), ih (fun u hu => h u (by simp [hu]))]
theorem ltGet_some {l : List Lt} {k : Int} : (ltGet l k).isSome = true ↔ k ∈ l.map (fun t => (t.1 : Int)) := by
  induction l with
  | nil => simp [ltGet_nil]
  | cons t l ih =>
    rw [ltGet_cons]
    by_cases h : (t.1 : Int) = k
    · simp [h]
    · rw [if_neg h, ih, List.map_cons, List.mem_cons]
      constructor
      · exact fun h => .inr h
      · rintro (h1 | h1)
        · exact absurd h1.symm h
        · exact h1
theorem ltKeysZ {l : List Lt} (h : (ltKeys l).Pairwise (· < ·)) : (l.map (fun t => (t.1 : Int))).Pairwise (· < ·) := by
  have e : l.map (fun t => (t.1 : Int)) = (ltKeys l).map (fun k : Nat => (k : Int)) := by simp [ltKeys]
  rw [e]
  exact List.pairwise_map.2 (h.imp (fun h => by omega))
theorem lt_mem {l : List Lt} (h : (ltKeys l).Pairwise (· < ·)) (p : Nat) : ltHas l p = true ↔ p ∈ ltKeys l := by
  constructor
  · intro h1
    have h0 := ltHas_lt l p h1
    have h2 := ltHas_eq l p h0
    rw [h1] at h2
    have h3 : l[ltAt l p].1 = p := by simpa using h2.symm
    exact List.mem_map.2 ⟨l[ltAt l p], List.getElem_mem h0, h3⟩
  · intro h1
    obtain ⟨t, ht, rfl⟩ := List.mem_map.1 h1
    obtain ⟨i, hi, rfl⟩ := List.mem_iff_getElem.1 ht
    have hlt : ∀ j (hj : j < i) (hjl : j < l.length), l[j].1 < l[i].1 := fun j hj hjl => by
      have := (List.pairwise_iff_getElem.1 h) j i (by simpa [ltKeys] using hjl) (by simpa [ltKeys] using hi) hj
      simpa [ltKeys] using this
    have e : ltAt l l[i].1 = i := ltAt_unique l _ i (by omega) (fun j hj hjl => hlt j hj hjl) (fun _ => Nat.le_refl _)
    have h5 := ltHas_eq l l[i].1 (by rw [e]; exact hi)
    rw [h5]
    simp [e]
theorem ltHas_get {l : List Lt} (h : (ltKeys l).Pairwise (· < ·)) (p : Nat) : (ltGet l (p : Int)).isSome = ltHas l p := by
  rw [Bool.eq_iff_iff, ltGet_some, lt_mem h]
  simp only [ltKeys, List.mem_map]
  exact ⟨fun ⟨t, h1, h2⟩ => ⟨t, h1, by omega⟩, fun ⟨t, h1, h2⟩ => ⟨t, h1, by omega⟩⟩
theorem ltGet_keep {l : List Lt} (p : Nat) (m : List UInt8) (h : ltHas l p = false) (j : Int) : ltGet (ltKeep l p m) j = if j = (p : Int) then some m else ltGet l j := by
  unfold ltKeep
  rw [h, if_neg (by simp), ltGet_append, ltGet_append, ltGet_cons, ltGet_nil]
  by_cases e : j = (p : Int)
  · subst e
    rw [ltGet_none (l := l.take (ltAt l p))]
    · simp
    · intro t ht
      obtain ⟨i, hi, rfl⟩ := List.mem_iff_getElem.1 ht
      simp only [List.length_take] at hi
      rw [List.getElem_take]
      have := ltAt_lt l p i (by omega) (by omega)
      omega
  · rw [if_neg (fun h => e h.symm), if_neg e]
    simp only [Option.or_none]
    rw [← ltGet_append, List.take_append_drop]
theorem ltGet_tail {t : Lt} {l : List Lt} (h : (ltKeys (t :: l)).Pairwise (· < ·)) (j : Int) : ltGet l j = if j = (t.1 : Int) then none else ltGet (t :: l) j := by
  rw [ltGet_cons]
  by_cases e : j = (t.1 : Int)
  · subst e
    rw [if_pos rfl]
    refine ltGet_none fun u hu e => ?_
    have h1 : t.1 < u.1 := (List.pairwise_cons.1 h).1 u.1 (List.mem_map.2 ⟨u, hu, rfl⟩)
    omega
  · rw [if_neg e, if_neg (fun h => e h.symm)]
/-- the place that is waited for -/
theorem ltGet_head {s : Pls} (h : PlOk s) : (∃ d r, s.late = (s.ent, d) :: r ∧ ltGet s.late (s.ent : Int) = some d ∧ d.length ≤ 64) ∨ (ltGet s.late (s.ent : Int) = none ∧ plCan s = false) := by
  cases hl : s.late with
  | nil => exact .inr ⟨rfl, by unfold plCan; rw [hl]⟩
  | cons t r =>
    by_cases e : t.1 = s.ent
    · refine .inl ⟨t.2, r, by rw [← e], ?_, (h.2.2.2.1 t (by rw [hl]; simp)).2⟩
      rw [ltGet_cons, if_pos (by omega)]
    · refine .inr ⟨?_, ?_⟩
      · refine ltGet_none fun u hu he => ?_
        have h1 := (h.2.2.2.1 t (by rw [hl]; simp)).1.1
        rcases List.mem_cons.1 hu with rfl | hu
        · omega
        · have h3 := h.2.2.1
          rw [hl] at h3
          have h2 : t.1 < u.1 := (List.pairwise_cons.1 h3).1 u.1 (List.mem_map.2 ⟨u, hu, rfl⟩)
          omega
      · unfold plCan
        rw [hl]
        simp [e]
/-- an element of the map, and the text that it stands for -/
def LtV (w : World) (X : Nat → Prop) (m : Nat) : Option Value → Option (List UInt8) → Prop
  | some v, some d => ∃ A c, v = .slice A d.length c ∧ Bys w A d.length c d ∧ Av (fun k => ¬ X k ∨ k = m) d.length A
  | none, none => True
  | _, _ => False
theorem LtV.some_eq {w : World} {X : Nat → Prop} {m : Nat} {a : Option Value} {b : Option (List UInt8)} (h : LtV w X m a b) : a.isSome = b.isSome := by
  cases a <;> cases b <;> simp_all [LtV]
theorem LtV.off {w w' : World} {X X' Y : Nat → Prop} {m : Nat} {a : Option Value} {b : Option (List UInt8)} (h : LtV w X m a b) (o : Off Y w w') (hd : ∀ k, X k → k ≠ m → ¬ Y k) (hX : ∀ k, X k → X' k) : LtV w' X' m a b := by
  cases a with
  | none => cases b <;> exact h
  | some v =>
    cases b with
    | none => exact h
    | some d =>
      obtain ⟨A, c, h1, h2, h3⟩ := h
      refine ⟨A, c, h1, h2.off (h3.imp fun k hk => ?_) o, h3.imp fun k hk => ?_⟩
      · rcases Classical.em (X k) with hx | hx
        · rcases Classical.em (k = m) with e | e
          · exact .inr e
          · exact absurd hk (hd k hx e)
        · exact .inl hx
      · rcases hk with hk | hk
        · exact .inl (fun hx => hk (hX k hx))
        · exact .inr hk
/-- at block m lies a map of what is ahead -/
def LtP (m : Nat) (l : List Lt) (w : World) (X : Nat → Prop) : Prop := ∃ T : Int → Option Value, MapS w m T ∧ X m ∧ (∀ k, X k → k < w.heap.size) ∧ ∀ k : Int, LtV w X m (T k) (ltGet l k)
theorem LtP.holds (m : Nat) (l : List Lt) : Holds (LtP m l) where
  lt := fun ⟨_, _, _, h, _⟩ => h
  off := fun ⟨T, h1, h2, h3, h4⟩ o hd => ⟨T, h1.off o (hd m h2), h2, fun k hk => Nat.lt_of_lt_of_le (h3 k hk) o.size, fun k => (h4 k).off o (fun i hi _ => hd i hi) (fun _ h => h)⟩
theorem LtP.made (w : World) : LtP w.heap.size [] (w.alloc (.map #[] 0)) (· = w.heap.size) := ⟨_, MapS.made w, rfl, fun k hk => by subst hk; simp, fun k => trivial⟩
/-- a text is laid at a place that has none -/
theorem LtP.put {m p : Nat} {l : List Lt} {w0 w w' : World} {X : Nat → Prop} {T : Int → Option Value} {A : Option Addr} {d : List UInt8} {c : Nat} (hlt : ∀ k, X k → k < w0.heap.size) (hm : X m) (h : ∀ k : Int, LtV w X m (T k) (ltGet l k)) (U : Below w0.heap.size w0 w) (hB : Bys w A d.length c d) (hA : Av (· < w0.heap.size) d.length A) (hp : ltHas l p = false)
    (hM : MapS w' m (fun j => if j = (p : Int) then some (.slice A d.length c) else T j)) (hg : w.grownBy w' (some m)) : ∃ X', LtP m (ltKeep l p d) w' X' ∧ Turns X X' w0 w' := by
  have O : Off (· = m) w w' := (Off.refl (· = m) w).grown hg (fun j hj => .inl (by injection hj with hj; exact hj.symm))
  have hs := O.size
  have hs0 := U.size
  refine ⟨fun k => X k ∨ (w0.heap.size ≤ k ∧ k < w'.heap.size), ⟨_, hM, .inl hm, fun k hk => ?_, fun k => ?_⟩, ⟨(Off.of_below U).trans (O.more (fun k hk => by subst hk; exact hm)), fun k hk => hk.imp id (fun h => h.1)⟩⟩
  · rcases hk with hk | hk
    · have := hlt k hk; omega
    · exact hk.2
  · rw [ltGet_keep p d hp]
    by_cases e : k = (p : Int)
    · rw [if_pos e, if_pos e]
      refine ⟨A, c, rfl, hB.off ?_ O, fun hn q eq hk => ?_⟩
      · exact hA.imp fun k hk => by subst hk; exact hlt _ hm
      · have h1 := hA hn q eq
        obtain ⟨b, o, e', hb, _⟩ := hB.at_ hn
        rw [eq] at e'
        injection e' with e'
        subst e'
        rcases hk with hk | hk
        · exact hk (.inr ⟨Nat.le_of_not_lt h1, by show b < _; omega⟩)
        · exact h1 (hk ▸ hlt _ hm)
    · rw [if_neg e, if_neg e]
      exact (h k).off O (fun i _ hi => hi) (fun i hi => .inl hi)
/-- the first one is taken out -/
theorem LtP.drop {m : Nat} {t : Lt} {l : List Lt} {w w' : World} {X : Nat → Prop} {T : Int → Option Value} (hs : (ltKeys (t :: l)).Pairwise (· < ·)) (hlt : ∀ k, X k → k < w.heap.size) (hm : X m) (h : ∀ k : Int, LtV w X m (T k) (ltGet (t :: l) k))
    (hM : MapS w' m (fun j => if j = (t.1 : Int) then none else T j)) (hg : w.grownBy w' (some m)) : LtP m l w' X ∧ Turns X X w w' := by
  have O : Off (· = m) w w' := (Off.refl (· = m) w).grown hg (fun j hj => .inl (by injection hj with hj; exact hj.symm))
  refine ⟨⟨_, hM, hm, fun k hk => Nat.lt_of_lt_of_le (hlt k hk) O.size, fun k => ?_⟩, ⟨O.more (fun k hk => by subst hk; exact hm), fun k hk => .inl hk⟩⟩
  rw [ltGet_tail hs]
  by_cases e : k = (t.1 : Int)
  · rw [if_pos e, if_pos e]; trivial
  · rw [if_neg e, if_neg e]
    exact (h k).off O (fun i _ hi => hi) (fun i hi => hi)
section
variable (Q : Nat → Nat → List (List UInt8) → World → (Nat → Prop) → Prop)
def plcells (gq m : Nat) (s : Pls) : Array Value := #[.int .i64 s.c.w, .int .i64 s.c.m, .pointer (some ⟨gq, 0, none⟩), .map (some m), .int .i64 (s.ent : Int)]
/-- at block x lies what stands within a puller in the state s -/
def PeV (x gq m : Nat) (s : Pls) (Xq Xl : Nat → Prop) (w : World) : Prop := Ob x 73 (plcells gq m s) (Q gq s.c.room.toNat s.ls) (LtP m s.late) Xq Xl w
/-- .. with all that stands in it -/
def PeP (x : Nat) (s : Pls) (w : World) (X : Nat → Prop) : Prop := ∃ gq m Xq Xl, PeV Q x gq m s Xq Xl w ∧ X = Ob3 x Xq Xl
/-- a puller: a pointer to that -/
def PlP (g : Nat) (s : Pls) (w : World) (X : Nat → Prop) : Prop := ∃ x Y, w.heap[g]? = some (.cells #[.pointer (some ⟨x, 0, none⟩)] 75 (0, 0)) ∧ PeP Q x s w Y ∧ ¬ Y g ∧ (X = fun k => k = g ∨ Y k) ∧ s.ret + s.ls.length = s.ent ∧ s.ent ≤ 300000
end
section
variable {Q : Nat → Nat → List (List UInt8) → World → (Nat → Prop) → Prop} {x gq m : Nat} {s : Pls} {Xq Xl : Nat → Prop} {w w1 : World}
theorem PeV.lt (C : QuC Q) (h : PeV Q x gq m s Xq Xl w) : ∀ k, Ob3 x Xq Xl k → k < w.heap.size := Ob.lt (C.holds _ _ _) (LtP.holds _ _) h
theorem PeV.below (C : QuC Q) (h : PeV Q x gq m s Xq Xl w) (U : Below w.heap.size w w1) : PeV Q x gq m s Xq Xl w1 := Ob.below (C.holds _ _ _) (LtP.holds _ _) h U
theorem PeV.off (C : QuC Q) {Y : Nat → Prop} (h : PeV Q x gq m s Xq Xl w) (o : Off Y w w1) (hd : ∀ k, Ob3 x Xq Xl k → ¬ Y k) : PeV Q x gq m s Xq Xl w1 := Ob.off (C.holds _ _ _) (LtP.holds _ _) h o hd
theorem PeV.cells (h : PeV Q x gq m s Xq Xl w) : (w.cell? ⟨x, 0, none⟩ = some (.int .i64 s.c.w) ∧ w.cell? ⟨x, 1, none⟩ = some (.int .i64 s.c.m) ∧ w.cell? ⟨x, 2, none⟩ = some (.pointer (some ⟨gq, 0, none⟩)) ∧ w.cell? ⟨x, 3, none⟩ = some (.map (some m)) ∧ w.cell? ⟨x, 4, none⟩ = some (.int .i64 (s.ent : Int))) ∧ ∀ j, w.frozen? ⟨x, j, none⟩ = false :=
  ⟨⟨h.cell 0, h.cell 1, h.cell 2, h.cell 3, h.cell 4⟩, fun j => h.froz j⟩
theorem PeP.holds (C : QuC Q) (x : Nat) (s : Pls) : Holds (PeP Q x s) where
  lt := fun ⟨_, _, _, _, h, e⟩ k hk => h.lt C k (e ▸ hk)
  off := fun ⟨_, _, _, _, h, e⟩ o hd => ⟨_, _, _, _, h.off C o (fun k hk => hd k (e ▸ hk)), e⟩
theorem PlP.holds (C : QuC Q) (g : Nat) (s : Pls) : Holds (PlP Q g s) where
  lt := fun ⟨x, Y, h1, h2, h3, e, _⟩ k hk => by
    subst e
    rcases hk with rfl | hk
    · exact lt_row h1
    · exact (PeP.holds C x s).lt h2 k hk
  off := fun ⟨x, Y, h1, h2, h3, e, h4⟩ o hd => ⟨x, Y, (o.block g (lt_row h1) (hd g (e ▸ .inl rfl))).trans h1, (PeP.holds C x s).off h2 o (fun k hk => hd k (e ▸ .inr hk)), h3, e, h4⟩
/-- what stands within is turned -/
theorem PlP.turn {g x : Nat} {s' : Pls} {Y Y' : Nat → Prop} (h1 : w.heap[g]? = some (.cells #[.pointer (some ⟨x, 0, none⟩)] 75 (0, 0))) (h3 : ¬ Y g) (h2 : PeP Q x s' w1 Y') (U : Turns Y Y' w w1) (h4 : s'.ret + s'.ls.length = s'.ent ∧ s'.ent ≤ 300000) : PlP Q g s' w1 (fun k => k = g ∨ Y' k) ∧ Turns (fun k => k = g ∨ Y k) (fun k => k = g ∨ Y' k) w w1 := by
  refine ⟨⟨x, Y', (U.off.block g (lt_row h1) h3).trans h1, h2, fun hk => ?_, rfl, h4⟩, U.off.more (fun k hk => .inr hk), fun k hk => ?_⟩
  · rcases U.grow g hk with h | h
    · exact h3 h
    · have := lt_row h1; omega
  · rcases hk with hk | hk
    · exact .inl (.inl hk)
    · exact (U.grow k hk).imp .inr id
end
end Go.Proofs.Ytpidbgnlehikeaa
