/- Package timer by its contracts; what layer 23's law's own num, sameInts, live answer over them. -/
import Derived.Test.YtlghpbknlohafaaRtm
namespace Go.Proofs.Ytlghpbknlohafaa
open Go.RowKit
set_option maxRecDepth 20000

theorem key_at {most : Int} {l : List Tmr} (h : TmOk most l) (i j : Nat) (hi : i < l.length) (hj : j < l.length) (hij : i < j) : l[i].1 < l[j].1 := by
  have := List.pairwise_iff_getElem.1 h.2.1 i j (by simpa [tmKeys] using hi) (by simpa [tmKeys] using hj) hij
  simpa [tmKeys] using this
theorem tmIs_mem {most : Int} {l : List Tmr} (h : TmOk most l) (key : Int) (i : Nat) (hi : i < l.length) (e : l[i].1 = key) : tmIs l key = true := by
  have hle : tmAt l key ≤ i := by
    rcases Nat.lt_or_ge i (tmAt l key) with h1 | h1
    · have := tmAt_lt l key i h1 hi; omega
    · exact h1
  have hlt : tmAt l key < l.length := by omega
  have hge := tmAt_ge l key hlt
  rw [tmIs_eq l key hlt]
  rcases Nat.lt_or_ge (tmAt l key) i with h1 | h1
  · have := key_at h _ _ hlt hi h1; omega
  · have e2 : tmAt l key = i := by omega
    simp [e2, e]
theorem tmLeft_no {most : Int} {l : List Tmr} (h : TmOk most l) (key : Int) (hf : tmIs l key = false) : tmLeft l key = (0, 0) := by
  unfold tmLeft
  have : l.find? (fun t => t.1 == key) = none := by
    rw [List.find?_eq_none]
    intro t ht he
    obtain ⟨i, hi, rfl⟩ := List.mem_iff_getElem.1 ht
    rw [tmIs_mem h key i hi (by simpa using he)] at hf
    cases hf
  rw [this]
theorem tmLeft_at {most : Int} {l : List Tmr} (h : TmOk most l) (j : Nat) (hj : j < l.length) : tmLeft l l[j].1 = (l[j].2.1, l[j].2.2) := by
  unfold tmLeft
  cases hf : l.find? (fun t => t.1 == l[j].1) with
  | none =>
    have := List.find?_eq_none.1 hf l[j] (List.getElem_mem hj)
    simp at this
  | some t =>
    have h1 := List.find?_some hf
    have h2 := List.mem_of_find?_eq_some hf
    obtain ⟨i, hi, rfl⟩ := List.mem_iff_getElem.1 h2
    have h1 : l[i].1 = l[j].1 := by simpa using h1
    have e : i = j := by
      rcases Nat.lt_trichotomy i j with h3 | h3 | h3
      · have := key_at h i j hi hj h3; omega
      · exact h3
      · have := key_at h j i hj hi h3; omega
    subst e
    rfl
theorem Vals.off {X : Nat → Prop} {w w' : World} {A : Option Addr} {n c : Nat} {vs : List Value} (h : Vals w A n c vs) (hA : Av X n A) (o : Off X w w') : Vals w' A n c vs :=
  ⟨h.1, h.2.1, h.2.2.1, fun hn => by
    obtain ⟨b, of, e, hlt, hc⟩ := h.2.2.2 hn
    refine ⟨b, of, e, by have := o.size; omega, fun j hj => ?_⟩
    exact (o.cell (p := ⟨b, of + j, none⟩) hlt (fun hb => hA hn ⟨b, of, none⟩ e hb)).trans (hc j hj)⟩
def GivesZ (w : World) (l : List Int) (e : Ending) (w' : World) : Prop := ∃ A n c, e = .returned (.slice A n c) ∧ Zs w' A n c l ∧ Below w.heap.size w w'
/-- what package timer answers, in plain words: T g most l w X: at block g lie timers l with the cap most; their blocks are X -/
structure TmC (T : Nat → Int → List Tmr → World → (Nat → Prop) → Prop) : Prop where
  holds : ∀ g most l, Holds (T g most l)
  new_no : ∀ (r : Int) (w : World), I64 r → (r < 1 ∨ 64 < r) → Calls Try.prog 6 #[.int .i64 r] w fun e w' => e = .returned (.tuple #[.pointer none, .int .i64 1]) ∧ Below w.heap.size w w'
  new_yes : ∀ (most : Int) (w : World), 1 ≤ most → most ≤ 64 → Calls Try.prog 6 #[.int .i64 most] w fun e w' => ∃ g X, e = .returned (.tuple #[.pointer (some ⟨g, 0, none⟩), .int .i64 0]) ∧ T g most [] w' X ∧ (∀ k, X k → w.heap.size ≤ k) ∧ Below w.heap.size w w'
  set : ∀ (g : Nat) (most : Int) (l : List Tmr) (key : Int) (w : World) (X : Nat → Prop), T g most l w X → TmOk most l → I64 key → l.length < 1000 → Calls Try.prog 12 #[.pointer (some ⟨g, 0, none⟩), .int .i64 key] w fun e w' => e = .returned (.tuple #[]) ∧ ∃ X', T g most (tmSet l key) w' X' ∧ Turns X X' w w'
  clear : ∀ (g : Nat) (most : Int) (l : List Tmr) (key : Int) (w : World) (X : Nat → Prop), T g most l w X → TmOk most l → I64 key → l.length ≤ 1000 → Calls Try.prog 14 #[.pointer (some ⟨g, 0, none⟩), .int .i64 key] w fun e w' => e = .returned (.bool (tmIs l key)) ∧ ∃ X', T g most (tmClear l key) w' X' ∧ Turns X X' w w'
  tick : ∀ (g : Nat) (most : Int) (l : List Tmr) (w : World) (X : Nat → Prop), T g most l w X → TmOk most l → l.length ≤ 1000 → Calls Try.prog 10 #[.pointer (some ⟨g, 0, none⟩)] w fun e w' => ∃ A n c X', e = .returned (.slice A n c) ∧ Zs w' A n c (tmDue l) ∧ (0 < n → ∀ p, A = some p → X p.block ∨ w.heap.size ≤ p.block) ∧ T g most (tmTick most l) w' X' ∧ Turns X X' w w'
  left : ∀ (g : Nat) (most : Int) (l : List Tmr) (key : Int) (w : World) (X : Nat → Prop), T g most l w X → TmOk most l → I64 key → l.length ≤ 1000 → Calls Try.prog 17 #[.pointer (some ⟨g, 0, none⟩), .int .i64 key] w fun e w' => e = .returned (.tuple #[.int .i64 (tmLeft l key).1, .int .i64 (tmLeft l key).2]) ∧ Below w.heap.size w w'
  keys : ∀ (g : Nat) (most : Int) (l : List Tmr) (w : World) (X : Nat → Prop), T g most l w X → TmOk most l → l.length ≤ 1000 → Calls Try.prog 16 #[.pointer (some ⟨g, 0, none⟩)] w (GivesZ w (tmKeys l))
  nset : ∀ (key : Int) (w : World), Calls Try.prog 12 #[.pointer none, .int .i64 key] w fun e w' => e = .returned (.tuple #[]) ∧ Below w.heap.size w w'
  nclear : ∀ (key : Int) (w : World), Calls Try.prog 14 #[.pointer none, .int .i64 key] w fun e w' => e = .returned (.bool false) ∧ Below w.heap.size w w'
  ntick : ∀ w : World, Calls Try.prog 10 #[.pointer none] w (GivesZ w [])
  nleft : ∀ (key : Int) (w : World), Calls Try.prog 17 #[.pointer none, .int .i64 key] w fun e w' => e = .returned (.tuple #[.int .i64 0, .int .i64 0]) ∧ Below w.heap.size w w'
  nkeys : ∀ w : World, Calls Try.prog 16 #[.pointer none] w (GivesZ w [])
theorem num23_any (e : Int) (w : World) : Calls Try.prog 8 #[.int .i64 e] w fun e' w' => e' = .returned (.int .i64 e) ∧ w = w' := by
  go_enter Try.func8, Try.ntmps8
  go_wp2
  go_ret
  exact ⟨rfl, rfl⟩
set_option maxHeartbeats 1000000 in
theorem sameints_true (A A' : Option Addr) (n c n' c' : Nat) (l : List Int) (w : World) (h : Zs w A n c l) (h' : Zs w A' n' c' l) :
    Calls Try.prog 9 #[.slice A n c, .slice A' n' c'] w fun e w' => e = .returned (.bool true) ∧ Below w.heap.size w w' := by
  have hl := h.len
  obtain rfl : n' = n := by have := h'.len; omega
  have hc := h.le
  have hc' := h'.le
  have hm := h.cap
  have hm' := h'.cap
  have HA := Lib.hid (fun hn => h.cell hn)
  have HA' := Lib.hid (fun hn => h'.cell hn)
  have n1 : ((n' : Int) != (n' : Int)) = false := by simp
  have HLN := Lib.hid hl
  clear h h' hl
  go_enter Try.func9, Try.ntmps9
  go_wp2_with (fail)
  go_loopw [5] (fun i wr => ∃ k : Nat, k ≤ n' ∧ i = .int .i64 (k : Int) ∧ Below w.heap.size w wr) (fun i _ => n' - (intOf i).toNat)
  case atStart => exact ⟨0, Nat.zero_le _, rfl, Below.refl _ _⟩
  case round =>
    obtain ⟨k, hk, rfl, hbel⟩ := hrel
    by_cases hlt : k < n'
    · have hkl : k < l.length := by rw [HLN.out]; exact hlt
      obtain ⟨b, o, rfl, hb, hcl⟩ := HA.out (by omega)
      obtain ⟨b', o', rfl, hb', hcl'⟩ := HA'.out (by omega)
      have c1 := (hbel.cell (p := ⟨b, o + k, none⟩) hb).trans (hcl k hkl)
      have c2 := (hbel.cell (p := ⟨b', o' + k, none⟩) hb').trans (hcl' k hkl)
      clear hcl hcl'
      generalize l[k] = x at *
      have n2 : (x != x) = false := by simp
      have d1 : (k : Int) < (n' : Int) := by omega
      go_wp2_with (fail)
      go_region
      go_wp2_with (fail)
      go_roundw
      case rel => exact ⟨k + 1, by omega, by go_num, below_drewN' hbel _⟩
      case measure => simp [intOf]; omega
    · have d1 : ¬ ((k : Int) < (n' : Int)) := by omega
      go_wp2
      go_ret
      exact ⟨rfl, hbel⟩
def liveL : Nat → List Tmr
  | 0 => [(7, 1, 1)]
  | k + 1 => tmTick 4 (liveL k)
def liveAt (k : Nat) : List Int := ([1, 3, 7, 11] : List Int).filter (fun x => decide (x ≤ (k : Int)))
theorem live_facts : ∀ k : Fin 11, (tmDue (liveL k)).length ≤ 1 ∧ ((tmDue (liveL k)).length = 1 → liveAt (k + 1) = liveAt k ++ [((k : Nat) : Int) + 1]) ∧ ((tmDue (liveL k)).length ≠ 1 → liveAt (k + 1) = liveAt k) := by decide
theorem liveL_ok : ∀ k, TmOk 4 (liveL k) ∧ (liveL k).length = 1
  | 0 => ⟨⟨⟨by omega, by omega⟩, List.pairwise_singleton _ _, fun t ht => by
      rw [show t = (7, 1, 1) from List.mem_singleton.1 ht]
      exact ⟨⟨by omega, by omega⟩, ⟨Int.le_refl 1, (by omega : (1 : Int) ≤ 64)⟩, ⟨Int.le_refl 1, (by omega : (1 : Int) ≤ 4)⟩⟩⟩, rfl⟩
  | k + 1 => ⟨tmTick_ok (liveL_ok k).1, by unfold liveL tmTick; rw [List.length_map]; exact (liveL_ok k).2⟩
theorem Zs.lit4 (w : World) : Zs (w.alloc (.cells #[.int .i64 1, .int .i64 3, .int .i64 7, .int .i64 11] 3)) (some ⟨w.heap.size, 0, none⟩) 4 4 [1, 3, 7, 11] :=
  ⟨rfl, Nat.le_refl _, by unfold maxLen; omega, fun _ => ⟨w.heap.size, 0, rfl, by simp, fun j hj => by
    match j, hj with
    | 0, _ => simp [zvs]
    | 1, _ => simp [zvs]
    | 2, _ => simp [zvs]
    | 3, _ => simp [zvs]⟩⟩
set_option maxHeartbeats 2000000 in
theorem live23_any {T : Nat → Int → List Tmr → World → (Nat → Prop) → Prop} (C : TmC T) (w : World) : Calls Try.prog 5 #[] w fun e w' => e = .returned (.bool true) ∧ Below w.heap.size w w' := by
  have H1 := Lib.hid (C.new_yes 4 w (by omega) (by omega))
  have h2 := fun g W X (h : T g 4 [] W X) => C.set g 4 [] 7 W X h ⟨⟨by omega, by omega⟩, List.Pairwise.nil, fun t ht => by cases ht⟩ ⟨by omega, by omega⟩ (by simp)
  rw [show tmSet [] 7 = liveL 0 from rfl] at h2
  have H2 := Lib.hid h2
  have H3 := Lib.hid (fun g k W X (h : T g 4 (liveL k) W X) => C.tick g 4 (liveL k) W X h (liveL_ok k).1 (by rw [(liveL_ok k).2]; omega))
  have HN := Lib.hid num23_any
  clear h2
  go_enter Try.func5, Try.ntmps5
  go_wp2_with (fail)
  refine H1.out.mono ?_
  rintro e w1 ⟨g, X1, rfl, q1, x1, T1⟩
  have Q1 := Lib.hid q1
  clear q1
  go_wp2_with (fail)
  refine (H2.out _ _ _ Q1.out).mono ?_
  rintro e w2 ⟨rfl, X2, q2, t2⟩
  have x2 : ∀ k, X2 k → w.heap.size ≤ k := fun k hk => (t2.grow k hk).elim (x1 k) (fun h => Nat.le_trans T1.size h)
  have T2 := T1.trans (t2.off.below x1 T1.size)
  have HQ := Lib.hid (And.intro q2 x2)
  clear q2 t2 Q1 x1 T1 x2
  go_wp2_with (fail)
  go_loopw [3, 4] (fun v i wr => ∃ (k : Nat) (X : Nat → Prop), k ≤ 11 ∧ i = .int .i64 ((k : Int) + 1) ∧ Hid (OwnZ wr w.heap.size v (liveAt k)) ∧ Hid ((T g 4 (liveL k) wr X ∧ ∀ j, X j → w.heap.size ≤ j) ∧ ∀ j, v.ownBlock = some j → ¬ X j) ∧ Below w.heap.size w wr) (fun _ i _ => 12 - (intOf i).toNat)
  case atStart => exact ⟨0, X2, by omega, rfl, OwnZ.nil _ _, ⟨HQ.out, fun j hj => (nomatch hj)⟩, T2⟩
  case round =>
    obtain ⟨k, X, hk, rfl, HOZ, HT, hbel⟩ := hrel
    by_cases hlt : k < 11
    · have d1 : (k : Int) + 1 < 12 := by omega
      obtain ⟨hf1, hf2, hf3⟩ := live_facts ⟨k, hlt⟩
      simp only at hf1 hf2 hf3
      go_wp2_with (fail)
      refine (H3.out g k wr X HT.out.1.1).mono ?_
      rintro e w3 ⟨A, n, c, X3, rfl, hz, -, q3, t3⟩
      have hlen := hz.len
      have x3 : ∀ j, X3 j → w.heap.size ≤ j := fun j hj => (t3.grow j hj).elim (HT.out.1.2 j) (fun h => Nat.le_trans hbel.size h)
      have T3 := hbel.trans (t3.off.below HT.out.1.2 hbel.size)
      have HO3 := Lib.hid (HOZ.out.off t3.off HT.out.2)
      have hnv : ∀ j, u3.ownBlock = some j → ¬ X3 j := fun j hj hx => (t3.grow j hx).elim (HT.out.2 j hj) (fun h => by have := (HOZ.out.lt j hj).2; omega)
      have HQ3 := Lib.hid (And.intro (And.intro q3 x3) hnv)
      have hX3lt := (C.holds _ _ _).lt q3
      clear hz q3 t3 x3 HT HOZ
      by_cases h1 : n = 1
      · have n1 : ((n : Int) == 1) = true := by simp; omega
        have e2 : liveAt (k + 1) = liveAt k ++ [(k : Int) + 1] := hf2 (by omega)
        have HLIT := Lib.hid (Zs.lit1 w3 ((k : Int) + 1))
        have HO4 := Lib.hid (HO3.out.below ((Below.refl _ w3).alloc (Nat.le_refl _) (.cells #[.int .i64 ((k : Int) + 1)] 3)))
        have HQ4 := Lib.hid ((C.holds _ _ _).below HQ3.out.1.1 ((Below.refl _ w3).alloc (Nat.le_refl _) (.cells #[.int .i64 ((k : Int) + 1)] 3)))
        have T4 := Lib.hid (T3.alloc T3.size (.cells #[.int .i64 ((k : Int) + 1)] 3))
        have hlen2 : (liveAt k).length ≤ 4 := by unfold liveAt; exact List.length_filter_le _ _
        have HLEN := Lib.hid hlen2
        have HLTX := Lib.hid hX3lt
        clear hf1 hf2 hf3 hlen hlen2 hX3lt
        subst h1
        go_wp2_with (at_builtin; ((refine app_z _ rfl (.tmp 19) (.tmp 21) rfl w.heap.size u3 (liveAt k) rfl ?_ _ _ _ [(k : Int) + 1] rfl ?_ ?_ ?_ ?_); (exact HO4.out); (exact HLIT.out); (have := HLEN.out; omega); (exact T4.out.size); intro v5 w5 hown5 hgrow5 hwhere5))
        have T5 := T4.out.grown hgrow5 T4.out.size (fun j hj => (HO4.out.lt j hj).1)
        have HO5 : Hid (OwnZ w5 w.heap.size v5 (liveAt (k + 1))) := by rw [e2]; exact hown5
        have HQ5 : Hid ((T g 4 (liveL (k + 1)) w5 X3 ∧ ∀ j, X3 j → w.heap.size ≤ j) ∧ ∀ j, v5.ownBlock = some j → ¬ X3 j) := by
          refine ⟨⟨(C.holds _ _ _).off HQ4.out ((Off.refl (fun j => u3.ownBlock = some j) _).grown hgrow5 (fun j hj => .inl hj)) (fun j hj h => HQ3.out.2 j h hj), HQ3.out.1.2⟩, fun j hj hx => ?_⟩
          rcases hwhere5 with e | e
          · exact HQ3.out.2 j (e ▸ hj) hx
          · rw [e] at hj; injection hj with hj; have := HLTX.out j hx; simp at hj; omega
        clear hown5 hgrow5 hwhere5 e2
        go_wp2_with (fail)
        go_roundw
        case rel => exact ⟨k + 1, X3, by omega, by go_num, HO5, HQ5, T5⟩
        case measure => simp [intOf]; omega
      · have n1 : ((n : Int) == 1) = false := by simp; omega
        have e2 : liveAt (k + 1) = liveAt k := hf3 (by omega)
        have HO5 : Hid (OwnZ w3 w.heap.size u3 (liveAt (k + 1))) := by rw [e2]; exact HO3.out
        clear hf1 hf2 hf3 hlen e2 hX3lt
        go_wp2_with (fail)
        go_roundw
        case rel => exact ⟨k + 1, X3, by omega, by go_num, HO5, HQ3.out, T3⟩
        case measure => simp [intOf]; omega
    · have d1 : ¬ ((k : Int) + 1 < 12) := by omega
      obtain rfl : k = 11 := by omega
      obtain ⟨A, c, hv, hzs, -⟩ := HOZ.out.shape
      have hz := HOZ.out
      subst hv
      rw [show (liveAt 11).length = 4 by decide] at hzs
      rw [show liveAt 11 = [1, 3, 7, 11] by decide] at hzs
      have HZ1 := Lib.hid (Vals.alloc hzs (.cells #[.int .i64 1, .int .i64 3, .int .i64 7, .int .i64 11] 3))
      have HLIT := Lib.hid (Zs.lit4 wr)
      have T4 := hbel.alloc hbel.size (.cells #[.int .i64 1, .int .i64 3, .int .i64 7, .int .i64 11] 3)
      have hll : (liveAt 11).length = 4 := by decide
      clear hzs hz
      simp only [hll]
      go_wp2_with (fail)
      refine (HN.out _ _).mono ?_
      rintro e w4 ⟨rfl, rfl⟩
      go_wp2_with (fail)
      refine (sameints_true _ _ _ _ _ _ _ _ HZ1.out HLIT.out).mono ?_
      rintro e w5 ⟨rfl, T5⟩
      have T5 := nxt T4 T5
      go_wp2
      go_ret
      exact ⟨rfl, T5⟩
end Go.Proofs.Ytlghpbknlohafaa
