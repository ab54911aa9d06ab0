/- Timers in plain words; a row of three-cell structs of one's own: read, append, stored into. Nothing of the program's own functions is in here. -/
import Derived.Test.YtdkebneiikdohaaIntZ
import Derived.Test.YtdkebneiikdohaaRecs
namespace Go.Proofs.Ytdkebneiikdohaa
open Go.RowKit
set_option maxRecDepth 20000

abbrev Tmr := Int × Int × Int
/-- the place of a timer, or where it would stand; whether it is there -/
def tmAt : List Tmr → Int → Nat
  | [], _ => 0
  | t :: l, key => if key ≤ t.1 then 0 else tmAt l key + 1
def tmIs (l : List Tmr) (key : Int) : Bool := match l[tmAt l key]? with | some t => t.1 == key | none => false
def tmSet (l : List Tmr) (key : Int) : List Tmr := l.take (tmAt l key) ++ [(key, 1, 1)] ++ l.drop (if tmIs l key then tmAt l key + 1 else tmAt l key)
def tmClear (l : List Tmr) (key : Int) : List Tmr := if tmIs l key then l.take (tmAt l key) ++ l.drop (tmAt l key + 1) else l
def tmStep (most : Int) (t : Tmr) : Tmr := if 0 < t.2.1 - 1 then (t.1, t.2.1 - 1, t.2.2) else (t.1, (if most < 2 * t.2.2 then most else 2 * t.2.2), (if most < 2 * t.2.2 then most else 2 * t.2.2))
def tmTick (most : Int) (l : List Tmr) : List Tmr := l.map (tmStep most)
def tmDue (l : List Tmr) : List Int := (l.filter fun t => decide (¬ 0 < t.2.1 - 1)).map (·.1)
def tmKeys (l : List Tmr) : List Int := l.map (·.1)
def tmLeft (l : List Tmr) (key : Int) : Int × Int := match l.find? (fun t => t.1 == key) with | some t => (t.2.1, t.2.2) | none => (0, 0)
/-- timers as they stand: by rising numbers, spans within the cap -/
def TmOk (most : Int) (l : List Tmr) : Prop := (1 ≤ most ∧ most ≤ 64) ∧ (tmKeys l).Pairwise (· < ·) ∧ ∀ t ∈ l, I64 t.1 ∧ (1 ≤ t.2.1 ∧ t.2.1 ≤ 64) ∧ (1 ≤ t.2.2 ∧ t.2.2 ≤ most)
theorem tmAt_le (l : List Tmr) (key : Int) : tmAt l key ≤ l.length := by
  induction l with
  | nil => simp [tmAt]
  | cons t l ih =>
    unfold tmAt
    split
    · exact Nat.zero_le _
    · simp; omega
theorem tmAt_lt (l : List Tmr) (key : Int) : ∀ i, i < tmAt l key → ∀ h : i < l.length, l[i].1 < key := by
  induction l with
  | nil => intro i _ h; simp at h
  | cons t l ih =>
    intro i hi h
    unfold tmAt at hi
    split at hi
    · omega
    · match i, h with
      | 0, _ => simp; omega
      | i + 1, h => simpa using ih i (by omega) (by simp at h; omega)
theorem tmAt_ge (l : List Tmr) (key : Int) (h : tmAt l key < l.length) : key ≤ l[tmAt l key].1 := by
  induction l with
  | nil => simp at h
  | cons t l ih =>
    by_cases hk : key ≤ t.1
    · have e : tmAt (t :: l) key = 0 := by unfold tmAt; rw [if_pos hk]
      simp [e]; exact hk
    · have e : tmAt (t :: l) key = tmAt l key + 1 := by unfold tmAt; rw [if_neg hk]; cases l <;> rfl
      simp only [e] at h ⊢
      simpa using ih (by simp at h; omega)
theorem tmAt_unique (l : List Tmr) (key : Int) (i : Nat) (hi : i ≤ l.length) (h1 : ∀ j, j < i → ∀ h : j < l.length, l[j].1 < key) (h2 : ∀ h : i < l.length, key ≤ l[i].1) : tmAt l key = i := by
  have a := tmAt_le l key
  rcases Nat.lt_trichotomy (tmAt l key) i with h | h | h
  · have := tmAt_ge l key (by omega)
    have := h1 _ h (by omega)
    omega
  · exact h
  · have := tmAt_lt l key i h (by omega)
    have := h2 (by omega)
    omega
theorem tmIs_eq (l : List Tmr) (key : Int) (h : tmAt l key < l.length) : tmIs l key = (l[tmAt l key].1 == key) := by
  unfold tmIs; rw [List.getElem?_eq_getElem h]
theorem tmIs_end (l : List Tmr) (key : Int) (h : ¬ tmAt l key < l.length) : tmIs l key = false := by
  unfold tmIs; rw [List.getElem?_eq_none (by omega)]
theorem tmIs_lt (l : List Tmr) (key : Int) (h : tmIs l key = true) : tmAt l key < l.length := by
  by_cases h1 : tmAt l key < l.length
  · exact h1
  · rw [tmIs_end l key h1] at h; cases h

theorem tmSet_found (l : List Tmr) (key : Int) (h : tmIs l key = true) : tmSet l key = l.set (tmAt l key) (key, 1, 1) := by
  have hlt := tmIs_lt l key h
  unfold tmSet
  rw [if_pos h, List.set_eq_take_append_cons_drop, if_pos hlt]
  simp
theorem tmSet_new (l : List Tmr) (key : Int) (h : tmIs l key = false) : tmSet l key = l.take (tmAt l key) ++ [(key, 1, 1)] ++ l.drop (tmAt l key) := by
  unfold tmSet
  rw [if_neg (by simp [h])]
theorem tmSet_len (l : List Tmr) (key : Int) : (tmSet l key).length ≤ l.length + 1 := by
  have := tmAt_le l key
  unfold tmSet
  split <;> simp <;> omega
theorem tmSet_ok {most : Int} {l : List Tmr} (key : Int) (hk : I64 key) (h : TmOk most l) : TmOk most (tmSet l key) := by
  obtain ⟨h1, h2, h3⟩ := h
  cases hf : tmIs l key with
  | true =>
    have hlt := tmIs_lt l key hf
    rw [tmSet_found l key hf]
    have e := hf
    rw [tmIs_eq l key hlt] at e
    have e : l[tmAt l key].1 = key := by simpa using e
    refine ⟨h1, ?_, fun t ht => ?_⟩
    · have : tmKeys (l.set (tmAt l key) (key, 1, 1)) = tmKeys l := by
        unfold tmKeys
        rw [List.map_set]
        apply List.ext_getElem?
        intro i
        by_cases hi : i = tmAt l key
        · subst hi
          rw [List.getElem?_set_self (by simpa using hlt)]
          simp [hlt, e]
        · rw [List.getElem?_set_ne (Ne.symm hi)]
      rw [this]; exact h2
    · rcases List.mem_or_eq_of_mem_set ht with h | h
      · exact h3 t h
      · subst h; exact ⟨hk, ⟨Int.le_refl 1, (by omega : (1 : Int) ≤ 64)⟩, ⟨Int.le_refl 1, h1.1⟩⟩
  | false =>
    rw [tmSet_new l key hf]
    refine ⟨h1, ?_, fun t ht => ?_⟩
    · have ek : tmKeys l = tmKeys (l.take (tmAt l key)) ++ tmKeys (l.drop (tmAt l key)) := by
        unfold tmKeys; rw [← List.map_append, List.take_append_drop]
      rw [ek, List.pairwise_append] at h2
      have e2 : tmKeys (l.take (tmAt l key) ++ [(key, 1, 1)] ++ l.drop (tmAt l key)) = tmKeys (l.take (tmAt l key)) ++ ([key] ++ tmKeys (l.drop (tmAt l key))) := by simp [tmKeys]
      have hlow : ∀ a ∈ tmKeys (l.take (tmAt l key)), a < key := fun a ha => by
        obtain ⟨t, ht, rfl⟩ := List.mem_map.1 ha
        obtain ⟨i, hi, rfl⟩ := List.mem_iff_getElem.1 ht
        simp at hi
        simpa using tmAt_lt l key i (by omega) (by omega)
      have hhigh : ∀ b ∈ tmKeys (l.drop (tmAt l key)), key < b := fun b hb => by
        by_cases hlt : tmAt l key < l.length
        · have hge := tmAt_ge l key hlt
          have hne : l[tmAt l key].1 ≠ key := by
            intro e
            rw [tmIs_eq l key hlt, e] at hf
            simp at hf
          have ed : tmKeys (l.drop (tmAt l key)) = l[tmAt l key].1 :: tmKeys (l.drop (tmAt l key + 1)) := by
            unfold tmKeys
            rw [List.drop_eq_getElem_cons hlt, List.map_cons]
          rw [ed] at hb h2
          rcases List.mem_cons.1 hb with rfl | hb
          · omega
          · have := (List.pairwise_cons.1 h2.2.1).1 b hb
            omega
        · rw [List.drop_of_length_le (by omega)] at hb; cases hb
      rw [e2, List.pairwise_append]
      refine ⟨h2.1, List.pairwise_append.2 ⟨List.pairwise_singleton _ _, h2.2.1, fun a ha b hb => by rw [List.mem_singleton.1 ha]; exact hhigh b hb⟩, fun a ha b hb => ?_⟩
      rcases List.mem_append.1 hb with hb | hb
      · rw [List.mem_singleton.1 hb]; exact hlow a ha
      · exact h2.2.2 a ha b hb
    · rcases List.mem_append.1 ht with ht | ht
      · rcases List.mem_append.1 ht with ht | ht
        · exact h3 t (List.mem_of_mem_take ht)
        · rw [List.mem_singleton.1 ht]; exact ⟨hk, ⟨Int.le_refl 1, (by omega : (1 : Int) ≤ 64)⟩, ⟨Int.le_refl 1, h1.1⟩⟩
      · exact h3 t (List.mem_of_mem_drop ht)
theorem tmClear_ok {most : Int} {l : List Tmr} (key : Int) (h : TmOk most l) : TmOk most (tmClear l key) := by
  obtain ⟨h1, h2, h3⟩ := h
  unfold tmClear
  split
  · refine ⟨h1, ?_, fun t ht => ?_⟩
    · refine h2.sublist ?_
      unfold tmKeys
      apply List.Sublist.map
      have : (l.take (tmAt l key) ++ l.drop (tmAt l key + 1)).Sublist (l.take (tmAt l key) ++ l.drop (tmAt l key)) := List.Sublist.append (List.Sublist.refl _) (List.drop_sublist_drop_left l (by omega))
      rwa [List.take_append_drop] at this
    · rcases List.mem_append.1 ht with ht | ht
      · exact h3 t (List.mem_of_mem_take ht)
      · exact h3 t (List.mem_of_mem_drop ht)
  · exact ⟨h1, h2, h3⟩
theorem tmClear_len (l : List Tmr) (key : Int) : (tmClear l key).length ≤ l.length := by
  unfold tmClear
  split <;> simp <;> omega
theorem tmTick_ok {most : Int} {l : List Tmr} (h : TmOk most l) : TmOk most (tmTick most l) := by
  obtain ⟨h1, h2, h3⟩ := h
  refine ⟨h1, ?_, fun t ht => ?_⟩
  · have : tmKeys (tmTick most l) = tmKeys l := by
      unfold tmKeys tmTick
      rw [List.map_map]
      apply List.map_congr_left
      intro t _
      simp only [Function.comp, tmStep]
      split <;> rfl
    rw [this]; exact h2
  · obtain ⟨t', ht', rfl⟩ := List.mem_map.1 ht
    obtain ⟨k1, k2, k3⟩ := h3 t' ht'
    unfold tmStep
    split
    · exact ⟨k1, by simp only; omega, k3⟩
    · split
      · exact ⟨k1, by simp only; omega, by simp only; omega⟩
      · exact ⟨k1, by simp only; omega, by simp only; omega⟩

theorem tmTick_mid (most : Int) (l : List Tmr) (k : Nat) (hk : k < l.length) : (tmTick most (l.take k) ++ l.drop k).length = l.length ∧ (tmTick most (l.take k) ++ l.drop k)[k]? = some l[k] := by
  have h1 : (tmTick most (l.take k)).length = k := by simp [tmTick]; omega
  refine ⟨by rw [List.length_append, h1]; simp; omega, ?_⟩
  rw [List.getElem?_append_right (by omega), h1]
  simp
theorem tmTick_step (most : Int) (l : List Tmr) (k : Nat) (hk : k < l.length) : (tmTick most (l.take k) ++ l.drop k).set k (tmStep most l[k]) = tmTick most (l.take (k + 1)) ++ l.drop (k + 1) := by
  have h1 : (tmTick most (l.take k)).length = k := by simp [tmTick]; omega
  rw [List.set_append_right _ _ (by omega), h1, Nat.sub_self, List.drop_eq_getElem_cons hk, List.set_cons_zero, List.take_succ_eq_append_getElem hk]
  unfold tmTick
  rw [List.map_append, List.append_assoc]
  rfl
theorem tmDue_step (l : List Tmr) (k : Nat) (hk : k < l.length) : tmDue (l.take (k + 1)) = tmDue (l.take k) ++ (if 0 < l[k].2.1 - 1 then [] else [l[k].1]) := by
  rw [List.take_succ_eq_append_getElem hk]
  unfold tmDue
  rw [List.filter_append, List.map_append]
  congr 1
  generalize l[k] = t
  by_cases h : 0 < t.2.1 - 1
  · have e : decide (¬ 0 < t.2.1 - 1) = false := decide_eq_false (fun h' => h' h)
    simp only [List.filter, e, if_pos h, List.map_nil]
  · have e : decide (¬ 0 < t.2.1 - 1) = true := decide_eq_true h
    simp only [List.filter, e, if_neg h, List.map_cons, List.map_nil]

theorem tmDue_len (l : List Tmr) : (tmDue l).length ≤ l.length := by
  unfold tmDue
  rw [List.length_map]
  exact List.length_filter_le _ _

/-- three cells a timer -/
def tvs (l : List Tmr) : List Value := l.flatMap fun t => [.int .i64 t.1, .int .i64 t.2.1, .int .i64 t.2.2]
theorem tvs_append (l m : List Tmr) : tvs (l ++ m) = tvs l ++ tvs m := by simp [tvs]
theorem tvs_len (l : List Tmr) : (tvs l).length = l.length * 3 := by
  induction l with
  | nil => rfl
  | cons t l ih =>
    have : tvs (t :: l) = [.int .i64 t.1, .int .i64 t.2.1, .int .i64 t.2.2] ++ tvs l := by simp [tvs]
    rw [this]; simp; omega
def fld (t : Tmr) (r : Nat) : Int := if r = 0 then t.1 else if r = 1 then t.2.1 else t.2.2
theorem tvs_at (l : List Tmr) (j r : Nat) (hj : j < l.length) (hr : r < 3) : (tvs l)[j * 3 + r]? = some (.int .i64 (fld l[j] r)) := by
  induction l generalizing j with
  | nil => simp at hj
  | cons t l ih =>
    have e : tvs (t :: l) = [.int .i64 t.1, .int .i64 t.2.1, .int .i64 t.2.2] ++ tvs l := by simp [tvs]
    rw [e]
    match j, hj with
    | 0, _ =>
      match r, hr with
      | 0, _ => simp [fld]
      | 1, _ => simp [fld]
      | 2, _ => simp [fld]
    | j + 1, hj =>
      rw [List.getElem?_append_right (by simp; omega)]
      have := ih j (by simp at hj; omega)
      rw [show (j + 1) * 3 + r - [Value.int .i64 t.1, .int .i64 t.2.1, .int .i64 t.2.2].length = j * 3 + r by simp; omega]
      simpa using this
theorem tvs_one (l : List Tmr) : ∀ u ∈ tvs l, u.oneCell' = true := by
  intro u hu
  simp only [tvs, List.mem_flatMap] at hu
  obtain ⟨t, _, hu⟩ := hu
  simp at hu
  rcases hu with rfl | rfl | rfl <;> rfl
theorem tvs_set (l : List Tmr) (j : Nat) (hj : j < l.length) (t : Tmr) (r : Nat) (hr : r < 3) (a : Int) (h : ∀ q, q < 3 → fld t q = if q = r then a else fld l[j] q) : (tvs l).set (j * 3 + r) (.int .i64 a) = tvs (l.set j t) := by
  apply List.ext_getElem?
  intro i
  by_cases hi : i < l.length * 3
  · obtain ⟨k, q, rfl, hq⟩ : ∃ k q, i = k * 3 + q ∧ q < 3 := ⟨i / 3, i % 3, by omega, by omega⟩
    have hk : k < l.length := by omega
    rw [tvs_at (l.set j t) k q (by simpa using hk) hq]
    by_cases e : k = j
    · subst e
      by_cases e2 : q = r
      · subst e2
        rw [List.getElem?_set_self (by rw [tvs_len]; omega)]
        simp [h q hr]
      · rw [List.getElem?_set_ne (by omega), tvs_at l k q hk hq]
        simp [h q hq, e2]
    · rw [List.getElem?_set_ne (by omega), tvs_at l k q hk hq]
      simp [Ne.symm e]
  · rw [List.getElem?_eq_none (by simp [tvs_len]; omega), List.getElem?_eq_none (by rw [tvs_len]; simp; omega)]
/-- a timer in memory -/
def rdTm (w : World) (b o : Nat) (t : Tmr) : Prop := w.cell? ⟨b, o, none⟩ = some (.int .i64 t.1) ∧ w.cell? ⟨b, o + 1, none⟩ = some (.int .i64 t.2.1) ∧ w.cell? ⟨b, o + 2, none⟩ = some (.int .i64 t.2.2)
theorem keepsTm : Keeps rdTm := fun _ _ b o _ hb T ⟨h0, h1, h2⟩ => ⟨(T.cell (p := ⟨b, o, none⟩) hb).trans h0, (T.cell (p := ⟨b, o + 1, none⟩) hb).trans h1, (T.cell (p := ⟨b, o + 2, none⟩) hb).trans h2⟩
end Go.Proofs.Ytdkebneiikdohaa
