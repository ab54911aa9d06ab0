/- Package timer by its contracts; what layer 23's law's own num, sameInts, live answer over them. -/
import Derived.Test.YtdkebneiikdohaaRtm
namespace Go.Proofs.Ytdkebneiikdohaa
open Go.RowKit
set_option maxRecDepth 20000

theorem key_at {most : Int} {l : List Tmr} (h : TmOk most l) (i j : Nat) (hi : i < l.length) (hj : j < l.length) (hij : i < j) : l[i].1 < l[j].1 := by
  have := List.pairwise_iff_getElem.1 h.2.1 i j (by simpa [tmKeys] using hi) (by simpa [tmKeys] using hj) hij
  simpa [tmKeys] using this
theorem tmIs_mem {most : Int} {l : List Tmr} (h : TmOk most l) (key : Int) (i : Nat) (hi : i < l.length) (e : l[i].1 = key) : tmIs l key = true := by
  have hle : tmAt l key ≤ i := by
    rcases Nat.lt_or_ge i (tmAt l key) with h1 | h1
    · have := tmAt_lt l key i h1 hi; omega
    · exact h1
  have hlt : tmAt l key < l.length := by omega
  have hge := tmAt_ge l key hlt
  rw [tmIs_eq l key hlt]
  rcases Nat.lt_or_ge (tmAt l key) i with h1 | h1
  · have := key_at h _ _ hlt hi h1; omega
  · have e2 : tmAt l key = i := by omega
    simp [e2, e]
theorem tmLeft_no {most : Int} {l : List Tmr} (h : TmOk most l) (key : Int) (hf : tmIs l key = false) : tmLeft l key = (0, 0) := by
  unfold tmLeft
  have : l.find? (fun t => t.1 == key) = none := by
    rw [List.find?_eq_none]
    intro t ht he
    obtain ⟨i, hi, rfl⟩ := List.mem_iff_getElem.1 ht
    rw [tmIs_mem h key i hi (by simpa using he)] at hf
    cases hf
  rw [this]
theorem tmLeft_at {most : Int} {l : List Tmr} (h : TmOk most l) (j : Nat) (hj : j < l.length) : tmLeft l l[j].1 = (l[j].2.1, l[j].2.2) := by
  unfold tmLeft
  cases hf : l.find? (fun t => t.1 == l[j].1) with
  | none =>
    have := List.find?_eq_none.1 hf l[j] (List.getElem_mem hj)
    simp at this
  | some t =>
    have h1 := List.find?_some hf
    have h2 := List.mem_of_find?_eq_some hf
    obtain ⟨i, hi, rfl⟩ := List.mem_iff_getElem.1 h2
    have h1 : l[i].1 = l[j].1 := by simpa using h1
    have e : i = j := by
      rcases Nat.lt_trichotomy i j with h3 | h3 | h3
      · have := key_at h i j hi hj h3; omega
      · exact h3
      · have := key_at h j i hj hi h3; omega
    subst e
    rfl
theorem Vals.off {X : Nat → Prop} {w w' : World} {A : Option Addr} {n c : Nat} {vs : List Value} (h : Vals w A n c vs) (hA : Av X n A) (o : Off X w w') : Vals w' A n c vs :=
  ⟨h.1, h.2.1, h.2.2.1, fun hn => by
    obtain ⟨b, of, e, hlt, hc⟩ := h.2.2.2 hn
    refine ⟨b, of, e, by have := o.size; omega, fun j hj => ?_⟩
    exact (o.cell (p := ⟨b, of + j, none⟩) hlt (fun hb => hA hn ⟨b, of, none⟩ e hb)).trans (hc j hj)⟩
def GivesZ (w : World) (l : List Int) (e : Ending) (w' : World) : Prop := ∃ A n c, e = .returned (.slice A n c) ∧ Zs w' A n c l ∧ Below w.heap.size w w'
/-- what package timer answers, in plain words: T g most l w X: at block g lie timers l with the cap most; their blocks are X -/
structure TmC (T : Nat → Int → List Tmr → World → (Nat → Prop) → Prop) : Prop where
  holds : ∀ g most l, Holds (T g most l)
  new_no : ∀ (r : Int) (w : World), I64 r → (r < 1 ∨ 64 < r) → Calls Try.prog 14 #[.int .i64 r] w fun e w' => e = .returned (.tuple #[.pointer none, .int .i64 1]) ∧ Below w.heap.size w w'
  new_yes : ∀ (most : Int) (w : World), 1 ≤ most → most ≤ 64 → Calls Try.prog 14 #[.int .i64 most] w fun e w' => ∃ g X, e = .returned (.tuple #[.pointer (some ⟨g, 0, none⟩), .int .i64 0]) ∧ T g most [] w' X ∧ (∀ k, X k → w.heap.size ≤ k) ∧ Below w.heap.size w w'
  set : ∀ (g : Nat) (most : Int) (l : List Tmr) (key : Int) (w : World) (X : Nat → Prop), T g most l w X → TmOk most l → I64 key → l.length < 1000 → Calls Try.prog 37 #[.pointer (some ⟨g, 0, none⟩), .int .i64 key] w fun e w' => e = .returned (.tuple #[]) ∧ ∃ X', T g most (tmSet l key) w' X' ∧ Turns X X' w w'
  clear : ∀ (g : Nat) (most : Int) (l : List Tmr) (key : Int) (w : World) (X : Nat → Prop), T g most l w X → TmOk most l → I64 key → l.length ≤ 1000 → Calls Try.prog 42 #[.pointer (some ⟨g, 0, none⟩), .int .i64 key] w fun e w' => e = .returned (.bool (tmIs l key)) ∧ ∃ X', T g most (tmClear l key) w' X' ∧ Turns X X' w w'
  tick : ∀ (g : Nat) (most : Int) (l : List Tmr) (w : World) (X : Nat → Prop), T g most l w X → TmOk most l → l.length ≤ 1000 → Calls Try.prog 21 #[.pointer (some ⟨g, 0, none⟩)] w fun e w' => ∃ A n c X', e = .returned (.slice A n c) ∧ Zs w' A n c (tmDue l) ∧ (0 < n → ∀ p, A = some p → X p.block ∨ w.heap.size ≤ p.block) ∧ T g most (tmTick most l) w' X' ∧ Turns X X' w w'
  keys : ∀ (g : Nat) (most : Int) (l : List Tmr) (w : World) (X : Nat → Prop), T g most l w X → TmOk most l → l.length ≤ 1000 → Calls Try.prog 29 #[.pointer (some ⟨g, 0, none⟩)] w (GivesZ w (tmKeys l))
  nset : ∀ (key : Int) (w : World), Calls Try.prog 37 #[.pointer none, .int .i64 key] w fun e w' => e = .returned (.tuple #[]) ∧ Below w.heap.size w w'
  nclear : ∀ (key : Int) (w : World), Calls Try.prog 42 #[.pointer none, .int .i64 key] w fun e w' => e = .returned (.bool false) ∧ Below w.heap.size w w'
  ntick : ∀ w : World, Calls Try.prog 21 #[.pointer none] w (GivesZ w [])
  nkeys : ∀ w : World, Calls Try.prog 29 #[.pointer none] w (GivesZ w [])
def liveL : Nat → List Tmr
  | 0 => [(7, 1, 1)]
  | k + 1 => tmTick 4 (liveL k)
def liveAt (k : Nat) : List Int := ([1, 3, 7, 11] : List Int).filter (fun x => decide (x ≤ (k : Int)))
theorem live_facts : ∀ k : Fin 11, (tmDue (liveL k)).length ≤ 1 ∧ ((tmDue (liveL k)).length = 1 → liveAt (k + 1) = liveAt k ++ [((k : Nat) : Int) + 1]) ∧ ((tmDue (liveL k)).length ≠ 1 → liveAt (k + 1) = liveAt k) := by decide
theorem liveL_ok : ∀ k, TmOk 4 (liveL k) ∧ (liveL k).length = 1
  | 0 => ⟨⟨⟨by omega, by omega⟩, List.pairwise_singleton _ _, fun t ht => by
      rw [show t = (7, 1, 1) from List.mem_singleton.1 ht]
      exact ⟨⟨by omega, by omega⟩, ⟨Int.le_refl 1, (by omega : (1 : Int) ≤ 64)⟩, ⟨Int.le_refl 1, (by omega : (1 : Int) ≤ 4)⟩⟩⟩, rfl⟩
  | k + 1 => ⟨tmTick_ok (liveL_ok k).1, by unfold liveL tmTick; rw [List.length_map]; exact (liveL_ok k).2⟩
theorem Zs.lit4 (w : World) : Zs (w.alloc (.cells #[.int .i64 1, .int .i64 3, .int .i64 7, .int .i64 11] 3)) (some ⟨w.heap.size, 0, none⟩) 4 4 [1, 3, 7, 11] :=
  ⟨rfl, Nat.le_refl _, by unfold maxLen; omega, fun _ => ⟨w.heap.size, 0, rfl, by simp, fun j hj => by
    match j, hj with
    | 0, _ => simp [zvs]
    | 1, _ => simp [zvs]
    | 2, _ => simp [zvs]
    | 3, _ => simp [zvs]⟩⟩
end Go.Proofs.Ytdkebneiikdohaa
