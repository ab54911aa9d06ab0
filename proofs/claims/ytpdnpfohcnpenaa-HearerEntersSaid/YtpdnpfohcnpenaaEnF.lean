/- Plain facts of how often messages were told (of the tally's rows), and of the states that layer 21's HearerEnters runs through. -/
import Derived.Test.YtpdnpfohcnpenaaHeD
namespace Go.Proofs.Ytpdnpfohcnpenaa
open Go.RowKit
set_option maxRecDepth 20000

theorem alCount_cons (t : Tal) (l : List Tal) (a : Int) (d : List UInt8) : alCount (t :: l) a d = if t.1 = a ∧ t.2.1 = d then t.2.2 else alCount l a d := by
  unfold alCount
  by_cases h : t.1 = a ∧ t.2.1 = d
  · rw [if_pos h, show alAt (t :: l) a d = 0 by unfold alAt; rw [if_pos h]]
    rfl
  · rw [if_neg h, show alAt (t :: l) a d = alAt l a d + 1 by rw [alAt]; rw [if_neg h]]
    rfl
theorem alAdd_cons (t : Tal) (l : List Tal) (a : Int) (d : List UInt8) : alAdd (t :: l) a d = if t.1 = a ∧ t.2.1 = d then (a, d, t.2.2 + 1) :: l else t :: alAdd l a d := by
  by_cases h : t.1 = a ∧ t.2.1 = d
  · rw [if_pos h]
    unfold alAdd
    rw [show alAt (t :: l) a d = 0 by unfold alAt; rw [if_pos h], alCount_cons, if_pos h, if_pos (by simp)]
    rfl
  · rw [if_neg h]
    unfold alAdd
    rw [show alAt (t :: l) a d = alAt l a d + 1 by rw [alAt]; rw [if_neg h], alCount_cons, if_neg h]
    by_cases h2 : alAt l a d < l.length
    · rw [if_pos h2, if_pos (by simp; exact h2)]
      rfl
    · rw [if_neg h2, if_neg (by simp; omega)]
      rfl
theorem alCount_add (l : List Tal) (a : Int) (d : List UInt8) (b : Int) (e : List UInt8) : alCount (alAdd l a d) b e = if a = b ∧ d = e then alCount l a d + 1 else alCount l b e := by
  induction l with
  | nil =>
    show alCount [(a, d, 1)] b e = _
    rw [alCount_cons]
    rfl
  | cons t l ih =>
    rw [alAdd_cons]
    by_cases h : t.1 = a ∧ t.2.1 = d
    · rw [if_pos h, alCount_cons, alCount_cons, alCount_cons, if_pos h]
      by_cases h2 : a = b ∧ d = e
      · rw [if_pos h2, if_pos h2]
      · rw [if_neg h2, if_neg h2, if_neg (fun h3 => h2 ⟨h.1.symm.trans h3.1, h.2.symm.trans h3.2⟩)]
    · rw [if_neg h, alCount_cons, alCount_cons, alCount_cons, if_neg h, ih]
      by_cases h2 : a = b ∧ d = e
      · rw [if_pos h2, if_pos h2, if_neg (fun h3 => h ⟨h3.1.trans h2.1.symm, h3.2.trans h2.2.symm⟩)]
      · rw [if_neg h2, if_neg h2]
theorem alAdd_mem (l : List Tal) (a : Int) (d : List UInt8) (t : Tal) (h : t ∈ alAdd l a d) : t ∈ l ∨ t = (a, d, alCount l a d + 1) := by
  unfold alAdd at h
  split at h
  · rcases List.mem_or_eq_of_mem_set h with h | h
    · exact .inl h
    · exact .inr h
  · rename_i h2
    rcases List.mem_append.1 h with h | h
    · exact .inl h
    · rw [List.mem_singleton] at h
      rw [alCount_new l a d h2]
      exact .inr h
theorem alAdd_new_mem (l : List Tal) (a : Int) (d : List UInt8) : (a, d, alCount l a d + 1) ∈ alAdd l a d := by
  induction l with
  | nil => exact List.mem_singleton.2 rfl
  | cons t l ih =>
    rw [alAdd_cons, alCount_cons]
    split
    · exact List.mem_cons_self
    · exact List.mem_cons_of_mem _ ih
theorem alAdd_len (l : List Tal) (a : Int) (d : List UInt8) : (alAdd l a d).length ≤ l.length + 1 := by
  unfold alAdd
  split <;> simp
theorem alCount_none (l : List Tal) (a : Int) (d : List UInt8) (h : ∀ t ∈ l, t.2.1 ≠ d) : alCount l a d = 0 := by
  induction l with
  | nil => rfl
  | cons t l ih =>
    rw [alCount_cons, if_neg (fun e => h t List.mem_cons_self e.2)]
    exact ih (fun t ht => h t (List.mem_cons_of_mem _ ht))
theorem best_le_from (l : List Tal) (a : Int) (j : Nat) (h : ∀ t ∈ l, t.2.2 ≤ j) : ∀ b : List UInt8 × Nat, b.2 ≤ j → (l.foldl (fun b t => if t.1 = a ∧ b.2 < t.2.2 then t.2 else b) b).2 ≤ j := by
  induction l with
  | nil => exact fun b hb => hb
  | cons t l ih =>
    intro b hb
    rw [List.foldl_cons]
    refine ih (fun t ht => h t (List.mem_cons_of_mem _ ht)) _ ?_
    split
    · exact h t List.mem_cons_self
    · exact hb
theorem alBest_le (l : List Tal) (a : Int) (j : Nat) (h : ∀ t ∈ l, t.2.2 ≤ j) : (alBest l a).2 ≤ j := best_le_from l a j h _ (Nat.zero_le _)
/-- the one that was told most often -/
theorem best_top_from (l : List Tal) (a : Int) (j : Nat) (m : List UInt8) (h : ∀ t ∈ l, t.2.2 ≤ j ∨ t = (a, m, j + 1)) : ∀ b : List UInt8 × Nat, (b.2 ≤ j ∧ (a, m, j + 1) ∈ l) ∨ b = (m, j + 1) → l.foldl (fun b t => if t.1 = a ∧ b.2 < t.2.2 then t.2 else b) b = (m, j + 1) := by
  induction l with
  | nil =>
    intro b hb
    rcases hb with hb | hb
    · cases hb.2
    · exact hb
  | cons t l ih =>
    intro b hb
    rw [List.foldl_cons]
    refine ih (fun t ht => h t (List.mem_cons_of_mem _ ht)) _ ?_
    by_cases ht : t = (a, m, j + 1)
    · subst ht
      right
      rcases hb with hb | hb
      · rw [if_pos ⟨rfl, by show b.2 < j + 1; omega⟩]
      · subst hb
        rw [if_neg (fun e => absurd e.2 (Nat.lt_irrefl _))]
    · have h1 : t.2.2 ≤ j := (h t List.mem_cons_self).resolve_right ht
      rcases hb with hb | hb
      · left
        refine ⟨?_, (List.mem_cons.1 hb.2).resolve_left (fun e => ht e.symm)⟩
        split
        · exact h1
        · exact hb.1
      · right
        subst hb
        rw [if_neg (fun e => by have := e.2; simp only at this; omega)]
theorem alBest_top (l : List Tal) (a : Int) (j : Nat) (m : List UInt8) (h : ∀ t ∈ l, t.2.2 ≤ j ∨ t = (a, m, j + 1)) (hm : (a, m, j + 1) ∈ l) : alBest l a = (m, j + 1) := best_top_from l a j m h _ (.inl ⟨Nat.zero_le _, hm⟩)
/-- the state behind 60 questions and u answers of which none let a message enter -/
def eS (bg u : Nat) (al : List Tal) : Hs := ⟨2, [], bg + 60 - u, bg, al, 0, 0⟩
def eT (bg j : Nat) : Hs := ⟨2, [], bg + j, bg, [], 0, 0⟩
def eM (bg u : Nat) (m : List UInt8) : Hs := ⟨2, [m], bg + 60 - u, bg + 60 - u, [], 1, 0⟩
def ERows (bg u : Nat) (al : List Tal) : Prop := al.length ≤ u ∧ ∀ t ∈ al, t.2.2 ≤ bg ∧ t.2.1.length ≤ 64
theorem lds_no {o : Nat} (h : o < 18446744073709551615) : ldS o = false := by unfold ldS; simp; omega
theorem ldcan_yes {o : Nat} (h : o < 18446744073709551615) (h0 : 0 < o) : ldCan o = true := by unfold ldCan; simp; omega
theorem ldhear_yes {o : Nat} (h : o < 18446744073709551615) (h0 : 0 < o) : ldHear o = o - 1 := by unfold ldHear; rw [if_pos (ldcan_yes h h0)]
theorem eT_tick (bg j : Nat) (hb : bg ≤ 20) (hj : j < 60) : heTick (eT bg j) = eT bg (j + 1) ∧ heTickL (eT bg j) = [(0, 0, [])] := by
  have e : ldS (bg + j) = false := lds_no (by omega)
  refine ⟨?_, by unfold heTickL; rw [if_neg (by rw [show ldS (eT bg j).o = false from e]; simp)]⟩
  show Hs.mk 2 [] (ldAsk (bg + j)) bg [] 0 0 = _
  unfold ldAsk
  rw [e]
  rfl
theorem eT_ok (bg j : Nat) (hb : bg ≤ 20) (hj : j ≤ 60) : HeOk (eT bg j) := ⟨⟨by show 1 ≤ 2; omega, by show 2 ≤ 16; omega, Nat.zero_le _, fun m hm => by cases hm⟩, by show bg + j < _; omega, by show bg < _; omega, ⟨Nat.zero_le _, fun t ht => by cases ht⟩, Nat.zero_le _, Nat.zero_le _⟩
theorem eS_ok {bg u : Nat} {al : List Tal} (hb : bg ≤ 20) (hu : u ≤ 70) (hr : ERows bg u al) : HeOk (eS bg u al) := ⟨⟨by show 1 ≤ 2; omega, by show 2 ≤ 16; omega, Nat.zero_le _, fun m hm => by cases hm⟩, by show bg + 60 - u < _; omega, by show bg < _; omega, ⟨by show al.length ≤ _; have := hr.1; omega, fun t ht => by have := hr.2 t ht; omega⟩, Nat.zero_le _, Nat.zero_le _⟩
theorem eM_ok {bg u : Nat} {m : List UInt8} (hb : bg ≤ 20) (hm : m.length ≤ 64) : HeOk (eM bg u m) := ⟨⟨by show 1 ≤ 2; omega, by show 2 ≤ 16; omega, by show 1 ≤ 2; omega, fun t ht => by rw [List.mem_singleton.1 (show t ∈ [m] from ht)]; exact hm⟩, by show bg + 60 - u < _; omega, by show bg + 60 - u < _; omega, ⟨Nat.zero_le _, fun t ht => by cases ht⟩, by show 1 ≤ _; omega, Nat.zero_le _⟩
theorem eS_one (bg u : Nat) (al : List Tal) (d : List UInt8) (hb : bg ≤ 20) (hu : u < bg + 60) : heTake (eS bg u al) 3 1 d = eS bg (u + 1) al := by
  unfold heTake
  rw [if_neg (by omega), if_pos rfl]
  unfold heData
  rw [if_neg (fun e => absurd e.2 (by show ¬ (1 : Int) = ((0 % 2 : Nat) : Int); decide))]
  show Hs.mk 2 [] (ldHear (bg + 60 - u)) bg al 0 0 = _
  rw [ldhear_yes (by omega) (by omega)]
  show _ = Hs.mk 2 [] (bg + 60 - (u + 1)) bg al 0 0
  congr 1
theorem eS_data (bg u : Nat) (al : List Tal) (d : List UInt8) (hb : bg ≤ 20) (hu : u < bg + 60) : heTake (eS bg u al) 3 0 d = heEnter (eS bg (u + 1) (alAdd al 0 d)) := by
  unfold heTake
  rw [if_neg (by omega), if_pos rfl]
  unfold heData
  rw [if_pos ⟨ldcan_yes (show bg + 60 - u < 18446744073709551615 by omega) (show 0 < bg + 60 - u by omega), rfl⟩]
  show heEnter (Hs.mk 2 [] (ldHear (bg + 60 - u)) bg (alAdd al 0 d) 0 0) = _
  rw [ldhear_yes (by omega) (by omega)]
  rfl
theorem eS_add (bg u : Nat) (al : List Tal) (d : List UInt8) (hb : bg ≤ 20) (hu : u < bg + 60) (hr : ERows bg u al) (hd : d.length ≤ 64) (hc : alCount al 0 d < bg) : heTake (eS bg u al) 3 0 d = eS bg (u + 1) (alAdd al 0 d) ∧ ERows bg (u + 1) (alAdd al 0 d) := by
  have hr2 : ERows bg (u + 1) (alAdd al 0 d) := ⟨Nat.le_trans (alAdd_len al 0 d) (by have := hr.1; omega), fun t ht => by
    rcases alAdd_mem al 0 d t ht with h | h
    · exact hr.2 t h
    · subst h
      exact ⟨hc, hd⟩⟩
  refine ⟨?_, hr2⟩
  rw [eS_data bg u al d hb hu]
  unfold heEnter
  rw [if_neg]
  intro h
  have h1 := h.2.2.1
  have h2 := alBest_le (alAdd al 0 d) 0 bg (fun t ht => (hr2.2 t ht).1)
  have h3 : ldEnough (bg + 60 - (u + 1)) bg (alBest (alAdd al 0 d) 0).2 = true := h1
  unfold ldEnough at h3
  simp at h3
  omega
theorem eS_enter (bg u : Nat) (al : List Tal) (m : List UInt8) (hb : bg ≤ 20) (hu : u < bg + 60) (hr : ERows bg u al) (hm : m.length ≤ 64) (hc : alCount al 0 m = bg) : heTake (eS bg u al) 3 0 m = eM bg (u + 1) m := by
  have hbest : alBest (alAdd al 0 m) 0 = (m, bg + 1) := by
    refine alBest_top _ _ _ _ (fun t ht => ?_) (hc ▸ alAdd_new_mem al 0 m)
    rcases alAdd_mem al 0 m t ht with h | h
    · exact .inl (hr.2 t h).1
    · rw [hc] at h
      exact .inr h
  rw [eS_data bg u al m hb hu]
  have hb2 : heBest (eS bg (u + 1) (alAdd al 0 m)) = (m, bg + 1) := hbest
  unfold heEnter
  rw [if_pos]
  · rw [hb2]
    show Hs.mk 2 [m] (bg + 60 - (u + 1)) (ldMark (bg + 60 - (u + 1)) bg) [] 1 0 = _
    unfold ldMark
    rw [lds_no (by omega)]
    rfl
  · unfold heMay
    rw [hb2]
    refine ⟨Nat.zero_lt_two, Nat.succ_ne_zero _, ?_, hm⟩
    show ldEnough (bg + 60 - (u + 1)) bg (bg + 1) = true
    unfold ldEnough
    simp
    omega
theorem eM_recv (bg u : Nat) (m : List UInt8) : heRecv (eM bg u m) = { eM bg u m with ls := [], ret := 1 } := by
  unfold heRecv
  rw [if_neg (show (eM bg u m).ls ≠ [] from List.cons_ne_nil _ _)]
  unfold heEnter
  rw [if_neg (fun h => h.2.1 rfl)]
  rfl
end Go.Proofs.Ytpdnpfohcnpenaa
