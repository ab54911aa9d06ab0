/- A tally in plain words; a row of structs of one's own whose middle cell is a text: read, append, a count stored. Nothing of the program's own functions is in here. -/
import Derived.Test.YtpdnpfohcnpenaaObj
namespace Go.Proofs.Ytpdnpfohcnpenaa
open Go.RowKit
set_option maxRecDepth 20000

abbrev Tal := Int × List UInt8 × Nat
def alAt : List Tal → Int → List UInt8 → Nat
  | [], _, _ => 0
  | t :: l, a, d => if t.1 = a ∧ t.2.1 = d then 0 else alAt l a d + 1
theorem alAt_le (l : List Tal) (a : Int) (d : List UInt8) : alAt l a d ≤ l.length := by
  induction l with
  | nil => simp [alAt]
  | cons t l ih =>
    unfold alAt
    split
    · exact Nat.zero_le _
    · simp; omega
theorem alAt_lt (l : List Tal) (a : Int) (d : List UInt8) : ∀ i, i < alAt l a d → ∀ h : i < l.length, ¬ (l[i].1 = a ∧ l[i].2.1 = d) := by
  induction l with
  | nil => intro i _ h; simp at h
  | cons t l ih =>
    intro i hi h
    unfold alAt at hi
    split at hi
    · omega
    · rename_i hne
      match i, h with
      | 0, _ => simpa using hne
      | i + 1, h => simpa using ih i (by omega) (by simp at h; omega)
theorem alAt_hit (l : List Tal) (a : Int) (d : List UInt8) (h : alAt l a d < l.length) : l[alAt l a d].1 = a ∧ l[alAt l a d].2.1 = d := by
  induction l with
  | nil => simp at h
  | cons t l ih =>
    by_cases hk : t.1 = a ∧ t.2.1 = d
    · have e : alAt (t :: l) a d = 0 := by unfold alAt; rw [if_pos hk]
      simp [e]; exact hk
    · have e : alAt (t :: l) a d = alAt l a d + 1 := by unfold alAt; rw [if_neg hk]; cases l <;> rfl
      simp only [e] at h ⊢
      simpa using ih (by simp at h; omega)
theorem alAt_unique (l : List Tal) (a : Int) (d : List UInt8) (i : Nat) (hi : i ≤ l.length) (h1 : ∀ j, j < i → ∀ h : j < l.length, ¬ (l[j].1 = a ∧ l[j].2.1 = d)) (h2 : ∀ h : i < l.length, l[i].1 = a ∧ l[i].2.1 = d) : alAt l a d = i := by
  have b := alAt_le l a d
  rcases Nat.lt_trichotomy (alAt l a d) i with h | h | h
  · exact absurd (alAt_hit l a d (by omega)) (h1 _ h (by omega))
  · exact h
  · exact absurd (h2 (by omega)) (alAt_lt l a d i h (by omega))
/-- how often it was told; the rows behind it is told once more; the best of a label -/
def alCount (l : List Tal) (a : Int) (d : List UInt8) : Nat := match l[alAt l a d]? with | some t => t.2.2 | none => 0
def alAdd (l : List Tal) (a : Int) (d : List UInt8) : List Tal := if alAt l a d < l.length then l.set (alAt l a d) (a, d, alCount l a d + 1) else l ++ [(a, d, 1)]
def alBest (l : List Tal) (a : Int) : List UInt8 × Nat := l.foldl (fun b t => if t.1 = a ∧ b.2 < t.2.2 then t.2 else b) ([], 0)
theorem alBest_step (l : List Tal) (a : Int) (k : Nat) (hk : k < l.length) : alBest (l.take (k + 1)) a = if l[k].1 = a ∧ (alBest (l.take k) a).2 < l[k].2.2 then l[k].2 else alBest (l.take k) a := by
  unfold alBest
  rw [List.take_succ_eq_append_getElem hk, List.foldl_append]
  rfl
theorem alCount_found (l : List Tal) (a : Int) (d : List UInt8) (h : alAt l a d < l.length) : alCount l a d = l[alAt l a d].2.2 := by
  unfold alCount; rw [List.getElem?_eq_getElem h]
theorem alCount_new (l : List Tal) (a : Int) (d : List UInt8) (h : ¬ alAt l a d < l.length) : alCount l a d = 0 := by
  unfold alCount; rw [List.getElem?_eq_none (by omega)]
theorem alAdd_found (l : List Tal) (a : Int) (d : List UInt8) (h : alAt l a d < l.length) : alAdd l a d = l.set (alAt l a d) (l[alAt l a d].1, l[alAt l a d].2.1, l[alAt l a d].2.2 + 1) := by
  obtain ⟨h1, h2⟩ := alAt_hit l a d h
  unfold alAdd
  rw [if_pos h, alCount_found l a d h, h1, h2]
theorem alAdd_new (l : List Tal) (a : Int) (d : List UInt8) (h : ¬ alAt l a d < l.length) : alAdd l a d = l ++ [(a, d, 1)] := by
  unfold alAdd; rw [if_neg h]
def AlOk (l : List Tal) : Prop := l.length ≤ 1000 ∧ ∀ t ∈ l, t.2.2 ≤ 1000000 ∧ t.2.1.length ≤ 140737488355328
theorem alAdd_ok {l : List Tal} {a : Int} {d : List UInt8} (h : AlOk l) (hl : l.length < 1000) (hc : alCount l a d < 1000000) (hd : d.length ≤ 140737488355328) : AlOk (alAdd l a d) := by
  by_cases hf : alAt l a d < l.length
  · rw [alAdd_found l a d hf]
    rw [alCount_found l a d hf] at hc
    refine ⟨by rw [List.length_set]; exact h.1, fun t ht => ?_⟩
    rcases List.mem_or_eq_of_mem_set ht with h1 | h1
    · exact h.2 t h1
    · subst h1
      exact ⟨hc, (h.2 _ (List.getElem_mem hf)).2⟩
  · rw [alAdd_new l a d hf]
    refine ⟨by simp; omega, fun t ht => ?_⟩
    rcases List.mem_append.1 ht with h1 | h1
    · exact h.2 t h1
    · rw [List.mem_singleton.1 h1]
      exact ⟨(by omega : 1 ≤ 1000000), hd⟩
/-- three cells a row: the label, the text, the count -/
abbrev Tam := Int × Value × Nat
def mvs (l : List Tam) : List Value := l.flatMap fun t => [.int .i64 t.1, t.2.1, .int .u64 (t.2.2 : Int)]
theorem mvs_append (l m : List Tam) : mvs (l ++ m) = mvs l ++ mvs m := by simp [mvs]
theorem mvs_len (l : List Tam) : (mvs l).length = l.length * 3 := by
  induction l with
  | nil => rfl
  | cons t l ih =>
    have : mvs (t :: l) = [.int .i64 t.1, t.2.1, .int .u64 (t.2.2 : Int)] ++ mvs l := by simp [mvs]
    rw [this]; simp; omega
def mld (t : Tam) (r : Nat) : Value := if r = 0 then .int .i64 t.1 else if r = 1 then t.2.1 else .int .u64 (t.2.2 : Int)
theorem mvs_at (l : List Tam) (j r : Nat) (hj : j < l.length) (hr : r < 3) : (mvs l)[j * 3 + r]? = some (mld l[j] r) := by
  induction l generalizing j with
  | nil => simp at hj
  | cons t l ih =>
    have e : mvs (t :: l) = [.int .i64 t.1, t.2.1, .int .u64 (t.2.2 : Int)] ++ mvs l := by simp [mvs]
    rw [e]
    match j, hj with
    | 0, _ =>
      match r, hr with
      | 0, _ => simp [mld]
      | 1, _ => simp [mld]
      | 2, _ => simp [mld]
    | j + 1, hj =>
      rw [List.getElem?_append_right (by simp; omega)]
      have := ih j (by simp at hj; omega)
      rw [show (j + 1) * 3 + r - [Value.int .i64 t.1, t.2.1, .int .u64 (t.2.2 : Int)].length = j * 3 + r by simp; omega]
      simpa using this
theorem mvs_set (l : List Tam) (j : Nat) (hj : j < l.length) (k : Nat) : (mvs l).set (j * 3 + 2) (.int .u64 (k : Int)) = mvs (l.set j (l[j].1, l[j].2.1, k)) := by
  apply List.ext_getElem?
  intro i
  by_cases hi : i < l.length * 3
  · obtain ⟨p, q, rfl, hq⟩ : ∃ p q, i = p * 3 + q ∧ q < 3 := ⟨i / 3, i % 3, by omega, by omega⟩
    have hp : p < l.length := by omega
    rw [mvs_at (l.set j (l[j].1, l[j].2.1, k)) p q (by simpa using hp) hq]
    by_cases e : p = j
    · subst e
      by_cases e2 : q = 2
      · subst e2
        rw [List.getElem?_set_self (by rw [mvs_len]; omega)]
        simp [mld]
      · rw [List.getElem?_set_ne (by omega), mvs_at l p q hp hq]
        have : q = 0 ∨ q = 1 := by omega
        rcases this with rfl | rfl <;> simp [mld]
    · rw [List.getElem?_set_ne (by omega), mvs_at l p q hp hq]
      simp [Ne.symm e]
  · rw [List.getElem?_eq_none (by simp [mvs_len]; omega), List.getElem?_eq_none (by rw [mvs_len]; simp; omega)]
def Rrow (w : World) (Y : Nat → Prop) (m : Tam) (t : Tal) : Prop := m.1 = t.1 ∧ m.2.2 = t.2.2 ∧ ∃ A d, m.2.1 = .slice A t.2.1.length d ∧ Bys w A t.2.1.length d t.2.1 ∧ Av Y t.2.1.length A
def Rrows (w : World) (Y : Nat → Prop) (ms : List Tam) (l : List Tal) : Prop := ms.length = l.length ∧ ∀ j (h : j < ms.length) (h' : j < l.length), Rrow w Y ms[j] l[j]
theorem Rrow.imp {w : World} {Y Y' : Nat → Prop} {m : Tam} {t : Tal} (h : Rrow w Y m t) (hY : ∀ k, k < w.heap.size → Y' k → Y k) : Rrow w Y' m t := by
  obtain ⟨h1, h2, A, d, h3, h4, h5⟩ := h
  refine ⟨h1, h2, A, d, h3, h4, fun hn p e hy => ?_⟩
  obtain ⟨b, o, e', hb, _⟩ := h4.at_ hn
  rw [e] at e'
  injection e' with e'
  subst e'
  exact h5 hn _ e (hY _ hb hy)
theorem Rrow.off {X Y : Nat → Prop} {w w' : World} {m : Tam} {t : Tal} (h : Rrow w Y m t) (o : Off X w w') (hX : ∀ k, k < w.heap.size → X k → Y k) : Rrow w' Y m t := by
  obtain ⟨h1, h2, A, d, h3, h4, h5⟩ := h
  refine ⟨h1, h2, A, d, h3, h4.off (fun hn p e hx => ?_) o, h5⟩
  obtain ⟨b, o', e', hb, _⟩ := h4.at_ hn
  rw [e] at e'
  injection e' with e'
  subst e'
  exact h5 hn _ e (hX _ hb hx)
theorem Rrows.imp {w : World} {Y Y' : Nat → Prop} {ms : List Tam} {l : List Tal} (h : Rrows w Y ms l) (hY : ∀ k, k < w.heap.size → Y' k → Y k) : Rrows w Y' ms l := ⟨h.1, fun j h1 h2 => (h.2 j h1 h2).imp hY⟩
theorem Rrows.off {X Y : Nat → Prop} {w w' : World} {ms : List Tam} {l : List Tal} (h : Rrows w Y ms l) (o : Off X w w') (hX : ∀ k, k < w.heap.size → X k → Y k) : Rrows w' Y ms l := ⟨h.1, fun j h1 h2 => (h.2 j h1 h2).off o hX⟩
theorem Rrows.nil (w : World) (Y : Nat → Prop) : Rrows w Y [] [] := ⟨rfl, fun j h => absurd h (by simp)⟩
theorem Rrows.snoc {w : World} {Y : Nat → Prop} {ms : List Tam} {l : List Tal} {m : Tam} {t : Tal} (h : Rrows w Y ms l) (k : Rrow w Y m t) : Rrows w Y (ms ++ [m]) (l ++ [t]) := by
  refine ⟨by simp [h.1], fun j h1 h2 => ?_⟩
  have hl := h.1
  rcases Nat.lt_or_ge j ms.length with hj | hj
  · rw [List.getElem_append_left hj, List.getElem_append_left (by omega)]
    exact h.2 j hj (by omega)
  · have hj1 : j = ms.length := by simp at h1; omega
    subst hj1
    simpa [h.1] using k
theorem Rrows.set {w : World} {Y : Nat → Prop} {ms : List Tam} {l : List Tal} (h : Rrows w Y ms l) (j : Nat) (hj : j < ms.length) (hj' : j < l.length) (k : Nat) : Rrows w Y (ms.set j (ms[j].1, ms[j].2.1, k)) (l.set j (l[j].1, l[j].2.1, k)) := by
  refine ⟨by simp [h.1], fun i h1 h2 => ?_⟩
  by_cases e : i = j
  · subst e
    simp only [List.getElem_set_self]
    obtain ⟨k1, k2, A, d, k3⟩ := h.2 i hj hj'
    exact ⟨k1, rfl, A, d, k3⟩
  · rw [List.getElem_set_ne (Ne.symm e), List.getElem_set_ne (Ne.symm e)]
    exact h.2 i (by simpa using h1) (by simpa using h2)
/-- rows in blocks of one's own, from B on; no text of them lies at a block of Z -/
def OwnA (w : World) (B : Nat) (Z : Nat → Prop) (v : Value) (l : List Tal) : Prop := ∃ ms, w.ownsRow B 101 3 v l.length (mvs ms) ∧ Rrows w (fun k => Z k ∨ v.ownBlock = some k) ms l
theorem OwnA.nil (w : World) (B : Nat) (Z : Nat → Prop) : OwnA w B Z (.slice none 0 0) [] := ⟨[], ⟨rfl, .inl ⟨rfl, rfl⟩⟩, Rrows.nil _ _⟩
theorem OwnA.lt {w : World} {B : Nat} {Z : Nat → Prop} {v : Value} {l : List Tal} (h : OwnA w B Z v l) (k : Nat) (hk : v.ownBlock = some k) : B ≤ k ∧ k < w.heap.size := by
  obtain ⟨ms, h1, _⟩ := h
  exact h1.lt k hk
theorem OwnA.off {X Z : Nat → Prop} {w w' : World} {B : Nat} {v : Value} {l : List Tal} (h : OwnA w B Z v l) (o : Off X w w') (hX : ∀ k, k < w.heap.size → X k → Z k) (hv : ∀ k, v.ownBlock = some k → ¬ X k) : OwnA w' B Z v l := by
  obtain ⟨ms, h1, h2⟩ := h
  refine ⟨ms, ⟨h1.1, ?_⟩, h2.off o (fun k hk hx => .inl (hX k hk hx))⟩
  rcases h1.2 with h3 | ⟨g, cap, cur, rfl, hg, hh, r⟩
  · exact Or.inl h3
  · refine Or.inr ⟨g, cap, cur, rfl, hg, ?_, r⟩
    rw [o.block g (lt_of_block hh) (hv g rfl)]
    exact hh
theorem OwnA.below {Z : Nat → Prop} {w w' : World} {B : Nat} {v : Value} {l : List Tal} (h : OwnA w B Z v l) (T : Below w.heap.size w w') : OwnA w' B Z v l := h.off (X := fun _ => False) (Off.of_below T) (fun _ _ h => h.elim) (fun _ _ h => h)
theorem OwnA.imp {w : World} {B : Nat} {Z Z' : Nat → Prop} {v : Value} {l : List Tal} (h : OwnA w B Z v l) (hZ : ∀ k, k < w.heap.size → Z' k → Z k) : OwnA w B Z' v l := by
  obtain ⟨ms, h1, h2⟩ := h
  exact ⟨ms, h1, h2.imp (fun k hk hx => hx.elim (fun h => .inl (hZ k hk h)) .inr)⟩
theorem OwnA.down {w : World} {B B' : Nat} {Z : Nat → Prop} {v : Value} {l : List Tal} (h : OwnA w B Z v l) (hB : B' ≤ B) : OwnA w B' Z v l := by
  obtain ⟨ms, h1, h2⟩ := h
  exact ⟨ms, h1.mono hB, h2⟩
/-- the rows as a slice that reads -/
theorem OwnA.shape {w : World} {B : Nat} {Z : Nat → Prop} {v : Value} {l : List Tal} (h : OwnA w B Z v l) : ∃ P c, v = .slice P l.length c ∧ l.length ≤ c ∧ c ≤ maxLen ∧ (0 < l.length → ∃ b, P = some ⟨b, 0, none⟩ ∧ v.ownBlock = some b ∧ b < w.heap.size ∧ (∀ r, w.frozen? ⟨b, r, none⟩ = false) ∧
      ∀ j (h : j < l.length), ∃ A d, w.cell? ⟨b, j * 3, none⟩ = some (.int .i64 l[j].1) ∧ w.cell? ⟨b, j * 3 + 1, none⟩ = some (.slice A l[j].2.1.length d) ∧ w.cell? ⟨b, j * 3 + 2, none⟩ = some (.int .u64 (l[j].2.2 : Int)) ∧ Bys w A l[j].2.1.length d l[j].2.1 ∧ Av (fun k => Z k ∨ k = b) l[j].2.1.length A) := by
  obtain ⟨ms, h1, h2⟩ := h
  rcases h1.2 with ⟨hv, hn⟩ | ⟨g, cap, cur, hv, hg, hh, hnc, hcm, hcs, ht⟩
  · have : l = [] := List.eq_nil_of_length_eq_zero hn
    subst this
    exact ⟨none, 0, hv, Nat.le_refl _, Nat.zero_le _, fun h => absurd h (by simp)⟩
  · subst hv
    refine ⟨_, _, rfl, hnc, hcm, fun _ => ⟨g, rfl, rfl, lt_of_block hh, fun r => World.ownsRow.frozenAt h1 r, fun j hj => ?_⟩⟩
    have hjm : j < ms.length := by rw [h2.1]; exact hj
    have c := fun r (hr : r < 3) => (World.ownsRow.cellAt h1 (j * 3 + r) (by omega)).trans (mvs_at ms j r hjm hr)
    have c0 := c 0 (by omega)
    have c1 := c 1 (by omega)
    have c2 := c 2 (by omega)
    obtain ⟨e1, e2, A, d, e3, e4, e5⟩ := h2.2 j hjm hj
    have c0 : w.cell? ⟨g, j * 3, none⟩ = some (.int .i64 ms[j].1) := by simpa [mld] using c0
    have c1 : w.cell? ⟨g, j * 3 + 1, none⟩ = some ms[j].2.1 := by simpa [mld] using c1
    have c2 : w.cell? ⟨g, j * 3 + 2, none⟩ = some (.int .u64 (ms[j].2.2 : Int)) := by simpa [mld] using c2
    rw [e1] at c0
    rw [e3] at c1
    rw [e2] at c2
    exact ⟨A, d, c0, c1, c2, e4, e5.imp (fun k hk => hk.imp id (fun e => by rw [e]; rfl))⟩
theorem Try.infoA : (Try.prog.info? 101).map (fun i => (i.zero, i.size, i.bytes)) = some (some (.agg #[.int .i64 0, .slice none 0 0, .int .u64 0]), 3, 40) := by kernel_rfl
/-- append of one row that a literal holds -/
theorem run_append_a (w : World) (B : Nat) (Z : Nat → Prop) (v : Value) (l : List Tal) (hown : OwnA w B Z v l) (Z' : Nat → Prop) (g : Nat) (a : Int) (A : Option Addr) (n d : Nat) (t : List UInt8) (k : Nat)
    (hg : w.heap[g]? = some (.cells #[.int .i64 a, .slice A n d, .int .u64 (k : Int)] 101 (0, 0))) (hB : Bys w A n d t) (hA : Av Z' n A)
    (hlen : l.length + 1 ≤ 1099511627776) (hbase : B ≤ w.heap.size) (hZ : ∀ k, k < w.heap.size → Z k → Z' k) (hv' : ∀ k, v.ownBlock = some k → Z' k) (ty : TypeId) :
    ∃ v' w', (Builtin.append_ #[74, 74] ty #[v, .slice (some ⟨g, 0, none⟩) 1 1]).run Try.prog w = .ok v' w' ∧ OwnA w' B Z v' (l ++ [(a, t, k)]) ∧ w.grownBy w' v.ownBlock ∧ (v'.ownBlock = v.ownBlock ∨ v'.ownBlock = some w.heap.size) := by
  obtain ⟨i0, hi, hz0, hz1, hz2⟩ := info_parts Try.infoA
  obtain ⟨ms, hown, hms⟩ := hown
  obtain rfl : t.length = n := hB.len
  have hcells : ∀ j u, (mvs [(a, .slice A t.length d, k)])[j]? = some u → w.cell? ((⟨g, 0, none⟩ : Addr).add j) = some u := by
    intro j u hu
    have e : (⟨g, 0, none⟩ : Addr).add j = ⟨g, j, none⟩ := by unfold Addr.add; split <;> simp_all
    rw [e, cell_of_row _ _ _ _ _ _ hg]
    simpa [mvs] using hu
  obtain ⟨v', w', hrun, h2, h3, _, h5⟩ := run_append_own_at (P := Try.prog) w B 74 ty 101 i0 (.agg #[.int .i64 0, .slice none 0 0, .int .u64 0]) 3 40 Try.underlying74 hi hz0 hz1 hz2 rfl (by decide) v l.length (mvs ms) hown _ 1 1 (mvs [(a, .slice A t.length d, k)]) rfl hcells (by intro u hu; simp [mvs] at hu; rcases hu with rfl | rfl | rfl <;> rfl) (by unfold maxLen; omega) (by omega) hbase
  refine ⟨v', w', hrun, ⟨ms ++ [(a, .slice A t.length d, k)], by rw [List.length_append, mvs_append]; exact h2, ?_⟩, h3, h5⟩
  have o : Off (fun k => v.ownBlock = some k) w w' := (Off.refl _ w).grown h3 (fun k hk => .inl hk)
  have key : Rrows w (fun j => (Z j ∧ j < w.heap.size) ∨ v.ownBlock = some j ∨ v'.ownBlock = some j) (ms ++ [(a, .slice A t.length d, k)]) (l ++ [(a, t, k)]) := by
    refine (hms.imp (fun j hj hy => ?_)).snoc ⟨rfl, rfl, A, d, rfl, hB, fun hn p e hy => ?_⟩
    · rcases hy with hy | hy | hy
      · exact .inl hy.1
      · exact .inr hy
      · rcases h5 with h | h
        · exact .inr (h ▸ hy)
        · rw [h] at hy; injection hy with hy; omega
    · obtain ⟨b, o', e', hb, _⟩ := hB.at_ hn
      rw [e] at e'
      injection e' with e'
      subst e'
      rcases hy with hy | hy | hy
      · exact hA hn _ e (hZ _ hb hy.1)
      · exact hA hn _ e (hv' _ hy)
      · rcases h5 with h | h
        · exact hA hn _ e (hv' _ (h ▸ hy))
        · rw [h] at hy; injection hy with hy; have hy' : w.heap.size = b := hy; omega
  have k2 := key.off o (fun j hj hx => .inr (.inl hx))
  refine ⟨k2.1, fun j h1 h2 => ?_⟩
  obtain ⟨e1, e2, A0, d0, e3, e4, e5⟩ := k2.2 j h1 h2
  obtain ⟨_, _, A1, d1, f3, f4, _⟩ := key.2 j h1 h2
  refine ⟨e1, e2, A0, d0, e3, e4, fun hn p e hy => ?_⟩
  rw [e3] at f3
  injection f3 with g1 g2 g3
  subst g1
  obtain ⟨b, o', e', hb, _⟩ := f4.at_ hn
  rw [e] at e'
  injection e' with e'
  subst e'
  rcases hy with hy | hy
  · exact e5 hn _ e (.inl ⟨hy, hb⟩)
  · exact e5 hn _ e (.inr (.inr hy))
theorem app_a {ops : Array Oper} {rest : List Oper} {o : Oper} {ac : Act} {Q : Exit → Act → World → Prop} (w : World) (hgd : o.guard = none) (s x : Operand)
    (ho : o.op = .call { callee := .builtin .append, args := #[s, x], argTypes := #[74, 74] })
    (B : Nat) (Z : Nat → Prop) (v : Value) (l : List Tal) (hs : ac.eval s = v) (hown : OwnA w B Z v l) (Z' : Nat → Prop) (g : Nat) (a : Int) (A : Option Addr) (n d : Nat) (t : List UInt8) (k : Nat) (hx : ac.eval x = .slice (some ⟨g, 0, none⟩) 1 1)
    (hg : w.heap[g]? = some (.cells #[.int .i64 a, .slice A n d, .int .u64 (k : Int)] 101 (0, 0))) (hB : Bys w A n d t) (hA : Av Z' n A)
    (hlen : l.length + 1 ≤ 1099511627776) (hbase : B ≤ w.heap.size) (hZ : ∀ k, k < w.heap.size → Z k → Z' k) (hv' : ∀ k, v.ownBlock = some k → Z' k)
    (h : ∀ v' w', OwnA w' B Z v' (l ++ [(a, t, k)]) → w.grownBy w' v.ownBlock → (v'.ownBlock = v.ownBlock ∨ v'.ownBlock = some w.heap.size) → wpList Try.prog ops Q rest (ac.put o.dst v') w') : wpList Try.prog ops Q (o :: rest) ac w := by
  refine wpList_plain hgd fun K hK => ?_
  obtain ⟨v', w', hrun, h2, h3, h4⟩ := run_append_a w B Z v l hown Z' g a A n d t k hg hB hA hlen hbase hZ hv' o.type
  unfold Oper.wp execOp
  simp only [ho, resolve, invoke, builtin, Sem.run_bind, Sem.run_pure, Result.andThen_ok, List.map_toArray, List.map_cons, List.map_nil, hs, hx, hrun]
  exact hK _ _ (h v' w' h2 h3 h4)
theorem step_a {ops : Array Oper} {o : Oper} {ac : Act} {K : Act → World → Prop} {Q : Exit → Act → World → Prop} {E : Prop} (w : World) (hgd : o.guard = none) (s x : Operand)
    (ho : o.op = .call { callee := .builtin .append, args := #[s, x], argTypes := #[74, 74] })
    (B : Nat) (Z : Nat → Prop) (v : Value) (l : List Tal) (hs : ac.eval s = v) (hown : OwnA w B Z v l) (Z' : Nat → Prop) (g : Nat) (a : Int) (A : Option Addr) (n d : Nat) (t : List UInt8) (k : Nat) (hx : ac.eval x = .slice (some ⟨g, 0, none⟩) 1 1)
    (hg : w.heap[g]? = some (.cells #[.int .i64 a, .slice A n d, .int .u64 (k : Int)] 101 (0, 0))) (hB : Bys w A n d t) (hA : Av Z' n A)
    (hlen : l.length + 1 ≤ 1099511627776) (hbase : B ≤ w.heap.size) (hZ : ∀ k, k < w.heap.size → Z k → Z' k) (hv' : ∀ k, v.ownBlock = some k → Z' k)
    (h : ∀ v' w', OwnA w' B Z v' (l ++ [(a, t, k)]) → w.grownBy w' v.ownBlock → (v'.ownBlock = v.ownBlock ∨ v'.ownBlock = some w.heap.size) → K (ac.put o.dst v') w') :
    if Region.wanted o (yielded ops ac.tmps) = true then Oper.wp Try.prog o ac w K Q else E := by
  have hw : Region.wanted o (yielded ops ac.tmps) = true := by simp [Region.wanted, hgd]
  rw [if_pos hw]
  obtain ⟨v', w', hrun, h2, h3, h4⟩ := run_append_a w B Z v l hown Z' g a A n d t k hg hB hA hlen hbase hZ hv' o.type
  unfold Oper.wp execOp
  simp only [ho, resolve, invoke, builtin, Sem.run_bind, Sem.run_pure, Result.andThen_ok, List.map_toArray, List.map_cons, List.map_nil, hs, hx, hrun]
  exact h v' w' h2 h3 h4
/-- a count stored -/
theorem OwnA.counted {w : World} {B g n c j : Nat} {Z : Nat → Prop} {l : List Tal} (h : OwnA w B Z (.slice (some ⟨g, 0, none⟩) n c) l) (hn : l.length = n) (hj : j < l.length) (k : Nat) :
    OwnA (w.setCell ⟨g, j * 3 + 2, none⟩ (.int .u64 (k : Int))) B Z (.slice (some ⟨g, 0, none⟩) n c) (l.set j (l[j].1, l[j].2.1, k)) := by
  obtain ⟨ms, h1, h2⟩ := h
  have hjm : j < ms.length := by rw [h2.1]; exact hj
  have h3 := World.ownsRow.stored (hn ▸ h1) (j * 3 + 2) (.int .u64 (k : Int))
  rw [mvs_set ms j hjm k] at h3
  refine ⟨ms.set j (ms[j].1, ms[j].2.1, k), by rw [List.length_set, hn]; exact h3.1, ?_⟩
  exact (h2.set j hjm hj k).off ((Off.refl (· = g) w).setCell (p := ⟨g, j * 3 + 2, none⟩) (.inl rfl) _) (fun i _ hi => .inr (by subst hi; rfl))
end Go.Proofs.Ytpdnpfohcnpenaa
