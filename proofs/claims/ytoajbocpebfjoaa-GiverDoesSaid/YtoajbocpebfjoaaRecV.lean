/- Rows of structs whose last cell is a text, all the others plain: read, kept, of one's own, append. For every such type; nothing of the program's own functions is in here. -/
import Derived.Test.YtoajbocpebfjoaaObj
import Derived.Deep.Slices
namespace Go.Proofs.Ytoajbocpebfjoaa
open Go.RowKit
set_option maxRecDepth 20000

/-- a struct in plain words: the values of its plain cells, its text; the same as it lies in memory -/
abbrev Rcv := List Value × List UInt8
abbrev Rcm := List Value × Value
/-- the slice '.slice A n c' reads as the structs l, of K cells each; none of its memory lies at a block of Y -/
def RV (w : World) (Y : Nat → Prop) (K : Nat) (A : Option Addr) (n c : Nat) (l : List Rcv) : Prop :=
  l.length = n ∧ n ≤ c ∧ c ≤ maxLen ∧ Av Y n A ∧ (0 < n → ∃ b o, A = some ⟨b, o, none⟩ ∧ b < w.heap.size ∧ ∀ j (h : j < l.length), l[j].1.length + 1 = K ∧ (∀ u ∈ l[j].1, u.oneCell' = true) ∧ (∀ r (hr : r < l[j].1.length), w.cell? ⟨b, o + j * K + r, none⟩ = some l[j].1[r]) ∧ ∃ P d, w.cell? ⟨b, o + j * K + l[j].1.length, none⟩ = some (.slice P l[j].2.length d) ∧ Bys w P l[j].2.length d l[j].2 ∧ Av Y l[j].2.length P)
theorem RV.nil (w : World) (Y : Nat → Prop) (K : Nat) (A : Option Addr) (c : Nat) (hc : c ≤ maxLen) : RV w Y K A 0 c [] := ⟨rfl, Nat.zero_le _, hc, fun h => absurd h (by omega), fun h => absurd h (by omega)⟩
theorem RV.len {w : World} {Y : Nat → Prop} {K : Nat} {A : Option Addr} {n c : Nat} {l : List Rcv} (h : RV w Y K A n c l) : l.length = n := h.1
theorem bys_off_lt {X Y : Nat → Prop} {w w' : World} {A : Option Addr} {n c : Nat} {l : List UInt8} (h : Bys w A n c l) (hA : Av Y n A) (o : Off X w w') (hX : ∀ k, k < w.heap.size → X k → Y k) : Bys w' A n c l :=
  h.off (fun hn p e hx => by
    obtain ⟨b, of, e', hb, _⟩ := h.at_ hn
    rw [e] at e'
    injection e' with e'
    subst e'
    exact hA hn _ e (hX _ hb hx)) o
theorem av_imp_lt {w : World} {Y Y' : Nat → Prop} {A : Option Addr} {n c : Nat} {l : List UInt8} (h : Bys w A n c l) (hA : Av Y n A) (hY : ∀ k, k < w.heap.size → Y' k → Y k) : Av Y' n A := fun hn p e hy => by
  obtain ⟨b, of, e', hb, _⟩ := h.at_ hn
  rw [e] at e'
  injection e' with e'
  subst e'
  exact hA hn _ e (hY _ hb hy)
theorem RV.off {X Y : Nat → Prop} {w w' : World} {K : Nat} {A : Option Addr} {n c : Nat} {l : List Rcv} (h : RV w Y K A n c l) (o : Off X w w') (hX : ∀ k, k < w.heap.size → X k → Y k) : RV w' Y K A n c l :=
  ⟨h.1, h.2.1, h.2.2.1, h.2.2.2.1, fun hn => by
    obtain ⟨b, of, rfl, hb, hc⟩ := h.2.2.2.2 hn
    have hbY : ¬ X b := fun hx => h.2.2.2.1 hn _ rfl (hX b hb hx)
    refine ⟨b, of, rfl, Nat.lt_of_lt_of_le hb o.size, fun j hj => ?_⟩
    obtain ⟨h1, h2, h3, P, d, h4, h5, h6⟩ := hc j hj
    exact ⟨h1, h2, fun r hr => (o.cell (p := ⟨b, of + j * K + r, none⟩) hb hbY).trans (h3 r hr), P, d, (o.cell (p := ⟨b, of + j * K + l[j].1.length, none⟩) hb hbY).trans h4, bys_off_lt h5 h6 o hX, h6⟩⟩
theorem RV.below {Y : Nat → Prop} {w w' : World} {K : Nat} {A : Option Addr} {n c : Nat} {l : List Rcv} (h : RV w Y K A n c l) (T : Below w.heap.size w w') : RV w' Y K A n c l := h.off (X := fun _ => False) (Off.of_below T) (fun _ _ h => h.elim)
theorem RV.imp {Y Y' : Nat → Prop} {w : World} {K : Nat} {A : Option Addr} {n c : Nat} {l : List Rcv} (h : RV w Y K A n c l) (hY : ∀ k, k < w.heap.size → Y' k → Y k) : RV w Y' K A n c l := by
  obtain ⟨h1, h2, h3, h4, h5⟩ := h
  refine ⟨h1, h2, h3, fun hn p e hy => ?_, fun hn => ?_⟩
  · obtain ⟨b, of, e', hb, _⟩ := h5 hn
    rw [e] at e'
    injection e' with e'
    subst e'
    exact h4 hn _ e (hY _ hb hy)
  · obtain ⟨b, of, e, hb, hc⟩ := h5 hn
    refine ⟨b, of, e, hb, fun j hj => ?_⟩
    obtain ⟨k1, k2, k3, P, d, k4, k5, k6⟩ := hc j hj
    exact ⟨k1, k2, k3, P, d, k4, k5, av_imp_lt k5 k6 hY⟩
theorem RV.at_' {w : World} {Y : Nat → Prop} {K : Nat} {A : Option Addr} {n c : Nat} {l : List Rcv} (h : RV w Y K A n c l) (hn : 0 < n) : ∃ b o, A = some ⟨b, o, none⟩ ∧ b < w.heap.size ∧ ∀ j (h : j < l.length), (∀ r (hr : r < l[j].1.length), w.cell? ⟨b, o + j * K + r, none⟩ = some l[j].1[r]) ∧ ∃ P d, w.cell? ⟨b, o + j * K + l[j].1.length, none⟩ = some (.slice P l[j].2.length d) ∧ Bys w P l[j].2.length d l[j].2 := by
  obtain ⟨b, o, e, hb, hc⟩ := h.2.2.2.2 hn
  refine ⟨b, o, e, hb, fun j hj => ?_⟩
  obtain ⟨_, _, h3, P, d, h4, h5, _⟩ := hc j hj
  exact ⟨h3, P, d, h4, h5⟩
/-- .. while an object is turned -/
theorem RV.turn {X X' Y : Nat → Prop} {w w' : World} {K : Nat} {A : Option Addr} {n c : Nat} {l : List Rcv} (h : RV w Y K A n c l) (T : Turns X X' w w') (hX : ∀ k, k < w.heap.size → X k → Y k) : RV w' (fun k => X' k ∨ Y k) K A n c l := by
  have h1 := (h.imp (Y' := fun k => Y k ∨ w.heap.size ≤ k) (fun k hk hx => hx.elim id (fun e => by omega))).off T.off (fun k hk hx => .inl (hX k hk hx))
  refine h1.imp (fun k _ hx => ?_)
  rcases hx with hx | hx
  · rcases T.grow k hx with h2 | h2
    · rcases Nat.lt_or_ge k w.heap.size with h3 | h3
      · exact .inl (hX k h3 h2)
      · exact .inr h3
    · exact .inr h2
  · exact .inl hx
/-- a part of it -/
theorem RV.take {w : World} {Y : Nat → Prop} {K : Nat} {A : Option Addr} {n c : Nat} {l : List Rcv} (h : RV w Y K A n c l) (k : Nat) (hk : k ≤ n) : RV w Y K A k c (l.take k) :=
  ⟨by have := h.1; simp; omega, by have := h.2.1; omega, h.2.2.1, fun h0 p e => h.2.2.2.1 (by omega) p e, fun h0 => by
    obtain ⟨b, o, e, hb, hc⟩ := h.2.2.2.2 (by omega)
    refine ⟨b, o, e, hb, fun j hj => ?_⟩
    simp at hj
    simpa using hc j (by omega)⟩
theorem RV.drop {w : World} {Y : Nat → Prop} {K b o n c : Nat} {l : List Rcv} (h : RV w Y K (some ⟨b, o, none⟩) n c l) (k : Nat) (hk : k ≤ n) : RV w Y K (some ⟨b, o + k * K, none⟩) (n - k) (c - k) (l.drop k) :=
  ⟨by have := h.1; simp; omega, by have := h.2.1; omega, by have := h.2.2.1; omega, fun h0 p e => by
    injection e with e
    subst e
    exact h.2.2.2.1 (by omega) ⟨b, o, none⟩ rfl, fun h0 => by
    obtain ⟨b', o', e, hb, hc⟩ := h.2.2.2.2 (by omega)
    injection e with e
    injection e with e1 e2
    subst e1 e2
    refine ⟨b, o + k * K, rfl, hb, fun j hj => ?_⟩
    simp at hj
    have := hc (k + j) (by omega)
    simp only [List.getElem_drop]
    rw [show o + k * K + j * K = o + (k + j) * K by rw [Nat.add_mul]; omega]
    exact this⟩
/-- a literal of one -/
theorem RV.one {w : World} {Y : Nat → Prop} {K : Nat} {e : TypeId} {ps : List Value} {P : Option Addr} {m d : Nat} {t : List UInt8} (hK : ps.length + 1 = K) (h1 : ∀ u ∈ ps, u.oneCell' = true) (hB : Bys w P m d t) (hP : Av Y m P) (hY : ¬ Y w.heap.size) :
    RV (w.alloc (.cells (ps ++ [Value.slice P m d]).toArray e)) Y K (some ⟨w.heap.size, 0, none⟩) 1 1 [(ps, t)] := by
  obtain rfl := hB.len
  refine ⟨rfl, Nat.le_refl _, by unfold maxLen; omega, Av.of hY, fun _ => ⟨w.heap.size, 0, rfl, by simp, fun j hj => ?_⟩⟩
  match j, hj with
  | 0, _ =>
    have h0 := heap_alloc_new w (.cells (ps ++ [Value.slice P t.length d]).toArray e)
    refine ⟨hK, h1, fun r hr => ?_, P, d, ?_, hB.alloc _, hP⟩
    · have hr' : r < ps.length := hr
      rw [cell_of_row _ _ _ _ _ _ h0]
      simp only [Nat.zero_add, Nat.zero_mul, List.getElem?_toArray, List.getElem_cons_zero]
      rw [List.getElem?_append_left hr', List.getElem?_eq_getElem hr']
    · rw [cell_of_row _ _ _ _ _ _ h0]
      simp
/-- all cells of a row of them -/
def rvs (ms : List Rcm) : List Value := ms.flatMap fun t => t.1 ++ [t.2]
theorem rvs_append (l m : List Rcm) : rvs (l ++ m) = rvs l ++ rvs m := by simp [rvs]
theorem rvs_one (t : Rcm) : rvs [t] = t.1 ++ [t.2] := by simp [rvs]
theorem rvs_cons (t : Rcm) (l : List Rcm) : rvs (t :: l) = (t.1 ++ [t.2]) ++ rvs l := by simp [rvs]
theorem rvs_len {K : Nat} (l : List Rcm) (h : ∀ t ∈ l, t.1.length + 1 = K) : (rvs l).length = l.length * K := by
  induction l with
  | nil => simp [rvs]
  | cons t l ih =>
    have h0 := h t (by simp)
    have h1 := ih (fun u hu => h u (by simp [hu]))
    rw [rvs_cons, List.length_append, h1]
    simp [Nat.add_mul]
    omega
theorem rvs_at {K : Nat} (l : List Rcm) (h : ∀ t ∈ l, t.1.length + 1 = K) (j r : Nat) (hj : j < l.length) (hr : r < K) : (rvs l)[j * K + r]? = (l[j].1 ++ [l[j].2])[r]? := by
  induction l generalizing j with
  | nil => simp at hj
  | cons t l ih =>
    have h0 := h t (by simp)
    rw [rvs_cons]
    match j, hj with
    | 0, _ =>
      rw [List.getElem?_append_left (by simp; omega)]
      simp
    | j + 1, hj =>
      have e : (j + 1) * K + r = (t.1 ++ [t.2]).length + (j * K + r) := by simp [Nat.add_mul]; omega
      rw [e, List.getElem?_append_right (by omega), Nat.add_sub_cancel_left]
      simpa using ih (fun u hu => h u (by simp [hu])) j (by simpa using hj)
def Rro (w : World) (Y : Nat → Prop) (K : Nat) (m : Rcm) (t : Rcv) : Prop := m.1 = t.1 ∧ t.1.length + 1 = K ∧ (∀ u ∈ t.1, u.oneCell' = true) ∧ ∃ A d, m.2 = .slice A t.2.length d ∧ Bys w A t.2.length d t.2 ∧ Av Y t.2.length A
def Rros (w : World) (Y : Nat → Prop) (K : Nat) (ms : List Rcm) (l : List Rcv) : Prop := ms.length = l.length ∧ ∀ j (h : j < ms.length) (h' : j < l.length), Rro w Y K ms[j] l[j]
theorem Rro.imp {w : World} {Y Y' : Nat → Prop} {K : Nat} {m : Rcm} {t : Rcv} (h : Rro w Y K m t) (hY : ∀ k, k < w.heap.size → Y' k → Y k) : Rro w Y' K m t := by
  obtain ⟨h1, h2, h3, A, d, h4, h5, h6⟩ := h
  exact ⟨h1, h2, h3, A, d, h4, h5, av_imp_lt h5 h6 hY⟩
theorem Rro.off {X Y : Nat → Prop} {w w' : World} {K : Nat} {m : Rcm} {t : Rcv} (h : Rro w Y K m t) (o : Off X w w') (hX : ∀ k, k < w.heap.size → X k → Y k) : Rro w' Y K m t := by
  obtain ⟨h1, h2, h3, A, d, h4, h5, h6⟩ := h
  exact ⟨h1, h2, h3, A, d, h4, bys_off_lt h5 h6 o hX, h6⟩
theorem Rros.imp {w : World} {Y Y' : Nat → Prop} {K : Nat} {ms : List Rcm} {l : List Rcv} (h : Rros w Y K ms l) (hY : ∀ k, k < w.heap.size → Y' k → Y k) : Rros w Y' K ms l := ⟨h.1, fun j h1 h2 => (h.2 j h1 h2).imp hY⟩
theorem Rros.off {X Y : Nat → Prop} {w w' : World} {K : Nat} {ms : List Rcm} {l : List Rcv} (h : Rros w Y K ms l) (o : Off X w w') (hX : ∀ k, k < w.heap.size → X k → Y k) : Rros w' Y K ms l := ⟨h.1, fun j h1 h2 => (h.2 j h1 h2).off o hX⟩
theorem Rros.nil (w : World) (Y : Nat → Prop) (K : Nat) : Rros w Y K [] [] := ⟨rfl, fun j h => absurd h (by simp)⟩
theorem Rros.append {w : World} {Y : Nat → Prop} {K : Nat} {ms ns : List Rcm} {l k : List Rcv} (h : Rros w Y K ms l) (g : Rros w Y K ns k) : Rros w Y K (ms ++ ns) (l ++ k) := by
  refine ⟨by simp [h.1, g.1], fun j h1 h2 => ?_⟩
  have hl := h.1
  rcases Nat.lt_or_ge j ms.length with hj | hj
  · rw [List.getElem_append_left hj, List.getElem_append_left (by omega)]
    exact h.2 j hj (by omega)
  · rw [List.getElem_append_right hj, List.getElem_append_right (by omega)]
    have := g.2 (j - ms.length) (by simp at h1; omega) (by simp at h2; omega)
    simpa [hl] using this
theorem Rros.fix {w : World} {Y : Nat → Prop} {K : Nat} {ms : List Rcm} {l : List Rcv} (h : Rros w Y K ms l) : ∀ t ∈ ms, t.1.length + 1 = K := fun t ht => by
  obtain ⟨j, hj, rfl⟩ := List.mem_iff_getElem.1 ht
  obtain ⟨h1, h2, _⟩ := h.2 j hj (by have := h.1; omega)
  rw [h1]
  exact h2
theorem Rros.cells1 {w : World} {Y : Nat → Prop} {K : Nat} {ms : List Rcm} {l : List Rcv} (h : Rros w Y K ms l) : ∀ u ∈ rvs ms, u.oneCell' = true := fun u hu => by
  simp only [rvs, List.mem_flatMap] at hu
  obtain ⟨t, ht, hu⟩ := hu
  obtain ⟨j, hj, rfl⟩ := List.mem_iff_getElem.1 ht
  obtain ⟨h1, _, h3, A, d, h4, _⟩ := h.2 j hj (by have := h.1; omega)
  rcases List.mem_append.1 hu with hu | hu
  · rw [h1] at hu
    exact h3 u hu
  · rw [List.mem_singleton.1 hu, h4]
    rfl
/-- what is read is a row of such -/
theorem RV.rows {w : World} {Y : Nat → Prop} {K b o n c : Nat} {l : List Rcv} (h : RV w Y K (some ⟨b, o, none⟩) n c l) (hn : 0 < n) : ∃ ms, Rros w Y K ms l ∧ ∀ j u, (rvs ms)[j]? = some u → w.cell? ⟨b, o + j, none⟩ = some u := by
  obtain ⟨b', o', e, hb, hc⟩ := h.2.2.2.2 hn
  injection e with e
  injection e with e1 e2
  subst e1 e2
  have : ∀ j, j < l.length → ∃ m : Rcm, ∀ h : j < l.length, Rro w Y K m l[j] ∧ ∀ r, r < K → w.cell? ⟨b, o + j * K + r, none⟩ = (m.1 ++ [m.2])[r]? := fun j hj => by
    obtain ⟨h1, h2, h3, P, d, h4, h5, h6⟩ := hc j hj
    refine ⟨(l[j].1, .slice P l[j].2.length d), fun _ => ⟨⟨rfl, h1, h2, P, d, rfl, h5, h6⟩, fun r hr => ?_⟩⟩
    rcases Nat.lt_or_ge r l[j].1.length with hr' | hr'
    · rw [h3 r hr', List.getElem?_append_left hr', List.getElem?_eq_getElem hr']
    · obtain rfl : r = l[j].1.length := by omega
      rw [h4]
      simp
  obtain ⟨V, hV⟩ := Go.Deep.choose_lt this
  refine ⟨(List.range l.length).map V, ⟨by simp, fun j h1 h2 => ?_⟩, fun j u hu => ?_⟩
  · simp at h1
    simpa using (hV j h1 h1).1
  · have hR : Rros w Y K ((List.range l.length).map V) l := ⟨by simp, fun j h1 h2 => by simp at h1; simpa using (hV j h1 h1).1⟩
    have hfix := hR.fix
    have hK : 0 < K := by have := (hc 0 (by have := h.1; omega)).1; omega
    have hj : j < l.length * K := by
      obtain ⟨hlt, _⟩ := List.getElem?_eq_some_iff.1 hu
      rw [rvs_len _ hfix] at hlt
      simpa using hlt
    obtain ⟨p, q, rfl, hq⟩ : ∃ p q, j = p * K + q ∧ q < K := ⟨j / K, j % K, by rw [Nat.mul_comm]; exact (Nat.div_add_mod j K).symm, Nat.mod_lt _ hK⟩
    have hp : p < l.length := by
      rcases Nat.lt_or_ge p l.length with h | h
      · exact h
      · have : l.length * K ≤ p * K := Nat.mul_le_mul_right K h
        omega
    rw [rvs_at _ hfix p q (by simpa using hp) hq] at hu
    rw [← Nat.add_assoc, (hV p hp hp).2 q hq]
    simpa using hu
/-- structs in blocks of one's own, from B on; no text of them lies at a block of Z -/
def OwnV (e : TypeId) (K : Nat) (w : World) (B : Nat) (Z : Nat → Prop) (v : Value) (l : List Rcv) : Prop := ∃ ms, w.ownsRow B e K v l.length (rvs ms) ∧ Rros w (fun k => Z k ∨ v.ownBlock = some k) K ms l
section
variable {e : TypeId} {K : Nat}
theorem OwnV.nil (w : World) (B : Nat) (Z : Nat → Prop) : OwnV e K w B Z (.slice none 0 0) [] := ⟨[], ⟨by simp [rvs], .inl ⟨rfl, rfl⟩⟩, Rros.nil _ _ _⟩
theorem OwnV.lt {w : World} {B : Nat} {Z : Nat → Prop} {v : Value} {l : List Rcv} (h : OwnV e K w B Z v l) (k : Nat) (hk : v.ownBlock = some k) : B ≤ k ∧ k < w.heap.size := by
  obtain ⟨ms, h1, _⟩ := h
  exact h1.lt k hk
theorem OwnV.off {X Z : Nat → Prop} {w w' : World} {B : Nat} {v : Value} {l : List Rcv} (h : OwnV e K w B Z v l) (o : Off X w w') (hX : ∀ k, k < w.heap.size → X k → Z k) (hv : ∀ k, v.ownBlock = some k → ¬ X k) : OwnV e K w' B Z v l := by
  obtain ⟨ms, h1, h2⟩ := h
  refine ⟨ms, ⟨h1.1, ?_⟩, h2.off o (fun k hk hx => .inl (hX k hk hx))⟩
  rcases h1.2 with h3 | ⟨g, cap, cur, rfl, hg, hh, r⟩
  · exact Or.inl h3
  · refine Or.inr ⟨g, cap, cur, rfl, hg, ?_, r⟩
    rw [o.block g (lt_of_block hh) (hv g rfl)]
    exact hh
theorem OwnV.below {Z : Nat → Prop} {w w' : World} {B : Nat} {v : Value} {l : List Rcv} (h : OwnV e K w B Z v l) (T : Below w.heap.size w w') : OwnV e K w' B Z v l := h.off (X := fun _ => False) (Off.of_below T) (fun _ _ h => h.elim) (fun _ _ h => h)
theorem OwnV.imp {w : World} {B : Nat} {Z Z' : Nat → Prop} {v : Value} {l : List Rcv} (h : OwnV e K w B Z v l) (hZ : ∀ k, k < w.heap.size → Z' k → Z k) : OwnV e K w B Z' v l := by
  obtain ⟨ms, h1, h2⟩ := h
  exact ⟨ms, h1, h2.imp (fun k hk hx => hx.elim (fun h => .inl (hZ k hk h)) .inr)⟩
theorem OwnV.down {w : World} {B B' : Nat} {Z : Nat → Prop} {v : Value} {l : List Rcv} (h : OwnV e K w B Z v l) (hB : B' ≤ B) : OwnV e K w B' Z v l := by
  obtain ⟨ms, h1, h2⟩ := h
  exact ⟨ms, h1.mono hB, h2⟩
/-- .. as a slice that reads: at no block of Z but its own -/
theorem OwnV.shape {w : World} {B : Nat} {Z : Nat → Prop} {v : Value} {l : List Rcv} (h : OwnV e K w B Z v l) : ∃ P c, v = .slice P l.length c ∧ l.length ≤ c ∧ c ≤ maxLen ∧ ((P = none ∧ c = 0 ∧ l = []) ∨ ∃ b, P = some ⟨b, 0, none⟩ ∧ v.ownBlock = some b ∧ b < w.heap.size ∧ B ≤ b ∧ (∀ r, w.frozen? ⟨b, r, none⟩ = false)) ∧ ∀ Y : Nat → Prop, (∀ k, k < w.heap.size → Y k → Z k ∨ v.ownBlock = some k) → (∀ k, v.ownBlock = some k → ¬ Y k) → RV w Y K P l.length c l := by
  obtain ⟨ms, h1, h2⟩ := h
  rcases h1.2 with ⟨hv, hn⟩ | ⟨g, cap, cur, hv, hg, hh, hnc, hcm, hcs, ht⟩
  · have : l = [] := List.eq_nil_of_length_eq_zero hn
    subst this
    exact ⟨none, 0, hv, Nat.le_refl _, Nat.zero_le _, .inl ⟨rfl, rfl, rfl⟩, fun Y _ _ => RV.nil _ _ _ _ _ (Nat.zero_le _)⟩
  · subst hv
    refine ⟨_, _, rfl, hnc, hcm, .inr ⟨g, rfl, rfl, lt_of_block hh, hg, fun r => World.ownsRow.frozenAt h1 r⟩, fun Y hY hb => ⟨rfl, hnc, hcm, Av.of (hb g rfl), fun hn => ⟨g, 0, rfl, lt_of_block hh, fun j hj => ?_⟩⟩⟩
    have hjm : j < ms.length := by rw [h2.1]; exact hj
    obtain ⟨e1, e2, e3, A, d, e4, e5, e6⟩ := h2.2 j hjm hj
    have hfix := h2.fix
    have hlen : (rvs ms).length = ms.length * K := rvs_len _ hfix
    have hcell : ∀ r, r < K → w.cell? ⟨g, 0 + j * K + r, none⟩ = (ms[j].1 ++ [ms[j].2])[r]? := fun r hr => by
      have hjK : j * K + K ≤ ms.length * K := by
        have := Nat.mul_le_mul_right K (show j + 1 ≤ ms.length by omega)
        rw [Nat.add_mul, Nat.one_mul] at this
        exact this
      rw [Nat.zero_add, ← rvs_at ms hfix j r hjm hr]
      exact World.ownsRow.cellAt h1 (j * K + r) (by rw [h2.1] at hjK; omega)
    refine ⟨e2, e3, fun r hr => ?_, A, d, ?_, e5, av_imp_lt e5 e6 hY⟩
    · rw [hcell r (by omega), e1, List.getElem?_append_left hr, List.getElem?_eq_getElem hr]
    · rw [hcell _ (by omega), e1, e4]
      simp
end
/-- append of what reads as such structs -/
theorem run_append_rv {P0 : Program} {e s : TypeId} {K by' : Nat} {z : Value} (hs : P0.underlying s = some (.slice e)) (hinf : (P0.info? e).map (fun i => (i.zero, i.size, i.bytes)) = some (some z, K, by')) (hz : z.cells.size = K) (hK : 0 < K) (hby : by' ≤ 128)
    (w : World) (B : Nat) (Z : Nat → Prop) (v : Value) (l : List Rcv) (hown : OwnV e K w B Z v l) (Z' : Nat → Prop) (P : Option Addr) (m c : Nat) (ms : List Rcv) (hR : RV w Z' K P m c ms)
    (hlen : l.length + m ≤ 1099511627776) (hbase : B ≤ w.heap.size) (hZ : ∀ k, k < w.heap.size → Z k → Z' k) (hv' : ∀ k, v.ownBlock = some k → Z' k) (ty : TypeId) :
    ∃ v' w', (Builtin.append_ #[s, s] ty #[v, .slice P m c]).run P0 w = .ok v' w' ∧ OwnV e K w' B Z v' (l ++ ms) ∧ w.grownBy w' v.ownBlock ∧ (v'.ownBlock = v.ownBlock ∨ v'.ownBlock = some w.heap.size) := by
  obtain ⟨i0, hi, hz0, hz1, hz2⟩ := info_parts hinf
  have hml := hR.1
  have hbytes : (l.length + m) * by' ≤ 140737488355328 := by
    have := Nat.mul_le_mul hlen hby
    omega
  have hmax : l.length + m ≤ maxLen := by unfold maxLen; omega
  rcases Nat.eq_zero_or_pos m with h0 | h0
  · subst h0
    have : ms = [] := List.eq_nil_of_length_eq_zero hml
    subst this
    rcases P with _ | ad
    · refine ⟨v, w, ?_, by simpa using hown, World.grownBy.refl w _, .inl rfl⟩
      obtain ⟨ns, hown, _⟩ := hown
      rcases hown.2 with ⟨rfl, hn⟩ | ⟨g, cap, cur, rfl, _, _, hnc, _⟩
      · simp [Builtin.append_, run_underlying hs, sizeOf, typeInfo, hi, Builtin.lenOf, Builtin.firstCells]
      · simp [Builtin.append_, run_underlying hs, sizeOf, typeInfo, hi, Builtin.lenOf, Builtin.firstCells, hnc, storeCells]
    · obtain ⟨ns, hown, hns⟩ := hown
      obtain ⟨v', w', hrun, h2, h3, _, h5⟩ := run_append_own_at (P := P0) w B s ty e i0 z K by' hs hi hz0 hz1 hz2 hz hK v l.length (rvs ns) hown ad 0 c [] (by simp) (by simp) (by simp) (by simpa using hmax) (by simpa using hbytes) hbase
      have o : Off (fun k => v.ownBlock = some k) w w' := (Off.refl _ w).grown h3 (fun k hk => .inl hk)
      refine ⟨v', w', hrun, ⟨ns, by simpa using h2, ?_⟩, h3, h5⟩
      have key : Rros w (fun j => (Z j ∧ j < w.heap.size) ∨ v.ownBlock = some j ∨ v'.ownBlock = some j) K ns l := hns.imp (fun j hj hy => by
        rcases hy with hy | hy | hy
        · exact .inl hy.1
        · exact .inr hy
        · rcases h5 with h | h
          · exact .inr (h ▸ hy)
          · rw [h] at hy; injection hy with hy; omega)
      have k2 := key.off o (fun j hj hx => .inr (.inl hx))
      have k3 : Rros w' (fun k => Z k ∨ v'.ownBlock = some k) K ns l := ⟨k2.1, fun j h1 h2 => by
        obtain ⟨e1, e2, e3, A0, d0, e4, e5, e6⟩ := k2.2 j h1 h2
        obtain ⟨_, _, _, A1, d1, f4, f5, _⟩ := key.2 j h1 h2
        refine ⟨e1, e2, e3, A0, d0, e4, e5, fun hn p e hy => ?_⟩
        rw [e4] at f4
        injection f4 with g1 g2 g3
        subst g1
        obtain ⟨b, o', e', hb, _⟩ := f5.at_ hn
        rw [e] at e'
        injection e' with e'
        subst e'
        rcases hy with hy | hy
        · exact e6 hn _ e (.inl ⟨hy, hb⟩)
        · exact e6 hn _ e (.inr (.inr hy))⟩
      simpa using k3
  · obtain ⟨b, o, rfl, _, hc⟩ := hR.2.2.2.2 h0
    obtain ⟨us, hus, hcs⟩ := hR.rows h0
    obtain ⟨ns, hown, hns⟩ := hown
    have hcells : ∀ j u, (rvs us)[j]? = some u → w.cell? ((⟨b, o, none⟩ : Addr).add j) = some u := fun j u hu => by
      have e : (⟨b, o, none⟩ : Addr).add j = ⟨b, o + j, none⟩ := by unfold Addr.add; split <;> simp_all
      rw [e]
      exact hcs j u hu
    obtain ⟨v', w', hrun, h2, h3, _, h5⟩ := run_append_own_at (P := P0) w B s ty e i0 z K by' hs hi hz0 hz1 hz2 hz hK v l.length (rvs ns) hown _ m c (rvs us) (by rw [rvs_len _ hus.fix, hus.1, hml]) hcells hus.cells1 hmax hbytes hbase
    refine ⟨v', w', hrun, ⟨ns ++ us, by rw [List.length_append, hml, rvs_append]; exact h2, ?_⟩, h3, h5⟩
    have o1 : Off (fun k => v.ownBlock = some k) w w' := (Off.refl _ w).grown h3 (fun k hk => .inl hk)
    have key : Rros w (fun j => (Z j ∧ j < w.heap.size) ∨ v.ownBlock = some j ∨ (v'.ownBlock = some j ∧ (v'.ownBlock = v.ownBlock ∨ j = w.heap.size))) K (ns ++ us) (l ++ ms) := by
      refine (hns.imp (fun j hj hy => ?_)).append (hus.imp (fun j hj hy => ?_))
      · rcases hy with hy | hy | ⟨hy, hy'⟩
        · exact .inl hy.1
        · exact .inr hy
        · rcases hy' with h | h
          · exact .inr (h ▸ hy)
          · omega
      · rcases hy with hy | hy | ⟨hy, hy'⟩
        · exact hZ j hj hy.1
        · exact hv' j hy
        · rcases hy' with h | h
          · exact hv' j (h ▸ hy)
          · omega
    have k2 := key.off o1 (fun j hj hx => .inr (.inl hx))
    refine ⟨k2.1, fun j h1 h2 => ?_⟩
    obtain ⟨e1, e2, e3, A0, d0, e4, e5, e6⟩ := k2.2 j h1 h2
    obtain ⟨_, _, _, A1, d1, f4, f5, _⟩ := key.2 j h1 h2
    refine ⟨e1, e2, e3, A0, d0, e4, e5, fun hn p e hy => ?_⟩
    rw [e4] at f4
    injection f4 with g1 g2 g3
    subst g1
    obtain ⟨b', o', e', hb, _⟩ := f5.at_ hn
    rw [e] at e'
    injection e' with e'
    subst e'
    rcases hy with hy | hy
    · exact e6 hn _ e (.inl ⟨hy, hb⟩)
    · refine e6 hn _ e (.inr (.inr ⟨hy, ?_⟩))
      rcases h5 with h | h
      · exact .inl h
      · rw [h] at hy; injection hy with hy; exact .inr hy.symm
theorem app_rv {P0 : Program} {e s : TypeId} {K by' : Nat} {z : Value} (hs : P0.underlying s = some (.slice e)) (hinf : (P0.info? e).map (fun i => (i.zero, i.size, i.bytes)) = some (some z, K, by')) (hz : z.cells.size = K) (hK : 0 < K) (hby : by' ≤ 128)
    {ops : Array Oper} {rest : List Oper} {o : Oper} {ac : Act} {Q : Exit → Act → World → Prop} (w : World) (hgd : o.guard = none) (x y : Operand)
    (ho : o.op = .call { callee := .builtin .append, args := #[x, y], argTypes := #[s, s] })
    (B : Nat) (Z : Nat → Prop) (v : Value) (l : List Rcv) (hx : ac.eval x = v) (hown : OwnV e K w B Z v l) (Z' : Nat → Prop) (P : Option Addr) (m c : Nat) (ms : List Rcv) (hy : ac.eval y = .slice P m c) (hR : RV w Z' K P m c ms)
    (hlen : l.length + m ≤ 1099511627776) (hbase : B ≤ w.heap.size) (hZ : ∀ k, k < w.heap.size → Z k → Z' k) (hv' : ∀ k, v.ownBlock = some k → Z' k)
    (h : ∀ v' w', OwnV e K w' B Z v' (l ++ ms) → w.grownBy w' v.ownBlock → (v'.ownBlock = v.ownBlock ∨ v'.ownBlock = some w.heap.size) → wpList P0 ops Q rest (ac.put o.dst v') w') : wpList P0 ops Q (o :: rest) ac w := by
  refine wpList_plain hgd fun K0 hK0 => ?_
  obtain ⟨v', w', hrun, h2, h3, h4⟩ := run_append_rv hs hinf hz hK hby w B Z v l hown Z' P m c ms hR hlen hbase hZ hv' o.type
  unfold Oper.wp execOp
  simp only [ho, resolve, invoke, builtin, Sem.run_bind, Sem.run_pure, Result.andThen_ok, List.map_toArray, List.map_cons, List.map_nil, hx, hy, hrun]
  exact hK0 _ _ (h v' w' h2 h3 h4)
theorem step_rv {P0 : Program} {e s : TypeId} {K by' : Nat} {z : Value} (hs : P0.underlying s = some (.slice e)) (hinf : (P0.info? e).map (fun i => (i.zero, i.size, i.bytes)) = some (some z, K, by')) (hz : z.cells.size = K) (hK : 0 < K) (hby : by' ≤ 128)
    {ops : Array Oper} {o : Oper} {ac : Act} {K1 : Act → World → Prop} {Q : Exit → Act → World → Prop} {E : Prop} (w : World) (hgd : o.guard = none) (x y : Operand)
    (ho : o.op = .call { callee := .builtin .append, args := #[x, y], argTypes := #[s, s] })
    (B : Nat) (Z : Nat → Prop) (v : Value) (l : List Rcv) (hx : ac.eval x = v) (hown : OwnV e K w B Z v l) (Z' : Nat → Prop) (P : Option Addr) (m c : Nat) (ms : List Rcv) (hy : ac.eval y = .slice P m c) (hR : RV w Z' K P m c ms)
    (hlen : l.length + m ≤ 1099511627776) (hbase : B ≤ w.heap.size) (hZ : ∀ k, k < w.heap.size → Z k → Z' k) (hv' : ∀ k, v.ownBlock = some k → Z' k)
    (h : ∀ v' w', OwnV e K w' B Z v' (l ++ ms) → w.grownBy w' v.ownBlock → (v'.ownBlock = v.ownBlock ∨ v'.ownBlock = some w.heap.size) → K1 (ac.put o.dst v') w') :
    if Region.wanted o (yielded ops ac.tmps) = true then Oper.wp P0 o ac w K1 Q else E := by
  have hw : Region.wanted o (yielded ops ac.tmps) = true := by simp [Region.wanted, hgd]
  rw [if_pos hw]
  obtain ⟨v', w', hrun, h2, h3, h4⟩ := run_append_rv hs hinf hz hK hby w B Z v l hown Z' P m c ms hR hlen hbase hZ hv' o.type
  unfold Oper.wp execOp
  simp only [ho, resolve, invoke, builtin, Sem.run_bind, Sem.run_pure, Result.andThen_ok, List.map_toArray, List.map_cons, List.map_nil, hx, hy, hrun]
  exact h v' w' h2 h3 h4
end Go.Proofs.Ytoajbocpebfjoaa
