/- Plain facts of the landed flight: with a life no more than one frame is outlived at a Put; what a Put, a Take, a Spoil makes of the state. -/
import Derived.Test.YtgppoapdpgblmaaFlkO
namespace Go.Proofs.Ytgppoapdpgblmaa
open Go.RowKit
set_option maxRecDepth 20000

def WInv (life sent : Nat) (l : List Frm) : Prop := (l.map (·.1)).Pairwise (· < ·) ∧ (∀ f ∈ l, f.1 ≤ sent) ∧ (0 < life → ∀ f ∈ l, sent < f.1 + life)
def FsInv (s : Fs) : Prop := WInv s.life s.s0 s.l0 ∧ WInv s.life s.s1 s.l1
theorem WInv.nil (life sent : Nat) : WInv life sent [] := ⟨List.Pairwise.nil, fun _ h => (nomatch h), fun _ _ h => (nomatch h)⟩
theorem WInv.sub {life sent : Nat} {l l' : List Frm} (h : WInv life sent l) (hs : l'.Sublist l) : WInv life sent l' :=
  ⟨h.1.sublist (hs.map _), fun f hf => h.2.1 f (hs.subset hf), fun hl f hf => h.2.2 hl f (hs.subset hf)⟩
theorem WInv.set {life sent : Nat} {l : List Frm} (h : WInv life sent l) (i : Nat) (hi : i < l.length) (f : Frm) (hf : f.1 = l[i].1) : WInv life sent (l.set i f) := by
  have e : (l.set i f).map (·.1) = l.map (·.1) := by
    rw [List.map_set, hf]
    have : l[i].1 = (l.map (·.1))[i]'(by simpa using hi) := by simp
    rw [this]
    exact List.set_getElem_self _
  refine ⟨by rw [e]; exact h.1, fun x hx => ?_, fun hl x hx => ?_⟩
  · rcases List.mem_or_eq_of_mem_set hx with hx | rfl
    · exact h.2.1 x hx
    · rw [hf]; exact h.2.1 _ (List.getElem_mem hi)
  · rcases List.mem_or_eq_of_mem_set hx with hx | rfl
    · exact h.2.2 hl x hx
    · rw [hf]; exact h.2.2 hl _ (List.getElem_mem hi)
theorem WInv.push {life sent : Nat} {l : List Frm} (h : WInv life sent l) (a b : List UInt8) : ((l ++ [(sent + 1, a, b)]).map (·.1)).Pairwise (· < ·) ∧ (∀ f ∈ l ++ [(sent + 1, a, b)], f.1 ≤ sent + 1) := by
  refine ⟨?_, fun f hf => ?_⟩
  · rw [List.map_append, List.pairwise_append]
    refine ⟨h.1, by simp, fun x hx y hy => ?_⟩
    obtain ⟨f, hf, rfl⟩ := List.mem_map.1 hx
    simp at hy
    subst hy
    have := h.2.1 f hf
    omega
  · rcases List.mem_append.1 hf with hf | hf
    · have := h.2.1 f hf; omega
    · rw [List.mem_singleton] at hf; subst hf; exact Nat.le_refl _
theorem WInv.keep {life sent : Nat} {l : List Frm} (h : WInv life sent l) (a b : List UInt8) : WInv life (sent + 1) (fsKeep life (sent + 1) (l ++ [(sent + 1, a, b)])) := by
  obtain ⟨p1, p2⟩ := h.push a b
  unfold fsKeep
  split
  · rename_i h0
    exact ⟨p1, p2, fun hl => by omega⟩
  · unfold fsPrune
    refine ⟨p1.sublist (List.filter_sublist.map _), fun f hf => p2 f (List.mem_filter.1 hf).1, fun hl f hf => ?_⟩
    obtain ⟨h1, h2⟩ := List.mem_filter.1 hf
    have := p2 f h1
    simp at h2
    omega
/-- the first one alone may be outlived -/
theorem WInv.keep_cases {life sent : Nat} {l : List Frm} (h : WInv life sent l) (a b : List UInt8) (hl : 0 < life) (hn : 0 < (l ++ [(sent + 1, a, b)]).length) :
    fsKeep life (sent + 1) (l ++ [(sent + 1, a, b)]) = if life ≤ sent + 1 - (l ++ [(sent + 1, a, b)])[0].1 then (l ++ [(sent + 1, a, b)]).eraseIdx 0 else l ++ [(sent + 1, a, b)] := by
  obtain ⟨p1, p2⟩ := h.push a b
  have p3 : ∀ f ∈ l ++ [(sent + 1, a, b)], sent < f.1 + life := fun f hf => by
    rcases List.mem_append.1 hf with hf | hf
    · exact h.2.2 hl f hf
    · rw [List.mem_singleton] at hf; subst hf; show sent < sent + 1 + life; omega
  generalize l ++ [(sent + 1, a, b)] = L at *
  cases L with
  | nil => simp at hn
  | cons f0 r =>
    simp only [List.map_cons, List.pairwise_cons] at p1
    have hr : ∀ f ∈ r, sent + 1 - f.1 < life := fun f hf => by
      have h1 := p1.1 f.1 (List.mem_map_of_mem hf)
      have h2 := p3 f0 (by simp)
      have h3 := p2 f (by simp [hf])
      omega
    have hfil : r.filter (fun f => decide (sent + 1 - f.1 < life)) = r := List.filter_eq_self.2 (fun f hf => by simpa using hr f hf)
    unfold fsKeep fsPrune
    rw [if_neg (by omega)]
    simp only [List.getElem_cons_zero, List.eraseIdx_zero, List.tail_cons]
    by_cases hc : life ≤ sent + 1 - f0.1
    · rw [if_pos hc, List.filter_cons_of_neg (by simp; omega), hfil]
    · rw [if_neg hc, List.filter_cons_of_pos (by simp; omega), hfil]
section
variable {s : Fs} {v0 v1 v o : Value} {d : Int} {q sent : Nat} {l : List Frm}
theorem Dir.inv (D : Dir s v0 v1 d q v o l sent) (h : FsInv s) : WInv s.life sent l := by
  rcases D with ⟨rfl, rfl, rfl, rfl, rfl, rfl⟩ | ⟨rfl, rfl, rfl, rfl, rfl, rfl⟩
  · exact h.1
  · exact h.2
theorem Dir.life (D : Dir s v0 v1 d q v o l sent) (l' : List Frm) (S : Nat) : (fsSet s d l' S).life = s.life ∧ (fsSet s d l' S).gone = s.gone := by
  rcases D with ⟨rfl, rfl, rfl, rfl, rfl, rfl⟩ | ⟨rfl, rfl, rfl, rfl, rfl, rfl⟩ <;> exact ⟨rfl, rfl⟩
/-- a Put that outlives none -/
theorem Dir.put0 (D : Dir s v0 v1 d q v o l sent) (h : FsInv s) (b : List UInt8) (hE : fsPutE s d b.length = 0) (hk : s.life = 0 ∨ ∀ hn : 0 < (l ++ [(sent + 1, b, b)]).length, sent + 1 - (l ++ [(sent + 1, b, b)])[0].1 < s.life) : fsPut s d b = fsSet s d (l ++ [(sent + 1, b, b)]) (sent + 1) := by
  have e : fsKeep s.life (sent + 1) (l ++ [(sent + 1, b, b)]) = l ++ [(sent + 1, b, b)] := by
    by_cases h0 : s.life = 0
    · unfold fsKeep; rw [if_pos h0]
    · have hn : 0 < (l ++ [(sent + 1, b, b)]).length := by simp
      rw [(D.inv h).keep_cases b b (by omega) hn, if_neg]
      have := hk.resolve_left h0 hn
      omega
  unfold fsPut
  rw [if_pos hE]
  rcases D with ⟨rfl, rfl, rfl, rfl, rfl, rfl⟩ | ⟨rfl, rfl, rfl, rfl, rfl, rfl⟩
  · simp [fsPut0, fsSet, e]
  · simp [fsPut1, fsSet, e]
/-- a Put that outlives the first one -/
theorem Dir.put1 (D : Dir s v0 v1 d q v o l sent) (h : FsInv s) (b : List UInt8) (hE : fsPutE s d b.length = 0) (h0 : 0 < s.life) (hn : 0 < (l ++ [(sent + 1, b, b)]).length) (hk : s.life ≤ sent + 1 - (l ++ [(sent + 1, b, b)])[0].1) :
    fsPut s d b = { fsSet (fsSet s d (l ++ [(sent + 1, b, b)]) (sent + 1)) d ((l ++ [(sent + 1, b, b)]).eraseIdx 0) (sent + 1) with gone := s.gone + 1 } := by
  have e : fsKeep s.life (sent + 1) (l ++ [(sent + 1, b, b)]) = (l ++ [(sent + 1, b, b)]).eraseIdx 0 := by
    rw [(D.inv h).keep_cases b b h0 hn, if_pos hk]
  have el : ((l ++ [(sent + 1, b, b)]).eraseIdx 0).length = l.length := by rw [List.length_eraseIdx, if_pos hn]; simp
  unfold fsPut
  rw [if_pos hE]
  rcases D with ⟨rfl, rfl, rfl, rfl, rfl, rfl⟩ | ⟨rfl, rfl, rfl, rfl, rfl, rfl⟩
  · unfold fsPut0 fsSet
    rw [e, el]
    simp
  · unfold fsPut1 fsSet
    rw [e, el]
    simp
theorem FsInv.put (h : FsInv s) (d : Int) (b : List UInt8) : FsInv (fsPut s d b) := by
  unfold fsPut
  split
  · split
    · exact ⟨h.1.keep b b, h.2⟩
    · exact ⟨h.1, h.2.keep b b⟩
  · exact h
theorem FsInv.take (h : FsInv s) (d i : Int) : FsInv (fsTake s d i) := by
  unfold fsTake
  split
  · split
    · exact ⟨h.1.sub (List.eraseIdx_sublist ..), h.2⟩
    · exact ⟨h.1, h.2.sub (List.eraseIdx_sublist ..)⟩
  · exact h
theorem flAt_ok {l : List Frm} {i : Int} (h : (flAt l i).2 = 0) : ∃ k : Nat, ∃ hk : k < l.length, i = (k : Int) ∧ flAt l i = (l[k], 0) := by
  by_cases hb : 0 ≤ i ∧ i < l.length
  · refine ⟨i.toNat, by omega, by omega, ?_⟩
    unfold flAt
    rw [if_pos hb, List.getD_eq_getElem?_getD, List.getElem?_eq_getElem (by omega)]
    rfl
  · unfold flAt at h
    rw [if_neg hb] at h
    cases h
theorem fsAt_dir {s : Fs} {d i : Int} (h : (fsAt s d i).2 = 0) : d = 0 ∨ d = 1 := by
  unfold fsAt at h
  split at h
  · exact .inl ‹_›
  · split at h
    · exact .inr ‹_›
    · cases h
theorem spoilL_eq {l : List Frm} {k : Nat} (hk : k < l.length) (es : List Ed) : spoilL l k es = l.set k (l[k].1, edDo l[k].2.1 es, l[k].2.2) := by
  unfold spoilL
  rw [List.getD_eq_getElem?_getD, List.getElem?_eq_getElem hk]
  rfl
theorem FsInv.spoil (h : FsInv s) (d i : Int) (es : List Ed) : FsInv (fsSpoil s d i es) := by
  unfold fsSpoil
  split
  · rename_i h0
    rcases fsAt_dir h0 with rfl | rfl
    · obtain ⟨k, hk, rfl, -⟩ := flAt_ok (l := s.l0) (i := i) h0
      rw [if_pos rfl, Int.toNat_natCast, spoilL_eq hk]
      exact ⟨h.1.set k hk _ rfl, h.2⟩
    · obtain ⟨k, hk, rfl, -⟩ := flAt_ok (l := s.l1) (i := i) h0
      rw [if_neg (by decide), Int.toNat_natCast, spoilL_eq hk]
      exact ⟨h.1, h.2.set k hk _ rfl⟩
  · exact h
theorem Dir.take (D : Dir s v0 v1 d q v o l sent) (k : Nat) (hk : k < l.length) : fsAt s d (k : Int) = (l[k], 0) ∧ fsTake s d (k : Int) = fsSet s d (l.eraseIdx k) sent ∧ ∀ es, fsSpoil s d (k : Int) es = fsSet s d (l.set k (l[k].1, edDo l[k].2.1 es, l[k].2.2)) sent := by
  have e : fsAt s d (k : Int) = (l[k], 0) := by
    rw [D.len.2.2]
    unfold flAt
    rw [if_pos (by omega), Int.toNat_natCast, List.getD_eq_getElem?_getD, List.getElem?_eq_getElem hk]
    rfl
  refine ⟨e, ?_, fun es => ?_⟩
  · unfold fsTake
    rw [e, if_pos rfl, Int.toNat_natCast]
    rcases D with ⟨rfl, rfl, rfl, rfl, rfl, rfl⟩ | ⟨rfl, rfl, rfl, rfl, rfl, rfl⟩ <;> rfl
  · unfold fsSpoil
    rw [e, if_pos rfl, Int.toNat_natCast]
    rcases D with ⟨rfl, rfl, rfl, rfl, rfl, rfl⟩ | ⟨rfl, rfl, rfl, rfl, rfl, rfl⟩ <;> rw [spoilL_eq hk] <;> rfl
end
end Go.Proofs.Ytgppoapdpgblmaa
