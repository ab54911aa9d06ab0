/- Package corr: what is seen from each side; two rows held against each other. -/
import Derived.Test.YtmpelpmgpklidaaCo2
namespace Go.Proofs.Ytmpelpmgpklidaa
open Go.RowKit

/-- up to the j-th point it stands -/
def Ag (l mk : List Pt) (k j : Nat) : Prop := (l.drop k).take j = mk.take j
theorem Ag.zero (l mk : List Pt) (k : Nat) : Ag l mk k 0 := rfl
theorem Ag.more {l mk : List Pt} {k j : Nat} (h : Ag l mk k j) (h1 : k + j < l.length) (h2 : j < mk.length) (he : l[k + j] = mk[j]) : Ag l mk k (j + 1) := by
  unfold Ag at h ⊢
  rw [List.take_succ_eq_append_getElem (by simp; omega), List.take_succ_eq_append_getElem h2, h, List.getElem_drop, he]
theorem Ag.never {l mark : List Pt} {k j t : Nat} (h1 : k + j < l.length) (h2 : j < (turnB mark t).length) (he : ¬ l[k + j] = (turnB mark t)[j]) : ¬ St l mark k t := by
  intro hs
  unfold St at hs
  have hj : j < mark.length := by rw [turnB_len] at h2; exact h2
  apply he
  have e := List.getElem_of_eq hs (i := j) (by simp; omega)
  rw [List.getElem_take, List.getElem_drop] at e
  exact e
theorem Ag.all {l mark : List Pt} {k t : Nat} (h : Ag l (turnB mark t) k mark.length) : St l mark k t := by
  unfold Ag at h
  unfold St
  rw [h, List.take_of_length_le (by rw [turnB_len]; exact Nat.le_refl _)]
theorem pt_cmp {x y : Bool} {p q : Pt} (h1 : x = decide (p.1 = q.1)) (h2 : y = decide (p.2 = q.2)) : (((!x) = true ∨ (!y) = true) → ¬ p = q) ∧ (((!x) = false ∧ (!y) = false) → p = q) := by
  subst h1 h2
  obtain ⟨a, b⟩ := p
  obtain ⟨c, d⟩ := q
  simp only [Prod.mk.injEq]
  constructor <;> intro h <;> simp at h ⊢ <;> omega

theorem Cs.off {X : Nat → Prop} {w w' : World} {A : Option Addr} {n c : Nat} {l : List Pt} (h : Cs w A n c l) (hA : Av X n A) (o : Off X w w') : Cs w' A n c l :=
  ⟨h.1, h.2.1, h.2.2.1, fun hn => by
    obtain ⟨b, of, vs, e, hb, hv, hc⟩ := h.2.2.2 hn
    exact ⟨b, of, vs, e, by have := o.size; omega, hv, fun j hj => (o.cell (p := ⟨b, of + j, none⟩) hb (hA hn ⟨b, of, none⟩ e)).trans (hc j hj)⟩⟩
theorem OwnC.fr {w : World} {B : Nat} {n c : Nat} {A : Option Addr} {l : List Pt} (h : OwnC w B (.slice A n c) l) : Av (· < B) n A := by
  obtain ⟨vs, h1, _⟩ := h
  exact own_fr h1
/-- the first k of the cells hold the mark as it looks from that many sides -/
def Looks (w : World) (g k : Nat) (mark : List Pt) (cs : Array Value) : Prop :=
  cs.size = 4 ∧ ∀ j, j < k → ∃ A c, cs[j]? = some (.slice A mark.length c) ∧ Cs w A mark.length c (turnB mark (j : Int)) ∧ Av (· ≤ g) mark.length A
theorem Looks.zero {w : World} {g : Nat} {mark : List Pt} {cs : Array Value} (h : cs.size = 4) : Looks w g 0 mark cs := ⟨h, fun j hj => absurd hj (by omega)⟩
theorem Looks.below {w w' : World} {g k : Nat} {mark : List Pt} {cs : Array Value} (h : Looks w g k mark cs) (o : Below w.heap.size w w') : Looks w' g k mark cs :=
  ⟨h.1, fun j hj => by
    obtain ⟨A, c, h1, h2, h3⟩ := h.2 j hj
    exact ⟨A, c, h1, h2.below o, h3⟩⟩
theorem Looks.put {w : World} {g k : Nat} {mark : List Pt} {cs : Array Value} (h : Looks w g k mark cs) (hk : k < 4) {A : Option Addr} {c : Nat} (hC : Cs w A mark.length c (turnB mark (k : Int))) (hA : Av (· ≤ g) mark.length A) :
    Looks (w.setCell ⟨g, k, none⟩ (.slice A mark.length c)) g (k + 1) mark (cs.setIfInBounds k (.slice A mark.length c)) := by
  have o : Off (· = g) w (w.setCell ⟨g, k, none⟩ (.slice A mark.length c)) := (Off.refl _ w).one k _
  refine ⟨by simpa using h.1, fun j hj => ?_⟩
  have h4 := h.1
  by_cases e : j = k
  · subst e
    refine ⟨A, c, ?_, hC.off (hA.imp (fun i hi => by omega)) o, hA⟩
    rw [Array.getElem?_setIfInBounds_self_of_lt (by omega)]
  · obtain ⟨A', c', h1, h2, h3⟩ := h.2 j (by omega)
    refine ⟨A', c', ?_, h2.off (h3.imp (fun i hi => by omega)) o, h3⟩
    rw [Array.getElem?_setIfInBounds_ne (fun h => e h.symm)]
    exact h1
theorem Looks.one {w : World} {g : Nat} {mark : List Pt} {cs : Array Value} (h : Looks w g 4 mark cs) : cs.all (·.oneCell') = true := by
  rw [Array.all_eq_true_iff_forall_mem]
  intro v hv
  obtain ⟨j, hj, rfl⟩ := Array.mem_iff_getElem.1 hv
  obtain ⟨A, c, h1, _⟩ := h.2 j (by have := h.1; omega)
  rw [Array.getElem?_eq_getElem hj] at h1
  injection h1 with h1
  rw [h1]
  rfl
theorem Looks.off {w w' : World} {g s k : Nat} {mark : List Pt} {cs : Array Value} (h : Looks w g k mark cs) (hs : s ≤ g) (o : Off (· = s) w w') : Looks w' s k mark cs :=
  ⟨h.1, fun j hj => by
    obtain ⟨A, c, h1, h2, h3⟩ := h.2 j hj
    exact ⟨A, c, h1, h2.off (h3.imp (fun i hi => by omega)) o, h3.imp (fun i hi => by omega)⟩⟩
/-- fromEachSide's end -/
def GivesLk (w : World) (mark : List Pt) (e : Ending) (w' : World) : Prop := ∃ cs, e = .returned (.agg cs) ∧ Looks w' w.heap.size 4 mark cs ∧ Below w.heap.size w w'
set_option maxHeartbeats 4000000 in
theorem sides_any (hT : ∀ (A : Option Addr) (n c : Nat) (l : List Pt) (k : Int) (w : World), Cs w A n c l → n ≤ 1000000 → (∀ p ∈ l, Mid p) → -9223372036854775808 ≤ k ∧ k ≤ 9223372036854775807 → Calls Try.prog 22 #[.slice A n c, .int .i64 k] w (GivesC w (turnB l k)))
    (B : Option Addr) (m d : Nat) (mark : List Pt) (w : World) (hQ : Cs w B m d mark) (hr : ∀ p ∈ mark, Near p) (hm : m ≤ 400) :
    Calls Try.prog 27 #[.slice B m d] w (GivesLk w mark) := by
  have hl2 := hQ.len
  have HT : Hid (∀ (t : Nat) W, Below w.heap.size w W → t < 4 → Calls Try.prog 22 #[.slice B m d, .int .i64 (t : Int)] W (GivesC W (turnB mark t))) := fun t W kk ht =>
    hT _ _ _ _ _ W (hQ.below kk) (by omega) (fun p hp => by have := hr p hp; unfold Near at this; unfold Mid; omega) (by omega)
  subst hl2
  clear hQ hr hT
  go_enter Try.func27, Try.ntmps27
  go_wp2_with (fail)
  go_loopw [5] (fun i wr => ∃ (k : Nat) (cs : Array Value), k ≤ 4 ∧ i = .int .i64 (k : Int) ∧ wr.heap[w.heap.size + 1]? = some (.cells cs 52 (0, 0)) ∧ wr.heap[w.heap.size]? = some (.cells #[.slice none 0 0, .slice none 0 0, .slice none 0 0, .slice none 0 0] 52 (0, 0)) ∧ Hid (Looks wr (w.heap.size + 1) k mark cs) ∧ Below w.heap.size w wr) (fun i _ => 4 - (intOf i).toNat)
  case atStart => exact ⟨0, _, by decide, rfl, heap_alloc2_new w _ _, (((Below.refl _ _).alloc (Nat.le_refl _) _).block _ (by simp)).trans (heap_alloc_new w _), Looks.zero rfl, ((Below.refl _ _).alloc (Nat.le_refl _) _).alloc (by simp) _⟩
  case round =>
    obtain ⟨k, cs, hk, rfl, hh, hz, HL, hbel⟩ := hrel
    have hgs := lt_of_block hh
    by_cases h4 : k < 4
    · have d1 : decide ((k : Int) < 4) = true := by simp; omega
      have i1 : (k : Int) < 4 := by omega
      have HTk := Lib.hid (HT.out k _ hbel h4)
      go_wp2_with (fail)
      refine HTk.out.mono ?_
      rintro e w2 ⟨v, rfl, hown, T2⟩
      have hfr := hown
      obtain ⟨A2, c2, rfl, hC2⟩ := hown.shape
      have hfr := hfr.fr
      rw [turnB_len] at hC2 hfr ⊢
      have hh2 := (T2.block _ hgs).trans hh
      have hz2 := (T2.block _ (by omega)).trans hz
      have hL2 := HL.out.below T2
      have hsz := hL2.1
      have HP := Lib.hid (hL2.put h4 hC2 (hfr.imp (fun i hi => by omega)))
      have T2 := nxt hbel T2
      obtain ⟨u, hu⟩ : ∃ u, cs[k]? = some u := ⟨cs[k]'(by omega), by simp⟩
      have hc := (cell_of_row w2 (w.heap.size + 1) k cs _ _ hh2).trans hu
      have hf := frozen_of_row w2 (w.heap.size + 1) k cs _ hh2
      have s1 := fun (W : World) (m : Mode) => run_store Try.prog W ⟨w.heap.size + 1, k, none⟩ (.slice A2 mark.length c2) m rfl
      have HH := Lib.hid (heap_setCell_same w2 (w.heap.size + 1) k cs _ (.slice A2 mark.length c2) hh2)
      have HZ := Lib.hid ((heap_setCell_other w2 ⟨w.heap.size + 1, k, none⟩ w.heap.size (.slice A2 mark.length c2) (by simp)).trans hz2)
      clear hfr hC2 hL2 hh2 hz2 hh hz HL hu
      go_wp2
      go_roundw
      case rel => exact ⟨k + 1, _, by omega, by go_num, HH.out, HZ.out, HP.out, T2.setCell (by simp) _⟩
      case measure => simp [intOf]; omega
    · obtain rfl : k = 4 := by omega
      have d1 : decide (((4 : Nat) : Int) < 4) = false := by decide
      have hsz := HL.out.1
      have hinf : (Try.prog.info? 52).map (·.size) = some cs.size := by rw [hsz]; kernel_rfl
      have hone := HL.out.one
      have HH := Lib.hid (setRow_heap wr w.heap.size _ cs _ _ hz)
      have HE : Hid (GivesLk w mark (.returned (.agg cs)) (wr.setRow w.heap.size cs)) := by
        refine ⟨cs, rfl, HL.out.off (by omega) ⟨rfl, rfl, rfl, by simp, fun k _ hk => setRow_other wr w.heap.size k cs hk⟩, ⟨hbel.os, hbel.tape, hbel.output, ?_, fun k hk => (setRow_other wr w.heap.size k cs (by omega)).trans (hbel.block k hk)⟩⟩
        rw [setRow_size]
        exact hbel.size
      clear hbel HL
      go_wp2_with (first | (refine wpList_load_row rfl 52 _ rfl (w.heap.size + 1) rfl 52 cs (0, 0) _ hh Try.underlying52 rfl hinf ?_) | (refine wpList_store_row rfl 52 _ _ rfl w.heap.size cs rfl rfl 52 _ hz hinf ?_ hone ?_; (rw [hsz]; rfl)))
      refine bodyPost_ret (v := .agg cs) (results_cell_row rfl _ _ w.heap.size 52 cs (0, 0) _ rfl HH.out Try.underlying52 rfl hinf) rfl ?_
      exact HE.out
end Go.Proofs.Ytmpelpmgpklidaa
