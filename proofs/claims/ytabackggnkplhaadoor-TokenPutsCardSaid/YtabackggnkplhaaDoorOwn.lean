/- Bytes in memory that the call itself made and that may be written; what slices.Reverse makes of them has a file of its own. -/
import Derived.Test.YtabackggnkplhaaDoorWords
import Derived.Lib.SlFresh
namespace Go.Proofs.YtabackggnkplhaaDoor
open Go.RowKit
set_option maxRecDepth 20000

/-- The bytes l lie at the head of block g, at or above block B; none of them is frozen. -/
def Own (w : World) (B g n c : Nat) (l : List UInt8) : Prop :=
  l.length = n ∧ n ≤ c ∧ c ≤ maxLen ∧ B ≤ g ∧ g < w.heap.size ∧ ∀ j (h : j < l.length), w.cell? ⟨g, j, none⟩ = some (.int .u8 (l[j].toNat : Int)) ∧ w.frozen? ⟨g, j, none⟩ = false
section
variable {w w' : World} {B g n c : Nat} {l : List UInt8}
theorem Own.len (h : Own w B g n c l) : l.length = n := h.1
theorem Own.le (h : Own w B g n c l) : n ≤ c := h.2.1
theorem Own.cap (h : Own w B g n c l) : c ≤ 9223372036854775807 := h.2.2.1
theorem Own.base (h : Own w B g n c l) : B ≤ g := h.2.2.2.1
theorem Own.lt (h : Own w B g n c l) : g < w.heap.size := h.2.2.2.2.1
theorem Own.cell (h : Own w B g n c l) (j : Nat) (hj : j < l.length) : w.cell? ⟨g, j, none⟩ = some (.int .u8 (l[j].toNat : Int)) := (h.2.2.2.2.2 j hj).1
theorem Own.free (h : Own w B g n c l) (j : Nat) (hj : j < l.length) : w.frozen? ⟨g, j, none⟩ = false := (h.2.2.2.2.2 j hj).2
theorem Own.bys (h : Own w B g n c l) : Bys w (some ⟨g, 0, none⟩) n c l :=
  ⟨h.1, h.2.1, h.2.2.1, fun _ => ⟨g, 0, rfl, h.lt, fun j hj => by rw [Nat.zero_add]; exact h.cell j hj⟩⟩
theorem Own.of_row {e : TypeId} (h : w.ownsRow B e 1 (.slice (some ⟨g, 0, none⟩) n c) n (bvs l)) : Own w B g n c l := by
  have hl : l.length = n := by have := h.1; simpa [bvs] using this
  have hb := Bys.of_own h
  have hlt := h.lt g rfl
  refine ⟨hl, hb.le, hb.2.2.1, hlt.1, hlt.2, fun j hj => ⟨?_, h.frozenAt j⟩⟩
  rw [h.cellAt j (by omega), bvs_get l j hj]
  rfl
theorem Own.of_fresh {v : Value} (h : Lib.FreshBytes B w v l) (hn : 0 < l.length) : ∃ g c, v = .slice (some ⟨g, 0, none⟩) l.length c ∧ Own w B g l.length c l := by
  obtain ⟨g, cap, zs, hv, hB, hlc, hcm, hz, hr, hb, hc, hf⟩ := h
  refine ⟨g, cap, hv, rfl, hlc, hcm, hB, block_lt_of_cell (hc 0 (by omega)), fun j hj => ⟨?_, hf j (by omega)⟩⟩
  have hj2 : j < zs.length := by omega
  have h1 : l[j] = UInt8.ofNat (zs[j]).toNat := by
    have e : (Lib.bytesOf (zs.take l.length))[j]? = l[j]? := by rw [hb]
    rw [List.getElem?_eq_getElem hj] at e
    simp only [Lib.bytesOf, List.getElem?_map, List.getElem?_take, if_pos hj, List.getElem?_eq_getElem hj2, Option.map_some] at e
    injection e with e
    exact e.symm
  have h2 := hr zs[j] (List.getElem_mem hj2)
  rw [hc j (by omega), List.getD_eq_getElem?_getD, List.getElem?_eq_getElem hj2, h1, UInt8.toNat_ofNat']
  simp
  omega
theorem Own.below (h : Own w B g n c l) (hb : Below w.heap.size w w') : Own w' B g n c l :=
  ⟨h.1, h.2.1, h.2.2.1, h.base, by have := hb.size; have := h.lt; omega, fun j hj => ⟨(hb.cell (p := ⟨g, j, none⟩) h.lt).trans (h.cell j hj), (hb.frozen (p := ⟨g, j, none⟩) h.lt).trans (h.free j hj)⟩⟩
theorem Own.down {B' : Nat} (h : Own w B g n c l) (hb : B' ≤ B) : Own w B' g n c l := ⟨h.1, h.2.1, h.2.2.1, Nat.le_trans hb h.base, h.lt, h.2.2.2.2.2⟩
/-- one byte stored -/
theorem Own.set (h : Own w B g n c l) (j : Nat) (b : UInt8) (hj : j < n) : Own (w.setCell ⟨g, j, none⟩ (.int .u8 (b.toNat : Int))) B g n c (l.set j b) := by
  have hl := h.len
  refine ⟨by simpa using h.1, h.2.1, h.2.2.1, h.base, by simpa using h.lt, fun k hk => ⟨?_, ?_⟩⟩
  · by_cases e : j = k
    · subst e
      rw [World.cell?_setCell_same _ _ _ (h.cell j (by omega)), List.getElem_set_self]
    · rw [World.cell?_setCell_other _ _ _ _ (by intro e2; injection e2 with _ e2; exact e e2)]
      have hk' : k < l.length := by simpa using hk
      rw [h.cell k hk', List.getElem_set_ne e]
  · rw [World.frozen?_setCell]
    exact h.free k (by simpa using hk)
theorem Own.drewN (h : Own w B g n c l) (k : Nat) : Own (w.drewN k) B g n c l := h
end
/-- A call's end that makes a []byte, of one byte at least, in memory of its own, which may be written. -/
def GivesO (w : World) (l : List UInt8) (e : Ending) (w' : World) : Prop :=
  ∃ g c, e = .returned (.slice (some ⟨g, 0, none⟩) l.length c) ∧ Own w' w.heap.size g l.length c l ∧ Below w.heap.size w w'
theorem GivesO.givesB {w : World} {l : List UInt8} {e : Ending} {w' : World} (h : GivesO w l e w') : GivesB w l e w' := by
  obtain ⟨g, c, he, ho, hb⟩ := h
  exact ⟨_, _, _, he, ho.bys, hb⟩
end Go.Proofs.YtabackggnkplhaaDoor
