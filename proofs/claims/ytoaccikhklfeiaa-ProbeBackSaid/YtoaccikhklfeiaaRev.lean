/- What slices.Reverse makes of bytes that may be written: the same bytes, the last first. -/
import Derived.Test.YtoaccikhklfeiaaOwn
import Derived.RegionTactic
import Derived.ChangeAlike
namespace Go.Proofs.Ytoaccikhklfeiaa
open Go.RowKit
set_option maxRecDepth 20000

/-- behind i exchanges of n bytes l, byte m -/
def revAt (l : List UInt8) (n i m : Nat) : UInt8 := if m < i ∨ n < m + 1 + i then l.getD (n - 1 - m) 0 else l.getD m 0
def RevAt (l : List UInt8) (B g n c : Nat) (w : World) (i : Nat) (jz : Int) (wr : World) : Prop :=
  jz = (n : Int) - 1 - i ∧ i ≤ n ∧ l.length = n ∧ B ≤ w.heap.size ∧ (∃ d, Own wr B g n c d ∧ ∀ m, m < n → d[m]? = some (revAt l n i m)) ∧ Below B w wr
theorem rev_start {w : World} {B g n c : Nat} {l : List UInt8} (h : Own w B g n c l) (hB : B ≤ w.heap.size) : RevAt l B g n c w 0 ((n : Int) - 1) w := by
  refine ⟨by omega, Nat.zero_le _, h.len, hB, ⟨l, h, fun m hm => ?_⟩, Below.refl _ _⟩
  have := h.len
  rw [revAt, if_neg (by omega), List.getD_eq_getElem?_getD, List.getElem?_eq_getElem (by omega)]
  rfl
theorem rev_cells {l : List UInt8} {B g n c : Nat} {w wr : World} {i jn : Nat} (h : RevAt l B g n c w i jn wr) (hlt : i < jn) :
    jn < n ∧ ∃ a b : UInt8, (wr.cell? ⟨g, i, none⟩ = some (.int .u8 (a.toNat : Int)) ∧ wr.frozen? ⟨g, i, none⟩ = false) ∧ (wr.cell? ⟨g, jn, none⟩ = some (.int .u8 (b.toNat : Int)) ∧ wr.frozen? ⟨g, jn, none⟩ = false) ∧
      ∀ k, RevAt l B g n c w (i + 1) ((jn : Int) - 1) (((wr.drewN k).setCell ⟨g, i, none⟩ (.int .u8 (b.toNat : Int))).setCell ⟨g, jn, none⟩ (.int .u8 (a.toNat : Int))) := by
  obtain ⟨hj, hi, hl, hB, ⟨d, ho, hd⟩, hb⟩ := h
  have hdl := ho.len
  have hjn : jn < n := by omega
  refine ⟨hjn, d[i], d[jn], ⟨ho.cell i (by omega), ho.free i (by omega)⟩, ⟨ho.cell jn (by omega), ho.free jn (by omega)⟩, fun k => ⟨by omega, by omega, hl, hB, ⟨_, ((ho.drewN k).set i d[jn] (by omega)).set jn d[i] hjn, fun m hm => ?_⟩, ((below_drewN' hb k).setCell ho.base _).setCell ho.base _⟩⟩
  have e1 : d[i] = revAt l n i i := by
    have := hd i (by omega)
    rw [List.getElem?_eq_getElem (by omega)] at this
    exact Option.some.inj this
  have e2 : d[jn] = revAt l n i jn := by
    have := hd jn hjn
    rw [List.getElem?_eq_getElem (by omega)] at this
    exact Option.some.inj this
  rw [List.getElem?_set, List.getElem?_set, hd m hm]
  simp only [List.length_set, hdl]
  by_cases c1 : jn = m
  · subst c1
    rw [if_pos rfl, if_pos hjn, e1]
    congr 1
    unfold revAt
    rw [if_neg (by omega), if_pos (by omega)]
    congr 1
    omega
  · rw [if_neg c1]
    by_cases c2 : i = m
    · subst c2
      rw [if_pos rfl, if_pos (by omega), e2]
      congr 1
      unfold revAt
      rw [if_neg (by omega), if_pos (by omega)]
      congr 1
      omega
    · rw [if_neg c2]
      congr 1
      unfold revAt
      by_cases c3 : m < i ∨ n < m + 1 + i
      · rw [if_pos c3, if_pos (by omega)]
      · rw [if_neg c3, if_neg (by omega)]
theorem rev_end {l : List UInt8} {B g n c : Nat} {w wr : World} {i : Nat} {jz : Int} (h : RevAt l B g n c w i jz wr) (hge : ¬ (i : Int) < jz) : Own wr B g n c l.reverse ∧ Below B w wr := by
  obtain ⟨hj, hi, hl, hB, ⟨d, ho, hd⟩, hb⟩ := h
  have hdl := ho.len
  have e : d = l.reverse := by
    apply List.ext_getElem?
    intro m
    by_cases hm : m < n
    · rw [hd m hm, List.getElem?_reverse (by omega)]
      rw [List.getElem?_eq_getElem (by omega)]
      congr 1
      unfold revAt
      split
      · rw [List.getD_eq_getElem?_getD, List.getElem?_eq_getElem (by omega)]
        simp [hl]
      · rw [List.getD_eq_getElem?_getD, List.getElem?_eq_getElem (by omega)]
        have : l.length - 1 - m = m := by omega
        simp [this]
    · rw [List.getElem?_eq_none (by omega), List.getElem?_eq_none (by simp; omega)]
  rw [← e]
  exact ⟨ho, hb⟩

set_option maxHeartbeats 1000000 in
theorem rev_any (B g n c : Nat) (l : List UInt8) (w : World) (h : Own w B g n c l) (hB : B ≤ w.heap.size) :
    Calls Try.prog 35 #[.slice (some ⟨g, 0, none⟩) n c] w fun e w' => e = .returned (.tuple #[]) ∧ Own w' B g n c l.reverse ∧ Below B w w' := by
  have hle := h.le
  have hcap := h.cap
  have H := rev_start h hB
  clear h
  go_enter Try.func35, Try.ntmps35
  go_wp2
  go_loopw [2, 3] (fun s2 s3 wr => ∃ (i : Nat) (jz : Int), s2 = .int .i64 i ∧ s3 = .int .i64 jz ∧ jz < n ∧ RevAt l B g n c w i jz wr) (fun s2 s3 _ => (intOf s3 - intOf s2).toNat)
  case atStart => exact ⟨0, _, rfl, rfl, by omega, H⟩
  case round =>
    obtain ⟨i, jz, rfl, rfl, hjz, hR⟩ := hrel
    by_cases hlt : (i : Int) < jz
    · obtain ⟨jn, rfl⟩ := Int.eq_ofNat_of_zero_le (show 0 ≤ jz by omega)
      obtain ⟨hjn, a, b, ⟨c1, f1⟩, ⟨c2, f2⟩, HN⟩ := rev_cells hR (by omega)
      have HN := Lib.hid HN
      clear hR H
      have hij : i < jn := by omega
      go_wp2_with (fail)
      go_region
      go_wp2
      go_roundw
      case rel => exact ⟨i + 1, (jn : Int) - 1, by go_num, rfl, by omega, HN.out _⟩
      case measure => simp [intOf]; omega
    · have hE := Lib.hid (rev_end hR hlt)
      clear hR H
      go_wp2
      go_end0
      exact ⟨rfl, hE.out⟩
end Go.Proofs.Ytoaccikhklfeiaa
