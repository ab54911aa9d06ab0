/- What kedgeref16's Put answers. -/
import Derived.Test.YtgppoapdpgblmaaRfl2
import Derived.Test.YtgppoapdpgblmaaRcopy
namespace Go.Proofs.Ytgppoapdpgblmaa
open Go.RowKit
set_option maxRecDepth 20000

def fsPrune (life sent : Nat) (l : List Frm) : List Frm := l.filter fun f => decide (sent - f.1 < life)
def fsKeep (life sent : Nat) (l : List Frm) : List Frm := if life = 0 then l else fsPrune life sent l
def fsPutE (s : Fs) (d : Int) (n : Nat) : Nat := if d < 0 ∨ 1 < d then 1 else if 512 < n then 2 else if 4096 ≤ fsLen s d then 3 else 0
/-- behind a frame that was put in the direction 0, or 1 -/
def fsPut0 (s : Fs) (b : List UInt8) : Fs := { s with s0 := s.s0 + 1, l0 := fsKeep s.life (s.s0 + 1) (s.l0 ++ [(s.s0 + 1, b, b)]), gone := s.gone + (s.l0.length + 1 - (fsKeep s.life (s.s0 + 1) (s.l0 ++ [(s.s0 + 1, b, b)])).length) }
def fsPut1 (s : Fs) (b : List UInt8) : Fs := { s with s1 := s.s1 + 1, l1 := fsKeep s.life (s.s1 + 1) (s.l1 ++ [(s.s1 + 1, b, b)]), gone := s.gone + (s.l1.length + 1 - (fsKeep s.life (s.s1 + 1) (s.l1 ++ [(s.s1 + 1, b, b)])).length) }
def fsPut (s : Fs) (d : Int) (b : List UInt8) : Fs := if fsPutE s d b.length = 0 then (if d = 0 then fsPut0 s b else fsPut1 s b) else s
theorem prune_take (life sent : Nat) (l : List Frm) (j : Nat) (h : j < l.length) : fsPrune life sent (l.take (j + 1)) = if sent - l[j].1 < life then fsPrune life sent (l.take j) ++ [l[j]] else fsPrune life sent (l.take j) := by
  unfold fsPrune
  rw [List.take_succ_eq_append_getElem h, List.filter_append]
  by_cases hc : sent - l[j].1 < life
  · rw [if_pos hc]; simp [hc]
  · rw [if_neg hc]; simp [hc]
theorem prune_le (life sent : Nat) (l : List Frm) : (fsPrune life sent l).length ≤ l.length := List.length_filter_le _ _
theorem prune_mem {life sent : Nat} {l : List Frm} {f : Frm} (h : f ∈ fsPrune life sent l) : f ∈ l := (List.mem_filter.1 h).1
set_option maxHeartbeats 2000000 in
theorem rfput_bad (g : Nat) (s : Fs) (d : Int) (A : Option Addr) (n c : Nat) (b : List UInt8) (w : World) (X : Nat → Prop) (h : RF g s w X) (hB : Bys w A n c b) (hbad : fsPutE s d n ≠ 0) :
    Calls Try.prog 12 #[.pointer (some ⟨g, 0, none⟩), .int .i64 d, .slice A n c] w fun e w' => e = .returned (.int .i64 (fsPutE s d n : Nat)) ∧ ∃ X', RF g (fsPut s d b) w' X' ∧ Turns X X' w w' := by
  have hl := hB.len
  have HS : Hid (fsPut s d b = s) := by show _ = _; unfold fsPut; rw [hl, if_neg hbad]
  have HT := Lib.hid h
  obtain ⟨v0, v1, h⟩ := h
  have hnc := hB.le
  have hcm := hB.cap
  clear hB hl
  by_cases h1 : d < 0
  · have d1 : decide (d < 0) = true := by simpa using h1
    have HE : Hid (fsPutE s d n = 1) := by show _ = _; unfold fsPutE; rw [if_pos (.inl h1)]
    clear h h1 hbad
    go_enter Try.func12, Try.ntmps12
    go_wp2
    go_ret
    exact ⟨by rw [HE.out]; rfl, by rw [HS.out]; exact ⟨X, HT.out, Turns.of_below (Below.refl _ _)⟩⟩
  by_cases h2 : 1 < d
  · have d1 : decide (d < 0) = false := by simpa using h1
    have d2 : decide (1 < d) = true := by simpa using h2
    have HE : Hid (fsPutE s d n = 1) := by show _ = _; unfold fsPutE; rw [if_pos (.inr h2)]
    clear h h1 h2 hbad
    go_enter Try.func12, Try.ntmps12
    go_wp2
    go_ret
    exact ⟨by rw [HE.out]; rfl, by rw [HS.out]; exact ⟨X, HT.out, Turns.of_below (Below.refl _ _)⟩⟩
  have hd : d = 0 ∨ d = 1 := by omega
  by_cases h3 : 512 < n
  · have HE : Hid (fsPutE s d n = 2) := by show _ = _; unfold fsPutE; rw [if_neg (by omega), if_pos h3]
    have d3 : decide (512 < (n : Int)) = true := by simp; omega
    clear h h1 h2 hbad h3
    rcases hd with rfl | rfl
    · go_enter Try.func12, Try.ntmps12
      go_wp2
      go_ret
      exact ⟨by rw [HE.out]; rfl, by rw [HS.out]; exact ⟨X, HT.out, Turns.of_below (Below.refl _ _)⟩⟩
    · go_enter Try.func12, Try.ntmps12
      go_wp2
      go_ret
      exact ⟨by rw [HE.out]; rfl, by rw [HS.out]; exact ⟨X, HT.out, Turns.of_below (Below.refl _ _)⟩⟩
  have h4 : 4096 ≤ fsLen s d := by
    unfold fsPutE at hbad
    rw [if_neg (by omega), if_neg h3] at hbad
    rcases Nat.lt_or_ge (fsLen s d) 4096 with h5 | h5
    · rw [if_neg (by omega)] at hbad; exact absurd rfl hbad
    · exact h5
  have HE : Hid (fsPutE s d n = 3) := by show _ = _; unfold fsPutE; rw [if_neg (by omega), if_neg h3, if_pos h4]
  have d3 : decide (512 < (n : Int)) = false := by simp; omega
  obtain ⟨c0, c1, c2, c3, c4, c5, -, -⟩ := h.cells
  obtain ⟨P0, k0, rfl, hk0, hm0, -⟩ := h.2.2.2.2.1.1.shape
  obtain ⟨P1, k1, rfl, hk1, hm1, -⟩ := h.2.2.2.2.2.1.shape
  clear h h1 h2 h3 hbad
  rcases hd with rfl | rfl
  · have h5 : 4096 ≤ s.l0.length := h4
    have d4 : decide (4096 ≤ (s.l0.length : Int)) = true := by simp; omega
    clear h4
    go_enter Try.func12, Try.ntmps12
    go_wp2
    go_ret
    exact ⟨by rw [HE.out]; rfl, by rw [HS.out]; exact ⟨X, HT.out, Turns.of_below (Below.refl _ _)⟩⟩
  · have h5 : 4096 ≤ s.l1.length := h4
    have d4 : decide (4096 ≤ (s.l1.length : Int)) = true := by simp; omega
    clear h4
    go_enter Try.func12, Try.ntmps12
    go_wp2
    go_ret
    exact ⟨by rw [HE.out]; rfl, by rw [HS.out]; exact ⟨X, HT.out, Turns.of_below (Below.refl _ _)⟩⟩
end Go.Proofs.Ytgppoapdpgblmaa
