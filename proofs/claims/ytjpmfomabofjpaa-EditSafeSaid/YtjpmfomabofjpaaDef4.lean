/- Package deframe as it landed: Feed of no scanner, All; what the law's own helpers answer. -/
import Derived.Test.YtjpmfomabofjpaaDef3
namespace Go.Proofs.Ytjpmfomabofjpaa
open Go.RowKit

theorem OwnR.down {w : World} {B B' : Nat} {v : Value} {ls : List (List UInt8)} (h : OwnR w B v ls) (hB : B' ≤ B) : OwnR w B' v ls := by
  obtain ⟨vs, h1, h2⟩ := h
  refine ⟨vs, ⟨h1.1, ?_⟩, h2.imp (fun k _ hk => by rcases hk with hk | hk; exact .inl (by omega); exact .inr hk)⟩
  rcases h1.2 with h3 | ⟨g, cap, cur, hv, hg, r⟩
  · exact Or.inl h3
  · exact Or.inr ⟨g, cap, cur, hv, by omega, r⟩

set_option maxHeartbeats 1000000 in
set_option maxRecDepth 100000 in
theorem feed_no (s : Value) (A : Option Addr) (n c : Nat) (w : World) (h : Calls Try.prog 42 #[s] w fun e w' => e = .returned (.bool false) ∧ w = w') :
    Calls Try.prog 37 #[s, .slice A n c] w fun e w' => e = .returned (.slice none 0 0) ∧ w = w' := by
  have H := Lib.hid h
  clear h
  go_enter Try.func37, Try.ntmps37
  go_wp2_with (fail)
  go_step3
  go_wp2_with (fail)
  refine H.out.mono ?_
  rintro e w1 ⟨rfl, rfl⟩
  go_wp2_with (fail)
  rw [Exit.noGoto_ret]
  go_ret
  exact ⟨rfl, rfl⟩

theorem Bys.av {w : World} {A : Option Addr} {n c : Nat} {l : List UInt8} (h : Bys w A n c l) : Av (fun k => w.heap.size ≤ k) n A := fun hn p e hp => by
  obtain ⟨b, o, e', hb, _⟩ := h.at_ hn
  rw [e] at e'
  injection e' with e'
  subst e'
  exact absurd hb (by simp at hp ⊢; exact hp)
/-- All's end -/
def AllP (w : World) (ls : List (List UInt8)) (e : Ending) (w' : World) : Prop := ∃ v, e = .returned v ∧ OwnR w' w.heap.size v ls ∧ Below w.heap.size w w'
set_option maxHeartbeats 1000000 in
theorem all_nil (A : Option Addr) (n c : Nat) (w : World) : Calls Try.prog 28 #[.pointer none, .slice A n c] w fun e w' => e = .returned (.slice none 0 0) ∧ Below w.heap.size w w' := by
  have H := Lib.hid (dnew_nil w)
  have F := Lib.hid (fun W => feed_no (.pointer none) A n c W (smade_nil W))
  go_enter Try.func28, Try.ntmps28
  go_wp2_with (fail)
  refine H.out.mono ?_
  rintro e w1 ⟨rfl, T⟩
  go_wp2_with (fail)
  refine (F.out _).mono ?_
  rintro e w2 ⟨rfl, rfl⟩
  go_wp2
  go_ret
  exact ⟨rfl, T⟩
set_option maxHeartbeats 1000000 in
theorem all_any (t : Addr) (A : Option Addr) (n c : Nat) (b : List UInt8) (w : World) (ht : Tab w t) (hB : Bys w A n c b) (hn : n ≤ 1073741824) :
    Calls Try.prog 28 #[.pointer (some t), .slice A n c] w (AllP w (scRun (scNew, []) b).2) := by
  have H := Lib.hid (dnew_any t w ht)
  have htl : t.block < w.heap.size := by obtain ⟨g, rfl, h1, _⟩ := ht; exact h1
  go_enter Try.func28, Try.ntmps28
  go_wp2_with (fail)
  refine H.out.mono ?_
  rintro e w1 ⟨S, rfl, hS, hs, T⟩
  have F := Lib.hid (feed_any S t scNew A n c b w1 (ht.below T) (by omega) hs (hB.below T) (hB.av.imp (fun k hk => by have hk : k = S := hk; show w.heap.size ≤ k; omega)) hn (by decide) (by decide) (by decide))
  clear hs
  go_wp2_with (fail)
  refine F.out.mono ?_
  rintro e w2 ⟨v, rfl, hO, -, hF⟩
  have hO := Lib.hid hO
  have hF := Lib.hid hF
  go_wp2_with (fail)
  go_ret
  exact ⟨v, rfl, hO.out.down T.size, T.trans (hF.out.below (fun k hk => by have hk : k = S := hk; omega) T.size)⟩

def live05 : List UInt8 := [9, 0x7e, 0, 0, 0, 0, 0x7e, 0x7e, 5, 0x7e]
theorem live05_run : scRun (scNew, []) live05 = (⟨1, [], 1, 1, 0, 1⟩, [[]]) := by kernel_rfl
end Go.Proofs.Ytjpmfomabofjpaa
