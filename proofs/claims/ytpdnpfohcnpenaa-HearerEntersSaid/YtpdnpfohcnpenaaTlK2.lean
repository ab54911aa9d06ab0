/- Package tally, as landed: Count, Clear; what a nil tally answers. -/
import Derived.Test.YtpdnpfohcnpenaaTlK1
namespace Go.Proofs.Ytpdnpfohcnpenaa
open Go.RowKit Go.Maps
set_option maxRecDepth 20000

theorem alPl_some {l : List Tal} {a : Int} {d : List UInt8} (h : alAt l a d < l.length) : alPl l a d = some (alAt l a d) := by unfold alPl; rw [if_pos h]
theorem alPl_none {l : List Tal} {a : Int} {d : List UInt8} (h : ¬ alAt l a d < l.length) : alPl l a d = none := by unfold alPl; rw [if_neg h]
/-- the new tally's map and rows in the old one's place -/
theorem TlI.cleared {g m m' b : Nat} {v v' : Value} {l l' : List Tal} {w w1 : World} (h : TlI g m v l w) (T : Below w.heap.size w w1) (h' : TlI b m' v' l' w1) (hb : ∀ k, (k = m' ∨ v'.ownBlock = some k) → w.heap.size ≤ k) :
    TlI g m' v' l' ((w1.setCell ⟨g, 0, none⟩ (.map (some m'))).setCell ⟨g, 1, none⟩ v') ∧ Off (· = g) w ((w1.setCell ⟨g, 0, none⟩ (.map (some m'))).setCell ⟨g, 1, none⟩ v') := by
  have hg := lt_of_block h.row
  have h1 : w1.heap[g]? = some (.cells #[.map (some m), v] 95 (0, 0)) := (T.block g hg).trans h.row
  have h2 := heap_setCell_same w1 g 0 _ _ (.map (some m')) h1
  have h3 := heap_setCell_same _ g 1 _ _ v' h2
  have O : Off (· = g) w1 ((w1.setCell ⟨g, 0, none⟩ (.map (some m'))).setCell ⟨g, 1, none⟩ v') := ((Off.refl (· = g) w1).one 0 _).one 1 _
  refine ⟨⟨by simpa using h3, fun e => by have := hb m' (.inl rfl); omega, h'.map.off O (fun e => by have := hb m' (.inl rfl); omega), h'.own.off O (fun k hk e => by have := hb k (.inr hk); omega), fun k hk => ⟨fun e => by have := hb k (.inr hk); omega, (h'.far k hk).2⟩⟩, ?_⟩
  exact (Off.of_below T).trans O
set_option maxHeartbeats 2000000 in
theorem tlclear_any (g : Nat) (l : List Tal) (w : World) (X : Nat → Prop) (hT : TlP g l w X) :
    Calls Try.prog 65 #[.pointer (some ⟨g, 0, none⟩)] w fun e w' => e = .returned (.tuple #[]) ∧ ∃ X', TlP g [] w' X' ∧ Turns X X' w w' := by
  obtain ⟨m, v, hI, hX, _, _, hlt⟩ := hT
  have H1 := Lib.hid (tlmade_any g m v l w hI)
  have H2 := Lib.hid (tlnew_any w)
  obtain ⟨c0, c1, f0, f1, hgw⟩ := hI.cells
  have HE : Hid (∀ w1, TlI (w.heap.size + 1) w.heap.size (.slice none 0 0) [] w1 → Below w.heap.size w w1 → ∃ X', TlP g [] ((w1.setCell ⟨g, 0, none⟩ (.map (some w.heap.size))).setCell ⟨g, 1, none⟩ (.slice none 0 0)) X' ∧ Turns X X' w ((w1.setCell ⟨g, 0, none⟩ (.map (some w.heap.size))).setCell ⟨g, 1, none⟩ (.slice none 0 0))) := fun w1 h1 T => by
    obtain ⟨h2, O⟩ := hI.cleared T h1 (fun k hk => hk.elim (fun h => by omega) (fun h => by cases h))
    exact TlP.turned hX hlt h2 (O.more (fun k hk => by subst hk; exact hX)) (.inr (Nat.le_refl _)) (fun k hk => by cases hk)
  have HF := Lib.hid (fun W (T : Below w.heap.size w W) => And.intro ((frozen_of_block (T.block g hgw) 0).trans f0) (And.intro ((frozen_of_block (T.block g hgw) 1).trans f1) (And.intro ((T.cell (p := ⟨g, 0, none⟩) hgw).trans c0) ((T.cell (p := ⟨g, 1, none⟩) hgw).trans c1))))
  clear hI hlt c0 c1 f0 f1
  go_enter Try.func65, Try.ntmps65
  go_wp2_with (fail)
  refine H1.out.mono ?_
  rintro e w1 ⟨rfl, rfl⟩
  go_wp2_with (fail)
  refine H2.out.mono ?_
  rintro e w1 ⟨rfl, h1, T1⟩
  obtain ⟨d0, d1, _, _, _⟩ := h1.cells
  obtain ⟨f0, f1, c0, c1⟩ := HF.out _ T1
  have HEE := Lib.hid (HE.out _ h1 T1)
  have hsz : w.heap.size + 1 < w1.heap.size := lt_of_block h1.row
  clear h1
  go_wp2
  go_end0
  exact ⟨rfl, HEE.out⟩
set_option maxHeartbeats 1000000 in
theorem tlnadd_any (a : Int) (A : Option Addr) (n c : Nat) (w : World) : Calls Try.prog 46 #[.pointer none, .int .i64 a, .slice A n c] w fun e w' => e = .returned (.int .u64 0) ∧ Below w.heap.size w w' := by
  have H1 := Lib.hid (tlnmade_any w)
  go_enter Try.func46, Try.ntmps46
  go_wp2_with (fail)
  refine H1.out.mono ?_
  rintro e w1 ⟨rfl, rfl⟩
  go_wp2
  go_ret
  exact ⟨rfl, Below.refl _ _⟩
set_option maxHeartbeats 1000000 in
theorem tlnbest_any (a : Int) (w : World) : Calls Try.prog 62 #[.pointer none, .int .i64 a] w (GivesBest w [] a) := by
  have H1 := Lib.hid (tlnmade_any w)
  have HF : Hid (GivesBest w [] a (.returned (.tuple #[.slice none 0 0, .int .u64 0])) w) := ⟨none, 0, 0, rfl, Fre.nil _ _, Below.refl _ _⟩
  go_enter Try.func62, Try.ntmps62
  go_wp2_with (fail)
  refine H1.out.mono ?_
  rintro e w1 ⟨rfl, rfl⟩
  go_wp2
  go_ret2
  exact HF.out
set_option maxHeartbeats 1000000 in
theorem tlnclear_any (w : World) : Calls Try.prog 65 #[.pointer none] w fun e w' => e = .returned (.tuple #[]) ∧ Below w.heap.size w w' := by
  have H1 := Lib.hid (tlnmade_any w)
  go_enter Try.func65, Try.ntmps65
  go_wp2_with (fail)
  refine H1.out.mono ?_
  rintro e w1 ⟨rfl, rfl⟩
  go_wp2
  go_end0
  exact ⟨rfl, Below.refl _ _⟩
end Go.Proofs.Ytpdnpfohcnpenaa
