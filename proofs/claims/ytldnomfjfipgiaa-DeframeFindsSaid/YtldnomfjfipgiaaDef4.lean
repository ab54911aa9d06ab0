/- Package deframe as it landed: Feed of no scanner, All; what the law's own helpers answer. -/
import Derived.Test.YtldnomfjfipgiaaDef3
namespace Go.Proofs.Ytldnomfjfipgiaa
open Go.RowKit

theorem OwnR.down {w : World} {B B' : Nat} {v : Value} {ls : List (List UInt8)} (h : OwnR w B v ls) (hB : B' ≤ B) : OwnR w B' v ls := by
  obtain ⟨vs, h1, h2⟩ := h
  refine ⟨vs, ⟨h1.1, ?_⟩, h2.imp (fun k _ hk => by rcases hk with hk | hk; exact .inl (by omega); exact .inr hk)⟩
  rcases h1.2 with h3 | ⟨g, cap, cur, hv, hg, r⟩
  · exact Or.inl h3
  · exact Or.inr ⟨g, cap, cur, hv, by omega, r⟩

set_option maxHeartbeats 1000000 in
set_option maxRecDepth 100000 in
theorem feed_no (s : Value) (A : Option Addr) (n c : Nat) (w : World) (h : Calls Try.prog 23 #[s] w fun e w' => e = .returned (.bool false) ∧ w = w') :
    Calls Try.prog 11 #[s, .slice A n c] w fun e w' => e = .returned (.slice none 0 0) ∧ w = w' := by
  have H := Lib.hid h
  clear h
  go_enter Try.func11, Try.ntmps11
  go_wp2_with (fail)
  go_step3
  go_wp2_with (fail)
  refine H.out.mono ?_
  rintro e w1 ⟨rfl, rfl⟩
  go_wp2_with (fail)
  rw [Exit.noGoto_ret]
  go_ret
  exact ⟨rfl, rfl⟩

theorem Bys.av {w : World} {A : Option Addr} {n c : Nat} {l : List UInt8} (h : Bys w A n c l) : Av (fun k => w.heap.size ≤ k) n A := fun hn p e hp => by
  obtain ⟨b, o, e', hb, _⟩ := h.at_ hn
  rw [e] at e'
  injection e' with e'
  subst e'
  exact absurd hb (by simp at hp ⊢; exact hp)
/-- All's end -/
def AllP (w : World) (ls : List (List UInt8)) (e : Ending) (w' : World) : Prop := ∃ v, e = .returned v ∧ OwnR w' w.heap.size v ls ∧ Below w.heap.size w w'
set_option maxHeartbeats 1000000 in
theorem all_nil (A : Option Addr) (n c : Nat) (w : World) : Calls Try.prog 16 #[.pointer none, .slice A n c] w fun e w' => e = .returned (.slice none 0 0) ∧ Below w.heap.size w w' := by
  have H := Lib.hid (dnew_nil w)
  have F := Lib.hid (fun W => feed_no (.pointer none) A n c W (smade_nil W))
  go_enter Try.func16, Try.ntmps16
  go_wp2_with (fail)
  refine H.out.mono ?_
  rintro e w1 ⟨rfl, T⟩
  go_wp2_with (fail)
  refine (F.out _).mono ?_
  rintro e w2 ⟨rfl, rfl⟩
  go_wp2
  go_ret
  exact ⟨rfl, T⟩
set_option maxHeartbeats 1000000 in
theorem all_any (t : Addr) (A : Option Addr) (n c : Nat) (b : List UInt8) (w : World) (ht : Tab w t) (hB : Bys w A n c b) (hn : n ≤ 1073741824) :
    Calls Try.prog 16 #[.pointer (some t), .slice A n c] w (AllP w (scRun (scNew, []) b).2) := by
  have H := Lib.hid (dnew_any t w ht)
  have htl : t.block < w.heap.size := by obtain ⟨g, rfl, h1, _⟩ := ht; exact h1
  go_enter Try.func16, Try.ntmps16
  go_wp2_with (fail)
  refine H.out.mono ?_
  rintro e w1 ⟨S, rfl, hS, hs, T⟩
  have F := Lib.hid (feed_any S t scNew A n c b w1 (ht.below T) (by omega) hs (hB.below T) (hB.av.imp (fun k hk => by have hk : k = S := hk; show w.heap.size ≤ k; omega)) hn (by decide) (by decide) (by decide))
  clear hs
  go_wp2_with (fail)
  refine F.out.mono ?_
  rintro e w2 ⟨v, rfl, hO, -, hF⟩
  have hO := Lib.hid hO
  have hF := Lib.hid hF
  go_wp2_with (fail)
  go_ret
  exact ⟨v, rfl, hO.out.down T.size, T.trans (hF.out.below (fun k hk => by have hk : k = S := hk; omega) T.size)⟩

set_option maxHeartbeats 1000000 in
theorem same05_true (g b l z : Nat) (w : World) (x y : Value) (hx : x = .agg #[.int .i64 (g : Int), .int .i64 (b : Int), .int .i64 (l : Int), .int .i64 (z : Int)]) (hy : y = .agg #[.int .i64 (g : Int), .int .i64 (b : Int), .int .i64 (l : Int), .int .i64 (z : Int)]) :
    Calls Try.prog 14 #[x, y] w fun e w' => e = .returned (.bool true) ∧ Below w.heap.size w w' := by
  subst hx
  subst hy
  have e1 : ((g : Int) == (g : Int)) = true := by simp
  have e2 : ((b : Int) == (b : Int)) = true := by simp
  have e3 : ((l : Int) == (l : Int)) = true := by simp
  have e4 : ((z : Int) == (z : Int)) = true := by simp
  go_enter Try.func14, Try.ntmps14
  go_wp2_with (fail)
  go_ret
  exact ⟨rfl, ((Below.refl _ _).alloc (Nat.le_refl _) _).alloc (by simp) _⟩
def live05 : List UInt8 := [9, 0x7e, 0, 0, 0, 0, 0x7e, 0x7e, 5, 0x7e]
theorem live05_run : scRun (scNew, []) live05 = (⟨1, [], 1, 1, 0, 1⟩, [[]]) := by kernel_rfl
set_option maxHeartbeats 2000000 in
theorem live05_any (w : World) : Calls Try.prog 8 #[] w fun e w' => e = .returned (.bool true) ∧ Below w.heap.size w w' := by
  go_enter Try.func8, Try.ntmps8
  go_wp2_with (fail)
  refine (new_any w).mono ?_
  rintro e w1 ⟨t, rfl, ht, T⟩
  have H := Lib.hid (dnew_any t w1 ht)
  go_wp2_with (fail)
  refine H.out.mono ?_
  rintro e w2 ⟨S, rfl, hS, hs, G⟩
  have htl : t.block < w1.heap.size := by obtain ⟨g, rfl, h1, _⟩ := ht; exact h1
  have ht2 := ht.below G
  have hwz := T.size
  have T := nxt T G
  have hSl := hs.lt
  have F := fun W (h1 : Tab W t) (h2 : Scn W S t scNew) (h3 : Bys W (some ⟨w2.heap.size, 0, none⟩) 10 10 live05) => feed_any S t scNew (some ⟨w2.heap.size, 0, none⟩) 10 10 live05 W h1 (by omega) h2 h3 (Av.of (by show ¬ (w2.heap.size = S); omega)) (by decide) (by decide) (by decide) (by decide)
  have F := Lib.hid F
  have HL : Hid (∀ W : World, Bys (W.alloc (.cells (bvs live05).toArray 5)) (some ⟨W.heap.size, 0, none⟩) 10 10 live05) := fun W => Bys.lit W live05 (by decide)
  have HS := Lib.hid hs
  clear H hs
  go_wp2_with (fail)
  refine (F.out _ (ht2.below ((Below.refl _ _).alloc (Nat.le_refl _) _)) (HS.out.below ((Below.refl _ _).alloc (Nat.le_refl _) _)) (HL.out w2)).mono ?_
  rintro e w3 ⟨v, rfl, hO, hs3, hF⟩
  rw [live05_run] at hO hs3
  have hO : OwnR w3 _ v [[]] := hO
  have hs3 : Scn w3 S t ⟨1, [], 1, 1, 0, 1⟩ := hs3
  obtain ⟨P, cc, hv, hR⟩ := hO.shape
  rw [show ([[]] : List (List UInt8)).length = 1 from rfl] at hv hR
  subst hv
  have hcc := hR.2.1
  have hcm := hR.2.2.1
  unfold maxLen at hcm
  obtain ⟨gb, go, A9, d9, rfl, hgb, hk9, c9, -⟩ := hR.rws.at_ 0 (by decide)
  have C9 : w3.cell? ⟨gb, go, none⟩ = some (.slice A9 0 d9) := c9
  clear c9
  have T3 : Below w.heap.size w w3 := T.trans ((((Below.refl w2.heap.size w2).alloc (Nat.le_refl _) (.cells (bvs live05).toArray 5)).mono T.size).trans (hF.below (fun k hk => by have hk : k = S := hk; omega) (by simp; have := T.size; omega)))
  clear F HL HS hO hF hR hk9 ht2
  go_wp2_with (fail)
  refine (seen_any S t _ _ hs3).mono ?_
  rintro e w4 ⟨rfl, G4⟩
  have T4 := nxt T3 G4
  go_wp2_with (fail)
  refine (same05_true 1 1 0 1 _ _ _ rfl rfl).mono ?_
  rintro e w5 ⟨rfl, G5⟩
  have T5 := nxt T4 G5
  go_wp2_with (fail)
  go_ret
  exact ⟨rfl, T5⟩
end Go.Proofs.Ytldnomfjfipgiaa
