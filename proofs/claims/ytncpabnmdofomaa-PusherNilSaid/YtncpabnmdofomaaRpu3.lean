/- What kedgeref24's Send answers. -/
import Derived.Test.YtncpabnmdofomaaRpu2
import Derived.Deep.RegionLaw
namespace Go.Proofs.Ytncpabnmdofomaa
open Go.RowKit
set_option maxRecDepth 20000

/-- behind the push of a message -/
theorem RPv.pushed {g gt : Nat} {v v' : Value} {s : Pus} {Xt Xl : Nat → Prop} {w w1 w3 : World} {m : List UInt8} {o : Obj} (h : RPv g gt v s Xt Xl w) (T1 : Below w.heap.size w w1)
    (hown : OwnY w3 0 (fun k => ¬ (Xl k ∨ w.heap.size ≤ k)) v' (s.ls ++ [m])) (hgrow : (w1.alloc o).grownBy w3 v.ownBlock) (hwhere : v'.ownBlock = v.ownBlock ∨ v'.ownBlock = some (w1.alloc o).heap.size) :
    ∃ Xl', RPv g gt v' (puAdd s m) Xt Xl' (w3.setCell ⟨g, 7, none⟩ v') ∧ Turns (Tri g Xt Xl) (Tri g Xt Xl') w (w3.setCell ⟨g, 7, none⟩ v') := by
  obtain ⟨h1, h2, h3, h4, h5, h6, h7, h8⟩ := h
  have hgw := lt_row h1
  have O3 : Off Xl w w3 := ((Off.of_below T1).alloc o).grown hgrow (fun k hk => .inl (h5 k hk))
  have hs1 : w.heap.size < (w1.alloc o).heap.size := by have := T1.size; simp; omega
  have hg3 := (O3.block g hgw h7).trans h1
  have hg4 := heap_setCell_same w3 g 7 _ _ v' hg3
  have O4 : Off (· = g) w3 (w3.setCell ⟨g, 7, none⟩ v') := (Off.refl (· = g) w3).setCell (p := ⟨g, 7, none⟩) (.inl rfl) v'
  have hsz : (w3.setCell ⟨g, 7, none⟩ v').heap.size = w3.heap.size := by simp [World.setCell]
  have hob : ∀ k, v'.ownBlock = some k → Xl k ∨ w.heap.size ≤ k := fun k hk => by
    rcases hwhere with h | h
    · exact .inl (h5 k (h ▸ hk))
    · rw [h] at hk; injection hk with hk; exact .inr (by omega)
  have hog : ∀ k, Xl k ∨ w.heap.size ≤ k → k ≠ g := fun k hk e => by
    subst e
    rcases hk with hk | hk
    · exact h7 hk
    · omega
  have hown4 := hown.off O4 (fun k _ e hx => hog k hx e) (fun k hk e => hog k (hob k hk) e)
  refine ⟨fun k => Xl k ∨ (w.heap.size ≤ k ∧ k < w3.heap.size), ⟨by simpa [pcells, puAdd] using hg4, ?_, hown4.imp (fun k hk hz hx => hz (hx.elim .inl (fun hx => .inr ⟨hx, by rw [hsz] at hk; exact hk⟩))), fun k hk => ?_, fun k hk => ?_, h6, fun hk => ?_, fun k hk hx => ?_⟩, ⟨(O3.more (fun k hk => .inr (.inr hk))).trans (O4.more (fun k hk => .inl hk)), fun k hk => ?_⟩⟩
  · exact (RT.holds _ _ _).off ((RT.holds _ _ _).off h2 O3 (fun k hk hx => h8 k hx hk)) O4 (fun k hk e => h6 (e ▸ hk))
  · rw [hsz]
    rcases hk with hk | hk
    · exact Nat.lt_of_lt_of_le (h4 k hk) O3.size
    · exact hk.2
  · rcases hob k hk with h | h
    · exact .inl h
    · exact .inr ⟨h, (hown.lt k hk).2⟩
  · rcases hk with hk | hk
    · exact h7 hk
    · omega
  · rcases hk with hk | hk
    · exact h8 k hk hx
    · have := h2.2.1 k hx; omega
  · rcases hk with hk | hk | hk
    · exact .inl (.inl hk)
    · exact .inl (.inr (.inl hk))
    · rcases hk with hk | hk
      · exact .inl (.inr (.inr hk))
      · exact .inr hk.1
set_option maxHeartbeats 16000000 in
theorem rpsend_any (g gt : Nat) (v : Value) (s : Pus) (Xt Xl : Nat → Prop) (A : Option Addr) (n c : Nat) (m : List UInt8) (w : World) (h : RPv g gt v s Xt Xl w) (hok : PsOk s) (hB : Bys w A n c m) (hb : s.ls.length < 100000) :
    Calls Try.prog 12 #[.pointer (some ⟨g, 0, none⟩), .slice A n c] w fun e w' => ∃ vo v' Xt' Xl', e = .returned (.tuple #[.int .i64 (puSendN s n : Nat), vo, .int .i64 (puSendE s n : Nat)]) ∧ Out w (Tri g Xt' Xl') vo (puSendL s m) w' ∧ RPv g gt v' (puSend s m) Xt' Xl' w' ∧ Turns (Tri g Xt Xl) (Tri g Xt' Xl') w w' := by
  have hml := hB.len
  obtain ⟨⟨-, -, c5⟩, c7, c8, -, -, hfz⟩ := h.cells
  obtain ⟨P, pc, rfl, hp1, hp2, _⟩ := h.lst
  have hcf := hok.1
  have hbl := hok.2.1
  by_cases h1 : 64 < n
  · have hE : puSendE s n = 2 := by unfold puSendE; rw [if_pos h1]
    have H1 : Hid (puSendN s n = 0 ∧ puSendL s m = [] ∧ puSend s m = s) := ⟨by unfold puSendN; rw [hE]; rfl, by unfold puSendL; rw [hml, hE]; rfl, by unfold puSend; rw [hml, hE]; rfl⟩
    have d1 : decide ((64 : Int) < (n : Int)) = true := by simp; omega
    have HR := Lib.hid h
    rw [hE]
    clear h hok hB hE h1 hml hfz hcf hbl
    go_enter Try.func12, Try.ntmps12
    go_wp2
    go_ret3
    rw [H1.out.1, H1.out.2.1, H1.out.2.2]
    exact ⟨_, _, Xt, Xl, rfl, Out.nil _ _ _, HR.out, Turns.of_below (Below.refl _ _)⟩
  · have d1 : decide ((64 : Int) < (n : Int)) = false := by simp; omega
    have hw1 : IntKind.i64.wrap ((s.ls.length : Int) - (s.base : Int)) = (s.ls.length : Int) - (s.base : Int) := IntWalk.i64_in _ (by omega)
    by_cases h2 : s.c.room ≤ (s.ls.length : Int) - (s.base : Int)
    · have hE : puSendE s n = 3 := by unfold puSendE; rw [if_neg h1, if_pos h2]
      have H1 : Hid (puSendN s n = 0 ∧ puSendL s m = [] ∧ puSend s m = s) := ⟨by unfold puSendN; rw [hE]; rfl, by unfold puSendL; rw [hml, hE]; rfl, by unfold puSend; rw [hml, hE]; rfl⟩
      have d2 : decide (s.c.room ≤ (s.ls.length : Int) - (s.base : Int)) = true := by simpa using h2
      have HR := Lib.hid h
      rw [hE]
      clear h hok hB hE h1 hml hfz hcf h2
      go_enter Try.func12, Try.ntmps12
      go_wp2_with (fail)
      go_quiet (fail)
      go_wp2
      go_ret3
      rw [H1.out.1, H1.out.2.1, H1.out.2.2]
      have B := below_drewN' (Below.refl w.heap.size w) nq
      exact ⟨_, _, Xt, Xl, rfl, Out.nil _ _ _, HR.out.below B, Turns.of_below B⟩
    · have d2 : decide (s.c.room ≤ (s.ls.length : Int) - (s.base : Int)) = false := by simpa using h2
      have hE : puSendE s n = 0 := by unfold puSendE; rw [if_neg h1, if_neg h2]
      have H1 : Hid (puSendN s n = s.ls.length ∧ puSendL s m = puOnL (puAdd s m) ∧ puSend s m = puOn (puAdd s m)) := ⟨by unfold puSendN; rw [if_pos hE], by unfold puSendL; rw [hml, if_pos hE], by unfold puSend; rw [hml, if_pos hE]⟩
      have hgw := lt_row h.1
      have HOKA := Lib.hid (hok.add m (by rw [hml]; exact hE))
      have HCP := Lib.hid (fun W (U : Below w.heap.size w W) => rcopy_any A n c m W (hB.below U) (by omega))
      have HOW := Lib.hid (h.2.2.1.imp (Z' := fun k => ¬ (Xl k ∨ w.heap.size ≤ k)) (fun k _ hz hx => hz (.inl hx)))
      have HOB := Lib.hid h.2.2.2.2.1
      have HXL := Lib.hid h.2.2.2.1
      have HXG := Lib.hid h.2.2.2.2.2.2.1
      have HR := Lib.hid h
      have HPSH := Lib.hid (fun w1 w3 o v' T1 hown hgrow hwhere => RPv.pushed (m := m) (w1 := w1) (w3 := w3) (o := o) (v' := v') h T1 hown hgrow hwhere)
      have f7 := hfz 7
      obtain ⟨N, hN⟩ : ∃ N, s.ls.length = N := ⟨_, rfl⟩
      have HN := Lib.hid hN
      rw [hN] at c7 hp1 hw1 d2 hb
      have hN1 : (s.ls ++ [m]).length = N + 1 := by simp [hN]
      have HN1 := Lib.hid hN1
      have HML := Lib.hid hml
      rw [hE]
      have hn64 : n ≤ 64 := by omega
      clear h hok hB hE h1 hfz hcf h2 hN hN1 hbl
      go_enter Try.func12, Try.ntmps12
      go_wp2_with (fail)
      go_quiet (fail)
      go_wp2_with (fail)
      have P0 := below_drewN' (Below.refl w.heap.size w) nq
      have hBs := P0.size
      have c7' := (P0.cell (p := ⟨g, 7, none⟩) hgw).trans c7
      generalize w.drewN nq = W0 at *
      have HZ2 : Hid (∀ k, (Value.slice P N pc).ownBlock = some k → k < w.heap.size) := fun k hk => HXL.out k (HOB.out k (by rw [HN.out]; exact hk))
      have HZ3 : Hid (∀ k, (Value.slice P N pc).ownBlock = some k → k ≠ g) := fun k hk e => HXG.out (e ▸ HOB.out k (by rw [HN.out]; exact hk))
      have HOW2 : Hid (OwnY w 0 (fun k => ¬ (Xl k ∨ w.heap.size ≤ k)) (Value.slice P N pc) s.ls) := (by have h := HOW.out; rw [HN.out] at h; exact h)
      go_region_law
        (first
          | (go_simp; go_at_call 30; (with_reducible refine (HCP.out _ (by first | exact P0 | exact P0.drew)).mono ?_); rintro e w1 ⟨v1, rfl, hw1, U1⟩; obtain ⟨A1, cA, rfl⟩ := own_shape hw1; rw [HML.out] at hw1; have T1 := nxt (by first | exact P0 | exact P0.drew) U1; have C1 := (T1.cell (p := ⟨g, 7, none⟩) hgw).trans c7; have C2 := fun o => ((T1.alloc T1.size o).cell (p := ⟨g, 7, none⟩) hgw).trans c7)
          | ((refine step_rwy _ rfl (.tmp 30) (.tmp 33) rfl 0 (fun k => ¬ (Xl k ∨ w.heap.size ≤ k)) (.slice P N pc) s.ls rfl ?_ (fun k => k < w.heap.size) (some ⟨w1.heap.size, 0, none⟩) 1 1 [m] rfl rfl ?_ ?_ ?_ ?_ ?_ ?_); (exact HOW2.out.below (T1.alloc T1.size _)); (exact lit_text hw1 HML.out (fun k h1 _ h => (by have h9 : W0.heap.size ≤ k := h1; have h8 : k < w.heap.size := h; omega))); (rw [HN.out]; omega); (exact Nat.zero_le _); (exact fun k _ hz => Nat.lt_of_not_le (fun h => hz (.inr h))); (exact HZ2.out); (intro v3 w3 hown3 hgrow3 hwhere3); obtain ⟨P3, c3, hv3, hle3, hcm3, _⟩ := hown3.shape; rw [HN1.out] at hv3 hle3; subst hv3; have C3 := grown_cell (p := ⟨g, 7, none⟩) hgrow3 (by have := T1.size; simp; omega) (fun e => HZ3.out g e rfl) (C2 _); have f3 := (frozen_of_block (hgrow3.block g (by have := T1.size; simp; omega) (fun e => HZ3.out g e.symm rfl)) 7).trans ((frozen_of_block ((T1.alloc T1.size (.cells #[.slice A1 n cA] 36)).block g hgw) 7).trans f7)))
      all_goals
        have HPS := Lib.hid (HPSH.out w1 w3 _ _ T1 hown3 (by rw [HN.out]; exact hgrow3) (by rw [HN.out]; exact hwhere3))
        clear T1 C1 C2 C3 f3 hown3 hgrow3 hwhere3 hw1 U1 c7 c5 c8 c7' f7 hle3
        go_wp2_with (fail)
        obtain ⟨Xl', R4, t4⟩ := HPS.out
        generalize w3.setCell ⟨g, 7, none⟩ (.slice P3 (N + 1) c3) = w4 at *
        have P4 := Below.refl w4.heap.size w4
        have HON := Lib.hid (fun W (U : Below w4.heap.size w4 W) => rpon_any g gt _ (puAdd s m) Xt Xl' W (R4.below U) HOKA.out (by show (s.ls ++ [m]).length ≤ _; rw [HN1.out]; omega))
        have K4 : Hid (w4.cell? ⟨g, 7, none⟩ = some (.slice P3 (N + 1) c3)) := R4.cells.2.1
        have HT4 := Lib.hid t4
        have ewr : IntKind.i64.wrap (N : Int) = (N : Int) := IntWalk.i64_in _ (by omega)
        clear R4 t4 HPS
        go_region_held3 (fun w' => w'.cell? ⟨g, 7, none⟩ = some (Value.slice P3 (N + 1) c3)) (first | exact K4.out | exact K5.out)
          (first
            | (go_at_call 31; (with_reducible refine (HON.out _ (by first | exact P4 | exact P4.drew)).mono ?_); rintro e w5 ⟨vo, Xt5, rfl, hO5, hR5, t5⟩; have t5' : Turns (Tri g Xt Xl') (Tri g Xt5 Xl') w4 w5 := (by first | exact t5 | exact t5.undrew); have HO5 : Hid (Out w4 (Tri g Xt5 Xl') vo (puOnL (puAdd s m)) w5) := hO5; have HR5 := Lib.hid hR5; have HT5 := Lib.hid t5'; have K5 : Hid (w5.cell? ⟨g, 7, none⟩ = some (.slice P3 (N + 1) c3)) := HR5.out.cells.2.1))
        all_goals
          clear hO5 hR5 t5 t5'
          go_wp2
          go_ret3
          rw [H1.out.1, H1.out.2.1, H1.out.2.2, HN.out]
          exact ⟨_, _, Xt5, Xl', rfl, HO5.out.base HT4.out.off.size, HR5.out, HT4.out.trans HT5.out⟩
end Go.Proofs.Ytncpabnmdofomaa
