/- Package pusher, as landed: the closure that a place is sent as; slide. -/
import Derived.Test.YtncpabnmdofomaaPuK3
namespace Go.Proofs.Ytncpabnmdofomaa
open Go.RowKit
set_option maxRecDepth 20000

set_option maxHeartbeats 4000000 in
theorem puclo_any (a d : Nat) (q : Int) (A : Option Addr) (c : Nat) (m : List UInt8) (w : World) (ha : w.heap[a]? = some (.cells #[.int .i64 q] 3 (0, 0))) (hd : w.heap[d]? = some (.cells #[.slice A m.length c] 36 (0, 0))) (hB : Bys w A m.length c m) (hn : m.length ≤ 64) :
    Calls Try.prog 46 #[.pointer (some ⟨a, 0, none⟩), .pointer (some ⟨d, 0, none⟩)] w fun e w' => ∃ A' c', e = .returned (.agg #[.bool false, .int .i64 q, .int .u64 0, .slice A' m.length c']) ∧ Fre w' (· < w.heap.size) A' m.length c' m ∧ Below w.heap.size w w' := by
  have T0 := (Below.refl _ w).alloc (Nat.le_refl _) (.cells #[.bool false, .int .i64 0, .int .u64 0, .slice none 0 0] 38)
  have n0 := heap_alloc_new w (.cells #[.bool false, .int .i64 0, .int .u64 0, .slice none 0 0] 38)
  have HC : Hid (∀ W, Below w.heap.size w W → W.cell? ⟨a, 0, none⟩ = some (.int .i64 q) ∧ W.cell? ⟨d, 0, none⟩ = some (.slice A m.length c)) := fun W U =>
    ⟨cell_of_row _ _ _ _ _ _ ((U.block a (lt_row ha)).trans ha), cell_of_row _ _ _ _ _ _ ((U.block d (lt_row hd)).trans hd)⟩
  have HT0 := Lib.hid T0
  have HN0 := Lib.hid n0
  have HB := Lib.hid hB
  clear ha hd T0 n0 hB
  obtain ⟨L, hL⟩ : ∃ L, m.length = L := ⟨_, rfl⟩
  have HLL := Lib.hid hL
  rw [hL] at HC HB hn
  rw [hL]
  clear hL
  go_enter Try.func46, Try.ntmps46
  go_wp2_with (fail)
  have HJ : Hid (∀ V b, V.heap[b]? = some (.cells #[.slice A L c] 36 (0, 0)) → Below w.heap.size w V → Calls Try.prog 45 #[.slice (some ⟨b, 0, none⟩) 1 1] V (GivesW V m)) := fun V b hb U =>
    puojoin_any A L c b m _ (cell_of_row _ _ _ _ _ _ hb) (HB.out.below U) (by omega)
  generalize w.alloc (.cells #[.bool false, .int .i64 0, .int .u64 0, .slice none 0 0] 38) = W1 at *
  have hW1 := lt_row HN0.out
  go_region_held3 (fun w' => w'.cell? ⟨a, 0, none⟩ = some (.int .i64 q) ∧ w'.cell? ⟨d, 0, none⟩ = some (Value.slice A L c)) (first | (with_reducible exact HC.out _ HT0.out) | (with_reducible exact HC.out _ HT0.out.drew) | (with_reducible exact HC.out _ (HT0.out.alloc HT0.out.size _)) | (with_reducible exact HC.out _ (HT0.out.drew.alloc HT0.out.size _)) | (with_reducible exact HC.out _ HT1.out) | (with_reducible exact HC.out _ HT2.out) | exact HC.out _ HT0.out.drew | exact HC.out _ (HT0.out.drew.alloc HT0.out.size _))
    (first
      | (go_at_call 45; (with_reducible refine (HJ.out _ _ ?_ ?_).mono ?_); exact heap_alloc_new W1 _; (first | exact HT0.out.alloc HT0.out.size _ | exact (HT0.out.alloc HT0.out.size _).drew); rintro e w2 ⟨v1, rfl, hw1, U2⟩; obtain ⟨A1, cA, rfl⟩ := own_shape hw1; have P1 : Hid (Below W1.heap.size W1 w2) := ((Below.refl W1.heap.size W1).alloc (Nat.le_refl _) _).trans ((by first | exact U2 | exact undrew U2 : Below _ _ w2).mono (by simp)); have HF : Hid (Fre w2 (fun k => k < W1.heap.size + 1) A1 L cA m) := (by have h := Fre.of_own hw1; rw [HLL.out] at h; exact h.imp (fun k hk => by simp; exact hk)); have HT1 := Lib.hid (HT0.out.trans (P1.out.mono HT0.out.size)); have HN1 := Lib.hid ((P1.out.block _ hW1).trans HN0.out); obtain ⟨⟨k0, k1, k2, k3⟩, f0, f1, f2, f3⟩ := row4 HN1.out; clear hw1 U2; rw [HLL.out]; have HT2 := Lib.hid (below4 HT1.out (Nat.le_refl _) (.bool false) (.int .i64 q) (.int .u64 0) (.slice A1 L cA))))
  all_goals
    go_wp2_with (fail)
    refine bodyPost_ret (v := .agg #[.bool false, .int .i64 q, .int .u64 0, .slice A1 L cA]) (results_cell_row rfl _ _ w.heap.size 38 #[.bool false, .int .i64 q, .int .u64 0, .slice A1 L cA] (0, 0) _ rfl (stored4 HN1.out _ _ _ _) Try.underlying38 rfl (by kernel_rfl)) rfl ?_
    have hs1 := HT0.out.size
    exact ⟨A1, cA, rfl, (HF.out.off (off4 w2 w.heap.size _ _ _ _) (fun k hk => by subst hk; show _ < _; omega)).imp (fun k hk => by show k < _; omega), HT2.out⟩
set_option maxHeartbeats 8000000 in
theorem puslide_any {T : Nat → Int → List Tmr → World → (Nat → Prop) → Prop} (C : TmC T) {x gt : Nat} {P : Option Addr} {n pc : Nat} {vs : List Value} {s : Pus} {Xt Xc : Nat → Prop} (i : Nat) {w : World} (h : EnV T x gt P n pc vs s s.base Xt Xc w) (hi1 : s.base ≤ i) (hi : i < s.ls.length) (hi6 : i < 1000000) (hall : ∀ m ∈ s.ls, m.length ≤ 64) :
    Calls Try.prog 34 #[.pointer (some ⟨x, 0, none⟩), .int .i64 (i : Int)] w fun e w' => ∃ A c, e = .returned (.agg #[.bool false, .int .i64 (rgMod i s.c.m), .int .u64 0, .slice A (s.ls[i]).length c]) ∧ Fre w' (· < w.heap.size) A (s.ls[i]).length c s.ls[i] ∧ Below w.heap.size w w' := by
  obtain ⟨j, rfl⟩ : ∃ j, i = s.base + j := ⟨i - s.base, by omega⟩
  have hcnt := h.cnt
  have hvl := h.lst.1
  have hj : j < vs.length := by omega
  obtain ⟨a, d, A, k, e1, ha, hd, hB, -, -, -⟩ := h.clo j hj
  obtain ⟨b, o, rfl, hb, hc⟩ := h.lst.cell j hj
  rw [e1] at hc
  unfold cloV at hc
  have e2 : s.ls.getD (s.base + j) [] = s.ls[s.base + j] := by rw [List.getD_eq_getElem?_getD, List.getElem?_eq_getElem hi]; rfl
  rw [e2] at hd hB
  have hall' := hall _ (List.getElem_mem hi)
  have HCL := Lib.hid (fun W (U : Below w.heap.size w W) => puclo_any a d (rgMod ((s.base + j : Nat) : Int) s.c.m) A k s.ls[s.base + j] W ((U.block a (lt_row ha)).trans ha) ((U.block d (lt_row hd)).trans hd) (hB.below U) hall')
  have HC : Hid (∀ W, Below w.heap.size w W → W.cell? ⟨x, 4, none⟩ = some (.int .i64 (s.base : Int)) ∧ W.cell? ⟨x, 6, none⟩ = some (.slice (some ⟨b, o, none⟩) n pc) ∧ W.cell? ⟨b, o + j, none⟩ = some (.func (.func 46) #[] #[.pointer (some ⟨a, 0, none⟩), .pointer (some ⟨d, 0, none⟩)])) := fun W U =>
    ⟨(h.below C U).cells.1.2.2.2.2.1, (h.below C U).cells.1.2.2.2.2.2.2, (U.cell (p := ⟨b, o + j, none⟩) hb).trans hc⟩
  have T0 := (Below.refl _ w).alloc (Nat.le_refl _) (.cells #[.bool false, .int .i64 0, .int .u64 0, .slice none 0 0] 38)
  have n0 := heap_alloc_new w (.cells #[.bool false, .int .i64 0, .int .u64 0, .slice none 0 0] 38)
  have HT0 := Lib.hid T0
  have HN0 := Lib.hid n0
  have hsub : IntKind.i64.wrap (((s.base + j : Nat) : Int) - (s.base : Int)) = (j : Int) := by
    rw [show ((s.base + j : Nat) : Int) - (s.base : Int) = (j : Int) by omega]
    exact IntWalk.i64_in _ (by omega)
  have hj0 : (0 : Int) ≤ (j : Int) := by omega
  have hj1 : (j : Int) < (n : Int) := by omega
  clear h hB hc ha hd T0 n0 hall hall' hcnt hvl hj e1 e2
  generalize rgMod ((s.base + j : Nat) : Int) s.c.m = rm at *
  generalize s.ls[s.base + j] = m at *
  obtain ⟨L, hL⟩ : ∃ L, m.length = L := ⟨_, rfl⟩
  rw [hL] at HCL
  rw [hL]
  clear hL hi hi1 hi6
  generalize s.base + j = p at *
  go_enter Try.func34, Try.ntmps34
  go_wp2_with (fail)
  generalize w.alloc (.cells #[.bool false, .int .i64 0, .int .u64 0, .slice none 0 0] 38) = W1 at *
  have hW1 := lt_row HN0.out
  go_region_held3 (fun w' => w'.cell? ⟨x, 4, none⟩ = some (.int .i64 (s.base : Int)) ∧ w'.cell? ⟨x, 6, none⟩ = some (Value.slice (some ⟨b, o, none⟩) n pc) ∧ w'.cell? ⟨b, o + j, none⟩ = some (Value.func (Fn.func 46) #[] #[.pointer (some ⟨a, 0, none⟩), .pointer (some ⟨d, 0, none⟩)])) (first | (with_reducible exact HC.out _ HT0.out) | (with_reducible exact HC.out _ HT0.out.drew) | (with_reducible exact HC.out _ HT1.out) | (with_reducible exact HC.out _ HT2.out) | exact HC.out _ HT0.out.drew)
    (first
      | (go_at_call 46; (with_reducible refine (HCL.out _ (by first | exact HT0.out | exact HT0.out.drew)).mono ?_); rintro e w2 ⟨A1, cA, rfl, hF, U2⟩; have P1 : Hid (Below W1.heap.size W1 w2) := (by first | exact U2 | exact undrew U2); have HF : Hid (Fre w2 (fun k => k < W1.heap.size) A1 L cA m) := hF; have HT1 := Lib.hid (HT0.out.trans (P1.out.mono HT0.out.size)); have HN1 := Lib.hid ((P1.out.block _ hW1).trans HN0.out); obtain ⟨⟨k0, k1, k2, k3⟩, f0, f1, f2, f3⟩ := row4 HN1.out; clear U2 hF; have HT2 := Lib.hid (below4 HT1.out (Nat.le_refl _) (.bool false) (.int .i64 rm) (.int .u64 0) (.slice A1 L cA))))
  all_goals
    go_wp2_with (fail)
    refine bodyPost_ret (v := .agg #[.bool false, .int .i64 rm, .int .u64 0, .slice A1 L cA]) (results_cell_row rfl _ _ w.heap.size 38 #[.bool false, .int .i64 rm, .int .u64 0, .slice A1 L cA] (0, 0) _ rfl (stored4 HN1.out _ _ _ _) Try.underlying38 rfl (by kernel_rfl)) rfl ?_
    have hs1 := HT0.out.size
    exact ⟨A1, cA, rfl, (HF.out.off (off4 w2 w.heap.size _ _ _ _) (fun k hk => by subst hk; exact hW1)).imp (fun k hk => by show k < _; omega), HT2.out⟩
end Go.Proofs.Ytncpabnmdofomaa
