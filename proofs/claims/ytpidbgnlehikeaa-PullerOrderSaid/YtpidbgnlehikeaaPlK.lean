/- Package puller, as landed: Ahead, by the library's contracts of slices.Sorted and maps.Keys; plC. -/
import Derived.Test.YtpidbgnlehikeaaPlK7
import Derived.Test.YtpidbgnlehikeaaQuK
import Derived.Test.YtpidbgnlehikeaaShelf
namespace Go.Proofs.Ytpidbgnlehikeaa
open Go.RowKit Go.Maps Go.Sort Go.Shelf
set_option maxRecDepth 20000

theorem plsorts (m : Nat) : AnyZI.SortsIn Try.prog Try.sortedL_ren Fence.wide m :=
  ⟨fun blk off cap ss W hH hblk hsz => callsIn_wide.2 (AnyM.slices_Sort_int Try.sortL blk off cap ss W hH hblk hsz),
   fun p cap W => callsIn_wide.2 (AnyM.slices_Sort_int_none Try.sortL p cap W)⟩
theorem own_sortedS {w' : World} {B : Nat} {v : Value} {ss ks : List Int} {D : DataW Value} (h1 : ss.Perm (intKeys D)) (h2 : ks.Perm (intKeys D)) (hk : ks.Pairwise (· < ·)) (h : w'.ownsRow B 3 1 v ss.length ((ss.mergeSort (fun x y => decide (x ≤ y))).map encZ)) : OwnZ w' B v ks := by
  have hp : ss.Perm ks := h1.trans h2.symm
  have e1 := mergeSort_of_perm_i hp
  have e2 : ks.mergeSort (fun x y => decide (x ≤ y)) = ks := List.mergeSort_of_pairwise (hk.imp (fun h => by simpa using Int.le_of_lt h))
  have e3 : ss.mergeSort (fun x y => decide (x ≤ y)) = ks := e1.trans e2
  rw [e3, hp.length_eq] at h
  exact h
set_option maxHeartbeats 2000000 in
theorem plahead_any {Q : Nat → Nat → List (List UInt8) → World → (Nat → Prop) → Prop} (g : Nat) (s : Pls) (w : World) (X : Nat → Prop) (hF : PlP Q g s w X) (hok : PlOk s) :
    Calls Try.prog 18 #[.pointer (some ⟨g, 0, none⟩)] w fun e w' => ∃ A n c, e = .returned (.slice A n c) ∧ Zs w' A n c (plAhead s) ∧ Below w.heap.size w w' := by
  obtain ⟨x, Y, hg1, ⟨gq, m, Xq, Xl, h, rfl⟩, hg3, rfl, -⟩ := hF
  have c0 : w.cell? ⟨g, 0, none⟩ = some (.pointer (some ⟨x, 0, none⟩)) := cell_of_row _ _ _ _ _ _ hg1
  have H1 := Lib.hid (plmade_any g ⟨x, 0, none⟩ _ c0)
  have d3 := h.cells.1.2.2.2.1
  obtain ⟨T, ⟨D, hown, hM, hat⟩, -, -, hLV⟩ := h.2.2.1
  have hks := ltKeysZ hok.2.2.1
  have hperm := MapS.keys hown hat _ hks (LtP.ks hLV)
  have hsz : Maps.size D < 100000 := by
    have h := hperm.length_eq
    have hl := hok.llen
    obtain ⟨es, rfl⟩ := hM
    simp [intKeys] at h
    simp [Maps.size]
    omega
  have hbl := hown.lt
  clear h hg1 hg3 hLV hok
  refine (callsIn_wide (n := 6)).1 ?_
  have hseq : SeqGives Fence.wide 2 Try.prog 52 #[.pointer (some ⟨w.heap.size, 0, none⟩)] encZ (fun ss => ss.Perm (intKeys D)) (Maps.size D) (w.alloc (.cells #[.map (some m)] 71)) :=
    AnyZI.keys_gives (ρ := Try.keysL_ren) { Try.keysL with } Fence.wide _ trivial rfl (by omega) w.heap.size m _ D _ (by simp) (by simp) (by
      obtain ⟨es, clock, hb, Ft, hs, hD⟩ := hown
      exact ⟨es, clock, (Below.heap_alloc _ _ m hbl).trans hb, Ft, hs, hD⟩)
  have cK : ∀ mb W, CallsIn Fence.wide 5 Try.prog 38 #[.map mb] W fun e w' => e = .returned (.func (.func 52) #[] #[.pointer (some ⟨W.heap.size, 0, none⟩)]) ∧ w' = W.alloc (.cells #[.map mb] 71) := fun mb W => AnyZI.keys_in Try.keysL Fence.wide 5 trivial rfl mb W
  have cS := AnyZI.sorted_in Try.sortedL Fence.wide 5 trivial trivial trivial trivial rfl (by omega) (plsorts _) (enters_of Try.func51 (by kernel_rfl) rfl) 52 #[.pointer (some ⟨w.heap.size, 0, none⟩)] trivial (enters_of Try.func52 (by kernel_rfl) rfl) _ _ (by unfold maxLen; omega) (by omega) _ hseq
  change CallsIn _ _ Try.prog 37 _ _ _ at cS
  have hfA : Fence.wide.fn 26 := trivial
  have hfK : Fence.wide.fn 38 := trivial
  have hfS : Fence.wide.fn 37 := trivial
  refine callsIn_of_wp Try.func18 rfl trivial ?_ rfl
  simp only [Try.ntmps18, List.size_toArray, List.length_cons, List.length_nil, Nat.reduceAdd, Nat.reduceSub, Array.replicate_succ, Array.replicate_zero, List.push_toArray, List.append_toArray, List.nil_append, List.cons_append]
  gi_wp2_with (first
    | (gi_at_call 26; refine (callsIn_wide.2 H1.out).mono ?_; rintro e w1 ⟨rfl, rfl⟩)
    | (gi_at_call 38; refine (cK _ _).mono ?_; rintro e w' ⟨rfl, rfl⟩)
    | (gi_at_call 37; refine cS.mono ?_; rintro e w' ⟨v, ss, rfl, hS, hrow, hnil, hb⟩))
  go_ret
  obtain ⟨A, c, rfl, hz, -⟩ := (own_sortedS (B := w.heap.size) hS hperm hks (ownsRow_base_a hrow (by simp))).shape
  exact ⟨A, _, c, rfl, hz, ((Below.refl _ w).alloc (Nat.le_refl _) _).trans (hb.mono (by simp))⟩
theorem plnahead_any (w : World) : Calls Try.prog 18 #[.pointer none] w fun e w' => ∃ P k, e = .returned (.slice P 0 k) ∧ Below w.heap.size w w' := by
  have HM := Lib.hid (fun W => plnmade_any W)
  go_enter Try.func18, Try.ntmps18
  go_wp2_with (fail)
  refine (HM.out _).mono ?_
  rintro e w1 ⟨rfl, rfl⟩
  go_wp2
  go_ret
  exact ⟨_, _, rfl, Below.refl _ _⟩
theorem plC : PlC (PlP QuP) where
  holds := fun g s => PlP.holds quC g s
  new_no := fun c w hi h => plnew_no quC c w hi h
  new_yes := fun c w _ h => plnew_yes quC c w h
  take := fun g s a sq u A n c d w X hF hok hb _ _ hB _ => pltake_any quC g s a sq u A n c d w X hF hok hb hB
  recv := fun g s w X hF hok hb => plrecv_any quC g s w X hF hok hb
  state := fun g s w X hF => plstate_any quC g s w X hF
  kept := fun g s w X hF _ => plkept_any quC g s w X hF
  ahead := fun g s w X hF hok => plahead_any g s w X hF hok
  ntake := fun a sq u A n c _ w _ _ _ => plntake_any a sq u A n c w
  nrecv := plnrecv_any
  nstate := plnstate_any
  nkept := plnkept_any
  nahead := plnahead_any
end Go.Proofs.Ytpidbgnlehikeaa
