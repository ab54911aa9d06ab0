/- Package puller, as landed: what it tells. -/
import Derived.Test.YtpidbgnlehikeaaPlK4
import Derived.Laws.Bits64b
namespace Go.Proofs.Ytpidbgnlehikeaa
open Go.RowKit
set_option maxRecDepth 20000

/-- the bits of the first j places -/
def plB (s : Pls) (l : List Lt) (j : Nat) : Nat := plBits s (l.filter (fun t => decide (t.1 < s.ent + j)))
theorem plB_zero {s : Pls} {l : List Lt} (h : ∀ t ∈ l, s.ent ≤ t.1) : plB s l 0 = 0 := by
  unfold plB
  rw [List.filter_eq_nil_iff.2 (fun t ht => by have := h t ht; simp; omega)]
  rfl
theorem plB_all {s : Pls} {l : List Lt} {j : Nat} (h : ∀ t ∈ l, t.1 < s.ent + j) : plB s l j = plBits s l := by
  unfold plB
  rw [List.filter_eq_self.2 (fun t ht => by simpa using h t ht)]
theorem plB_lt {s : Pls} {l : List Lt} (hs : (ltKeys l).Pairwise (· < ·)) (h : ∀ t ∈ l, s.ent ≤ t.1) (j : Nat) : plB s l j < 2 ^ j := by
  unfold plB
  refine plBits_lt ?_ (fun t ht => h t (List.mem_filter.1 ht).1) j (fun t ht => by simpa using (List.mem_filter.1 ht).2)
  exact List.Pairwise.sublist ((List.filter_sublist).map _) hs
theorem plB_succ {s : Pls} {l : List Lt} (hs : (ltKeys l).Pairwise (· < ·)) (h : ∀ t ∈ l, s.ent ≤ t.1) (j : Nat) : plB s l (j + 1) = plB s l j + if (ltGet l ((s.ent + j : Nat) : Int)).isSome then 2 ^ j else 0 := by
  induction l with
  | nil => rfl
  | cons t l ih =>
    obtain ⟨k1, k2⟩ := List.pairwise_cons.1 hs
    have ih := ih k2 (fun u hu => h u (by simp [hu]))
    have ht := h t (by simp)
    unfold plB at ih ⊢
    rw [ltGet_cons]
    by_cases h1 : t.1 < s.ent + j
    · have e1 : decide (t.1 < s.ent + (j + 1)) = true := by simpa using (by omega : t.1 < s.ent + (j + 1))
      have e2 : decide (t.1 < s.ent + j) = true := by simpa using h1
      rw [List.filter_cons, List.filter_cons, if_pos e1, if_pos e2, if_neg (show ¬ ((t.1 : Int) = ((s.ent + j : Nat) : Int)) by omega)]
      show 2 ^ (t.1 - s.ent) + plBits s _ = 2 ^ (t.1 - s.ent) + plBits s _ + _
      rw [ih, Nat.add_assoc]
    · have e2 : ¬ decide (t.1 < s.ent + j) = true := by simpa using h1
      by_cases h2 : t.1 = s.ent + j
      · have hr : ∀ u ∈ l, t.1 < u.1 := fun u hu => k1 u.1 (List.mem_map.2 ⟨u, hu, rfl⟩)
        have e1 : decide (t.1 < s.ent + (j + 1)) = true := by simpa using (by omega : t.1 < s.ent + (j + 1))
        have f1 : l.filter (fun t => decide (t.1 < s.ent + (j + 1))) = [] := List.filter_eq_nil_iff.2 (fun u hu => by have := hr u hu; simp only [decide_eq_true_eq]; omega)
        have f2 : l.filter (fun t => decide (t.1 < s.ent + j)) = [] := List.filter_eq_nil_iff.2 (fun u hu => by have := hr u hu; simp only [decide_eq_true_eq]; omega)
        rw [List.filter_cons, List.filter_cons, if_pos e1, if_neg e2, if_pos (show ((t.1 : Int) = ((s.ent + j : Nat) : Int)) by omega), f1, f2]
        simp only [Option.isSome_some, if_true]
        show 2 ^ (t.1 - s.ent) + 0 = 0 + 2 ^ j
        rw [show t.1 - s.ent = j by omega, Nat.add_comm]
      · have e1 : ¬ decide (t.1 < s.ent + (j + 1)) = true := by simpa using (by omega : ¬ t.1 < s.ent + (j + 1))
        rw [List.filter_cons, List.filter_cons, if_neg e1, if_neg e2, if_neg (show ¬ ((t.1 : Int) = ((s.ent + j : Nat) : Int)) by omega)]
        exact ih
theorem or_two (b j : Nat) (h : b < 2 ^ j) : b ||| 2 ^ j = b + 2 ^ j := by
  have h1 := Nat.two_pow_add_eq_or_of_lt h 1
  rw [Nat.mul_one] at h1
  have h2 : b ||| 2 ^ j = 2 ^ j ||| b := Nat.or_comm _ _
  omega
def nOf : Value → Nat | .int _ n => n.toNat | _ => 0
section
variable {Q : Nat → Nat → List (List UInt8) → World → (Nat → Prop) → Prop} {x gq m : Nat} {s : Pls} {Xq Xl : Nat → Prop} {w : World}
set_option maxHeartbeats 16000000 in
theorem pltell_any (C : QuC Q) (h : PeV Q x gq m s Xq Xl w) (hok : PlOk s) (hb : s.ent ≤ 300000) :
    Calls Try.prog 29 #[.pointer (some ⟨x, 0, none⟩)] w fun e w' => ∃ vo, e = .returned vo ∧ Out w (Ob3 x Xq Xl) vo (plTells s) w' ∧ Below w.heap.size w w' := by
  obtain ⟨⟨c0, c1, -, c3, c4⟩, -⟩ := h.cells
  have hxw := obrow_lt h.1
  have HX := Lib.hid (h.lt C)
  obtain ⟨T, hT, -, -, hLV⟩ := h.2.2.1
  have hs := hok.2.2.1
  have hge : ∀ t ∈ s.late, s.ent ≤ t.1 := fun t ht => (hok.2.2.2.1 t ht).1.1
  have hcf := hok.1
  obtain ⟨W, hW⟩ : ∃ W : Nat, s.c.w = (W : Int) := ⟨s.c.w.toNat, by have := hcf.1; omega⟩
  have hw64 : W ≤ 64 := by have := hcf.1; omega
  have HB0 := Lib.hid (plB_zero hge)
  have HBA : Hid (plB s s.late W = plBits s s.late) := plB_all (fun t ht => by have := (hok.2.2.2.1 t ht).1.2; omega)
  have HBL := Lib.hid (plB_lt hs hge)
  have HBS : Hid (∀ j, plB s s.late (j + 1) = plB s s.late j + if (T ((s.ent + j : Nat) : Int)).isSome then 2 ^ j else 0) := fun j => by rw [plB_succ hs hge, (hLV _).some_eq]
  have HLK := Lib.hid (fun V (U : Below w.heap.size w V) k (hk : I64s k) => (hT.off (X := fun _ => False) (Off.of_below U) (fun h => h)).look k hk)
  have HMD := Lib.hid (fun V => rgmod_any (s.ent : Int) s.c.m V (by unfold J64; omega) (by unfold J64; have := hcf.2.2.1; have := hcf.1; have := hcf.2.1; omega))
  have HTL : Hid (plTells s = [(true, rgMod s.ent s.c.m, plBits s s.late, [])]) := rfl
  obtain ⟨r, hr⟩ : ∃ r, rgMod (s.ent : Int) s.c.m = r := ⟨_, rfl⟩
  rw [hr] at HMD HTL
  rw [hW] at c0
  have KO : Hid (∀ V, Below w.heap.size w V → V.cell? ⟨x, 1, none⟩ = some (.int .i64 s.c.m) ∧ V.cell? ⟨x, 3, none⟩ = some (.map (some m)) ∧ V.cell? ⟨x, 4, none⟩ = some (.int .i64 (s.ent : Int))) := fun V U => ⟨(U.cell (p := ⟨x, 1, none⟩) hxw).trans c1, (U.cell (p := ⟨x, 3, none⟩) hxw).trans c3, (U.cell (p := ⟨x, 4, none⟩) hxw).trans c4⟩
  clear h hok hT hLV hs hge hcf hr hW
  generalize s.c.m = cm at *
  generalize hE : s.ent = E at *
  clear hE
  go_enter Try.func29, Try.ntmps29
  go_wp2_with (fail)
  clear c0 c1 c3 c4
  go_loopw [3, 11] (fun vb i wr => ∃ j : Nat, j ≤ W ∧ i = .int .i64 (j : Int) ∧ vb = .int .u64 ((plB s s.late j : Nat) : Int) ∧ Below w.heap.size w wr) (fun _ i _ => W - nOf i)
  case atStart => exact ⟨0, Nat.zero_le _, rfl, by rw [HB0.out]; rfl, Below.refl _ _⟩
  case round =>
    obtain ⟨j, hj, rfl, rfl, hbel⟩ := hrel
    obtain ⟨d1, d3, d4⟩ := KO.out _ hbel
    by_cases hlt : j < W
    · have i1 : decide ((j : Int) < (W : Int)) = true := by simp; omega
      have i1' : (j : Int) < (W : Int) := by omega
      obtain ⟨z, hz⟩ : ∃ z, E + j = z := ⟨_, rfl⟩
      have ezz : (E : Int) + (j : Int) = (z : Int) := by omega
      have ewr : IntKind.i64.wrap ((E : Int) + (j : Int)) = (z : Int) := by rw [ezz]; exact IntWalk.i64_in _ (by omega)
      have HS := Lib.hid (HBS.out j)
      rw [hz] at HS
      have hl1 := HLK.out wr hbel (z : Int) ⟨by omega, by omega⟩
      have hl2 := HLK.out wr.drew hbel.drew (z : Int) ⟨by omega, by omega⟩
      have HL := Lib.hid (HBL.out j)
      have hp : 2 ^ j < 18446744073709551616 := Nat.lt_of_lt_of_le (Nat.pow_lt_pow_right (by omega) (show j < 64 by omega)) (by decide)
      generalize (T (z : Int)).getD (.slice none 0 0) = v0 at *
      cases hbb : (T (z : Int)).isSome with
      | false =>
        rw [hbb] at hl1 hl2 HS
        have HS2 : Hid (plB s s.late (j + 1) = plB s s.late j) := HS.out
        clear HS hbb
        go_wp2_with (fail)
        go_region
        all_goals
          go_wp2
          go_roundw
          case rel => exact ⟨j + 1, by omega, by go_num, by rw [HS2.out], hbel.drew⟩
          case measure => simp [nOf]; omega
      | true =>
        rw [hbb] at hl1 hl2 HS
        have HS2 : Hid (plB s s.late (j + 1) = plB s s.late j ||| 2 ^ j) := by show _ = _; rw [or_two _ _ HL.out]; exact HS.out
        have hor := bits_or_u64_nat (plB s s.late j) (2 ^ j) (Nat.lt_trans HL.out hp) hp
        have hw2 : IntKind.u64.wrap ((2 : Int) ^ j) = ((2 ^ j : Nat) : Int) := by
          rw [show ((2 : Int) ^ j) = ((2 ^ j : Nat) : Int) by norm_cast]
          exact (fun (p : Nat) (h : p < 18446744073709551616) => (IntWalk.u64_in (p : Int) (by omega) : IntKind.u64.wrap (p : Int) = (p : Int))) _ hp
        have HOR : Hid (bits BinOp.or IntKind.u64 ((plB s s.late j : Nat) : Int) (IntKind.u64.wrap ((2 : Int) ^ j)) = ((plB s s.late (j + 1) : Nat) : Int)) := by show _ = _; rw [hw2, hor, HS2.out]
        clear hor hw2 hp
        clear HS hbb
        go_wp2_with (fail)
        go_region
        all_goals
          go_wp2_with (fail)
          go_roundw
          case rel => exact ⟨j + 1, by omega, by go_num, by rw [HOR.out], hbel.drew⟩
          case measure => simp [nOf]; omega
    · have i1 : decide ((j : Int) < (W : Int)) = false := by simp; omega
      have i1' : ¬ ((j : Int) < (W : Int)) := by omega
      obtain rfl : j = W := by omega
      have HPX : Hid (∀ V, Below w.heap.size w V → ¬ Ob3 x Xq Xl V.heap.size) := fun V U hx => by have := HX.out _ hx; have := U.size; omega
      rw [← HBA.out] at HTL
      generalize plB s s.late j = u at *
      have hA := hbel.alloc hbel.size (.cells #[.bool true, .int .i64 r, .int .u64 (u : Int), .slice none 0 0] 38)
      have HA := Lib.hid hA
      have HBE := Lib.hid hbel
      clear d3 hlt
      go_wp2_with (fail)
      go_region_held3 (fun w' => w'.cell? ⟨x, 1, none⟩ = some (.int .i64 cm) ∧ w'.cell? ⟨x, 4, none⟩ = some (.int .i64 (E : Int))) (first | exact ⟨d1, d4⟩ | exact ⟨(KO.out _ hA).1, (KO.out _ hA).2.2⟩ | exact ⟨(KO.out _ hA.drew).1, (KO.out _ hA.drew).2.2⟩)
        (first
          | (go_at_call 43; (with_reducible refine (HMD.out _).mono ?_); rintro e w2 ⟨rfl, rfl⟩))
      all_goals
        go_wp2
        go_ret
        rw [HTL.out]
        have h1 := lit_sl (w0 := w) (w := wr) (X := Ob3 x Xq Xl) true r u hbel.size (HPX.out _ hbel)
        first
          | exact ⟨_, rfl, h1.below (below_drewN' (Below.refl _ _) 1), hA.drew⟩
          | exact ⟨_, rfl, h1, hA⟩
          | exact ⟨_, rfl, lit_sl (w0 := w) (w := wr.drew) (X := Ob3 x Xq Xl) true r u hbel.size (HPX.out _ hbel), hbel.drew.alloc hbel.size _⟩
end
end Go.Proofs.Ytpidbgnlehikeaa
