/- The walks of DeframeNil and DeframeFinds. -/
import Derived.Test.YtldnomfjfipgiaaDef4
import Derived.Test.YtldnomfjfipgiaaRscan
import Derived.Test.YtldnomfjfipgiaaSameAll
namespace Go.Proofs.Ytldnomfjfipgiaa
open Go.RowKit

set_option maxHeartbeats 4000000 in
set_option maxRecDepth 100000 in
theorem walk_DeframeNil (A : Option Addr) (n c : Nat) (w : World) :
    Calls Try.prog 7 #[.slice A n c] w fun e w' => e = .returned (.bool true) ∧ Below w.heap.size w w' := by
  obtain ⟨Z, hZ, hZn, hZ0⟩ := scZero
  have c0 : (w.alloc (.cells Z 49)).cell? ⟨w.heap.size, 0, none⟩ = some (.pointer none) := by
    rw [cell_of_row _ _ _ _ _ _ (heap_alloc_new w _), hZ0, List.getElem?_toArray]
    exact scZ_at.1
  have HC := Lib.hid c0
  have HZ0 := Lib.hid hZ0
  clear hZ0 c0
  go_enter Try.func7, Try.ntmps7
  go_wp2_with (fail)
  refine (reset_nil w).mono ?_
  rintro e w1 ⟨rfl, rfl⟩
  go_wp2_with (fail)
  refine (feed_no (.pointer none) A n c _ (smade_nil _)).mono ?_
  rintro e w1 ⟨rfl, rfl⟩
  go_wp2_with (fail)
  refine (seen_nil _).mono ?_
  rintro e w2 ⟨rfl, T2⟩
  have hz2 := T2.size
  rw [World.size_alloc] at hz2
  have c2 := (T2.cell (p := ⟨w.heap.size, 0, none⟩) (by simp)).trans HC.out
  have T := ((Below.refl w.heap.size w).alloc (Nat.le_refl _) (.cells Z 49)).trans (T2.mono (by simp))
  have HC2 := Lib.hid c2
  clear T2 c2
  go_wp2_with (fail)
  refine (same05_true 0 0 0 0 _ _ _ rfl rfl).mono ?_
  rintro e w3 ⟨rfl, G⟩
  have c3 := (G.cell (p := ⟨w.heap.size, 0, none⟩) (by show w.heap.size < _; omega)).trans HC2.out
  have hz3 := G.size
  have T := nxt T G
  have M := Lib.hid (smade_no w.heap.size w3 c3)
  clear G c3
  go_wp2_with (fail)
  refine (feed_no (.pointer (some ⟨w.heap.size, 0, none⟩)) A n c _ M.out).mono ?_
  rintro e w4 ⟨rfl, rfl⟩
  go_wp2_with (fail)
  refine (dnew_nil _).mono ?_
  rintro e w5 ⟨rfl, G⟩
  have T := nxt T G
  clear G
  go_wp2_with (fail)
  refine (all_nil A n c _).mono ?_
  rintro e w6 ⟨rfl, G⟩
  have T := nxt T G
  clear G
  go_wp2_with (fail)
  refine (live05_any _).mono ?_
  rintro e w7 ⟨rfl, G⟩
  have T := nxt T G
  clear G
  go_wp2_with (fail)
  go_ret
  exact ⟨rfl, T⟩

set_option maxHeartbeats 8000000 in
set_option maxRecDepth 100000 in
theorem walk_DeframeFinds (A : Option Addr) (n c : Nat) (b : List UInt8) (w : World) (hB : Bys w A n c b) :
    Calls Try.prog 3 #[.slice A n c] w fun e w' => e = .returned (.bool true) ∧ Below w.heap.size w w' := by
  by_cases hn : 2000 < n
  · have hd : decide ((2000 : Int) < (n : Int)) = true := by simp; omega
    clear hB
    go_enter Try.func3, Try.ntmps3
    go_wp2_with (fail)
    refine (live05_any _).mono ?_
    rintro e w7 ⟨rfl, G⟩
    go_wp2_with (fail)
    go_ret
    exact ⟨rfl, G⟩
  · have hd : decide ((2000 : Int) < (n : Int)) = false := by simp; omega
    go_enter Try.func3, Try.ntmps3
    go_wp2_with (fail)
    refine (new_any w).mono ?_
    rintro e w1 ⟨t, rfl, ht, T⟩
    have hB1 := hB.below T
    have H := Lib.hid (dnew_any t w1 ht)
    have htl : t.block < w1.heap.size := by obtain ⟨g, rfl, h1, _⟩ := ht; exact h1
    go_wp2_with (fail)
    refine H.out.mono ?_
    rintro e w2 ⟨S, rfl, hS, hs, G⟩
    have ht2 := ht.below G
    have hB2 := hB1.below G
    have T2 := nxt T G
    have hSl := hs.lt
    have F := Lib.hid (feed_any S t scNew A n c b w2 ht2 (by omega) hs hB2 (hB.av.imp (fun k hk => by have hk : k = S := hk; have := T.size; show w.heap.size ≤ k; omega)) (by omega) (by decide) (by decide) (by decide))
    clear H hs hB1 ht
    go_wp2_with (fail)
    refine F.out.mono ?_
    rintro e w3 ⟨v, rfl, hO, hs3, hF⟩
    have T23 : Below w.heap.size w2 w3 := hF.below (fun k hk => by have hk : k = S := hk; have := T.size; omega) T2.size
    have T3 := T2.trans T23
    have ht3 := ht2.off (X := (· = S)) (by show ¬ (t.block = S); omega) hF
    have hB3 := hB.below T3
    obtain ⟨P, m1, rfl, hR⟩ := hO.shape
    have C := Lib.hid (scan_any A n c b w3 hB3 (by omega))
    have hz3 := T3.size
    have hSl3 := hs3.lt
    clear F hO hF T23 ht2 hB2 T T2 G
    go_wp2_with (fail)
    refine C.out.mono ?_
    rintro e w4 ⟨P2, m2, g, bd, l, z, rfl, hR2, hcnt, G⟩
    have HSR := Lib.hid (rfl : scRun (scNew, []) b = scRun (scNew, []) b)
    clear HSR
    have AL := fun W a1 a2 => all_any t A n c b W a1 a2 (by omega)
    generalize (scRun (scNew, []) b).2 = found at *
    generalize (scRun (scNew, []) b).1 = st at *
    obtain ⟨rfl, rfl, rfl, rfl⟩ := hcnt
    have AL := Lib.hid AL
    have T4 := nxt T3 G
    have ht4 := ht3.below G
    have hB4 := hB3.below G
    have hs4 := hs3.below G
    have hR4 := hR.below G
    generalize hlen : found.length = m at *
    have hlen := Lib.hid hlen
    clear C T3 G ht3 hB3 hs3 hR
    unfold talR
    go_wp2_with (fail)
    obtain ⟨w5, hw5⟩ : ∃ w5, w5 = w4.alloc (.cells #[.int .i64 (st.g : Int), .int .i64 (st.b : Int), .int .i64 (st.l : Int), .int .i64 (st.z : Int)] 31) := ⟨_, rfl⟩
    have G5 : Below w4.heap.size w4 w5 := by rw [hw5]; exact (Below.refl _ _).alloc (Nat.le_refl _) _
    have hY : TalB w5 w4.heap.size st.g st.b st.l st.z := by rw [hw5]; exact heap_alloc_new w4 _
    rw [← hw5]
    have T5 := nxt T4 G5
    have ht5 := ht4.below G5
    have hB5 := hB4.below G5
    have hs5 := hs4.below G5
    have hR5 := (hR4.below G5).rws
    have hR25 := hR2.below G5
    have hYl := lt_of_block hY
    clear hw5 G5 T4 ht4 hB4 hs4 hR4 hR2
    generalize w4.heap.size = Y at *
    have cY := fun (W : World) (k : Below w5.heap.size w5 W) => (TalB.off (X := fun _ => False) hY (fun h => h) (Off.of_below k)).cells
    have q5 := cY w5 (Below.refl _ _)
    have cY := Lib.hid cY
    have HSA := fun W (k : Below w5.heap.size w5 W) => sameall_true P P2 m m1 m m2 found W (hR5.below k) (hR25.below k)
    have HSA := Lib.hid HSA
    have HR25 := Lib.hid hR25
    have HSE := fun W (k : Below w5.heap.size w5 W) => seen_any S t st W (hs5.below k)
    have HSE := Lib.hid HSE
    have HAL := fun W (k : Below w5.heap.size w5 W) => AL.out W (ht5.below k) (hB5.below k)
    have HAL := Lib.hid HAL
    clear hY hR5 hR25 hs5 ht5 hB5 AL
    go_region_held3 (fun w' => w'.cell? ⟨Y, 0, none⟩ = some (.int .i64 (st.g : Int)) ∧ w'.cell? ⟨Y, 1, none⟩ = some (.int .i64 (st.b : Int)) ∧ w'.cell? ⟨Y, 2, none⟩ = some (.int .i64 (st.l : Int)) ∧ w'.cell? ⟨Y, 3, none⟩ = some (.int .i64 (st.z : Int)))
      (first | exact q5 | exact q6 | exact q7 | exact q8 | exact q9 | exact q10 | exact q11)
      (first
        | (go_at_call_of 13 (Value.slice P m m1); (with_reducible refine (HSA.out _ ?_).mono ?_); exact (Below.refl w5.heap.size w5).drew; rintro e w6 ⟨rfl, G6⟩; have K6 : Below w5.heap.size w5 w6 := undrew G6; have q6 := cY.out w6 K6)
        | (go_at_call 15; (with_reducible refine (HSE.out _ K6).mono ?_); rintro e w7 ⟨rfl, G7⟩; have K7 := nxt K6 G7; have q7 := cY.out w7 K7)
        | (go_at_call 14; (refine (same05_true st.g st.b st.l st.z _ _ _ rfl rfl).mono ?_); rintro e w8 ⟨rfl, G8⟩; have K8 := nxt K7 G8; have q8 := cY.out w8 K8)
        | (go_at_call 16; (with_reducible refine (HAL.out _ K8).mono ?_); rintro e w9 ⟨v9, rfl, hO9, G9⟩; have K9 := nxt K8 G9; have q9 := cY.out w9 K9; obtain ⟨P9, c9, rfl, hR9⟩ := hO9.shape; rw [hlen.out] at hR9; have HSB := Lib.hid (sameall_true P9 P2 m c9 m m2 found w9 hR9.rws (HR25.out.below K9)); rw [hlen.out])
        | (go_at_call 13; (with_reducible refine HSB.out.mono ?_); rintro e w10 ⟨rfl, G10⟩; have K10 := nxt K9 G10; have q10 := cY.out w10 K10)
        | (go_at_call 8; (refine (live05_any _).mono ?_); rintro e w11 ⟨rfl, G11⟩; have K11 := nxt K10 G11; have q11 := cY.out w11 K11))
    go_wp2_with (fail)
    go_ret
    exact ⟨rfl, nxt T5 K11⟩
end Go.Proofs.Ytldnomfjfipgiaa
