/- Joined: Rwea1 Rwea2 Rwea3. -/
import Derived.Test.YtkcpkfimmolkkaaDoorIntV
import Derived.Test.YtkcpkfimmolkkaaDoorFacts
import Derived.StillTailTactics
/- What kedgeref11's right, Order and Bits answer. -/
namespace Go.Proofs.YtkcpkfimmolkkaaDoor
open Go.RowKit
set_option maxRecDepth 20000

set_option maxHeartbeats 1000000 in
theorem right_any (n rows : Int) (w : World) :
    Calls Tryd.prog 60 #[.int .i64 n, .int .i64 rows] w fun e w' => e = .returned (.bool (decide (0 ≤ n ∧ n ≤ 65536 ∧ 1 ≤ rows ∧ rows ≤ 64))) ∧ w = w' := by
  obtain ⟨t1, d1⟩ : ∃ t, decide (0 ≤ n) = t := ⟨_, rfl⟩
  obtain ⟨t2, d2⟩ : ∃ t, decide (n ≤ 65536) = t := ⟨_, rfl⟩
  obtain ⟨t3, d3⟩ : ∃ t, decide (1 ≤ rows) = t := ⟨_, rfl⟩
  obtain ⟨t4, d4⟩ : ∃ t, decide (rows ≤ 64) = t := ⟨_, rfl⟩
  have HR : Hid (decide (0 ≤ n ∧ n ≤ 65536 ∧ 1 ≤ rows ∧ rows ≤ 64) = (t1 && (t2 && (t3 && t4)))) := by
    show _ = _
    rw [← d1, ← d2, ← d3, ← d4, Bool.decide_and, Bool.decide_and, Bool.decide_and]
  generalize decide (0 ≤ n ∧ n ≤ 65536 ∧ 1 ≤ rows ∧ rows ≤ 64) = R at *
  cases t1 <;> cases t2 <;> cases t3 <;> cases t4
  all_goals
    have HR := HR
    go_enter Tryd.func60, Tryd.ntmps60
    go_wp2
    go_ret
    exact ⟨by rw [HR.out]; rfl, rfl⟩
theorem colL_le (n cols c k : Nat) : (colL n cols c k).length ≤ k := by
  unfold colL
  rw [List.length_map]
  exact Nat.le_trans (List.length_filter_le _ _) (by simp)
theorem orderK_le (n rows cols k : Nat) : (orderK n rows cols k).length ≤ k * rows := by
  induction k with
  | zero => simp [orderK]
  | succ k ih =>
    have := colL_le n cols k rows
    rw [orderK_succ, List.length_append, Nat.add_mul]
    omega
theorem colsN_le (n rows : Nat) (hr : 1 ≤ rows) : colsN n rows ≤ n := by
  rcases Nat.eq_zero_or_pos (colsN n rows) with h | h
  · omega
  · have := colsN_lt n rows (colsN n rows - 1) hr (by omega)
    have h2 : colsN n rows - 1 ≤ (colsN n rows - 1) * rows := Nat.le_mul_of_pos_right _ (by omega)
    omega
theorem colL_in {n cols c k q : Nat} (hq : k * cols = q) (h : q + c < n) : colL n cols c (k + 1) = colL n cols c k ++ [q + c] := by subst hq; rw [colL_succ, if_pos h]
theorem colL_out {n cols c k q : Nat} (hq : k * cols = q) (h : ¬ q + c < n) : colL n cols c (k + 1) = colL n cols c k := by subst hq; rw [colL_succ, if_neg h]
set_option maxHeartbeats 4000000 in
theorem order_any (n rows : Nat) (w : World) (hn : n ≤ 65536) (hr : 1 ≤ rows) (hr2 : rows ≤ 64) :
    Calls Tryd.prog 62 #[.int .i64 (n : Int), .int .i64 (rows : Int)] w (GivesI w (orderW n rows)) := by
  obtain ⟨C, hC⟩ : ∃ C, colsN n rows = C := ⟨_, rfl⟩
  have hC1 : n ≤ C * rows := by rw [← hC]; exact colsN_ge n rows hr
  have hC2 : ∀ c, c < C → c * rows < n := fun c h => colsN_lt n rows c hr (by rw [hC]; exact h)
  have hC3 : C ≤ 65536 := by have := colsN_le n rows hr; omega
  have HO : Hid (orderW n rows = orderK n rows C C) := by show _ = _; unfold orderW; rw [hC]
  have HC1 := Lib.hid hC1
  have HC2 := Lib.hid hC2
  clear hC hC1 hC2
  go_enter Tryd.func62, Tryd.ntmps62
  go_wp2_with (fail)
  go_loopw [5] (fun i wr => ∃ c : Nat, c ≤ C ∧ i = .int .i64 (c : Int) ∧ w = wr) (fun i _ => C - (intOf i).toNat)
  case atStart => exact ⟨0, Nat.zero_le _, rfl, rfl⟩
  case round =>
    obtain ⟨c, hc, rfl, rfl⟩ := hrel
    obtain ⟨p, hp⟩ : ∃ p, c * rows = p := ⟨_, rfl⟩
    have ep : (c : Int) * (rows : Int) = (p : Int) := by rw [← hp]; push_cast; rfl
    have hpb : p ≤ 4194304 := by rw [← hp]; exact Nat.mul_le_mul (show c ≤ 65536 by omega) hr2
    have wp : wrap64 ((c : Int) * (rows : Int)) = (p : Int) := by rw [ep]; exact IntWalk.wrap64_in _ (by omega)
    by_cases hlt : c < C
    · have h2 := HC2.out c hlt
      rw [hp] at h2
      have d1 : decide ((p : Int) < (n : Int)) = true := by simp; omega
      clear hp
      go_wp2
      go_roundw
      case rel => exact ⟨c + 1, by omega, by go_num, trivial⟩
      case measure => simp [intOf]; omega
    · obtain rfl : c = C := by omega
      have h2 := HC1.out
      rw [hp] at h2
      have d1 : decide ((p : Int) < (n : Int)) = false := by simp; omega
      have d1n : decide (p < n) = false := by simp; omega
      clear hp HC1 HC2
      go_wp2_with (fail)
      clear ep wp hpb
      go_loopw [6, 7] (fun v i wr => ∃ k : Nat, k ≤ c ∧ i = .int .i64 (k : Int) ∧ OwnI wr w.heap.size v (orderK n rows c k) ∧ Below w.heap.size w wr) (fun _ i _ => c - (intOf i).toNat)
      case atStart => exact ⟨0, Nat.zero_le _, rfl, OwnI.nil _ _, Below.refl _ _⟩
      case round =>
        obtain ⟨k, hk, rfl, hown, hbel⟩ := hrel
        by_cases hkc : k < c
        · have d2 : decide ((k : Int) < (c : Int)) = true := by simp; omega
          have hkl := orderK_le n rows c k
          have hkb : k * rows ≤ 4194304 := Nat.mul_le_mul (show k ≤ 65536 by omega) hr2
          have hol : (orderK n rows c k).length ≤ 4194304 := by omega
          have HS := Lib.hid (orderK_succ n rows c k)
          have HON := Lib.hid hown
          clear hown hkl hkb
          generalize hcur : orderK n rows c k = cur at *
          have HON0 : Hid (OwnI wr w.heap.size u6 (cur ++ colL n c k 0)) := by
            have e : cur ++ colL n c k 0 = cur := List.append_nil _
            show OwnI _ _ _ _
            rw [e]
            exact HON.out
          go_wp2_with (fail)
          go_loopw [6, 8] (fun v i w2 => ∃ r : Nat, r ≤ rows ∧ i = .int .i64 (r : Int) ∧ OwnI w2 w.heap.size v (cur ++ colL n c k r) ∧ Below w.heap.size w w2) (fun _ i _ => rows - (intOf i).toNat)
          case atStart => exact ⟨0, Nat.zero_le _, rfl, HON0.out, hbel⟩
          case round =>
            obtain ⟨r, hrr, rfl, hown, hbel2⟩ := hrel
            by_cases hlr : r < rows
            · have d3 : decide ((r : Int) < (rows : Int)) = true := by simp; omega
              obtain ⟨q, hq⟩ : ∃ q, r * c = q := ⟨_, rfl⟩
              have eqq : (r : Int) * (c : Int) = (q : Int) := by rw [← hq]; push_cast; rfl
              have hqb : q ≤ 4194304 := by rw [← hq]; exact Nat.mul_le_mul (show r ≤ 64 by omega) (show c ≤ 65536 by omega)
              have wq : wrap64 ((r : Int) * (c : Int)) = (q : Int) := by rw [eqq]; exact IntWalk.wrap64_in _ (by omega)
              have hcl := colL_le n c k r
              by_cases hin : q + k < n
              · have hcs := colL_in hq hin
                obtain ⟨z, hz⟩ : ∃ z, q + k = z := ⟨_, rfl⟩
                have ez : (q : Int) + (k : Int) = (z : Int) := by rw [← hz]; push_cast; rfl
                rw [hz] at hcs
                have HCS : Hid (cur ++ colL n c k (r + 1) = (cur ++ colL n c k r) ++ [z]) := by show _ = _; rw [hcs, List.append_assoc]
                have hzn : z < n := by rw [← hz]; exact hin
                have hzb : z ≤ 9000000 := Nat.le_trans (Nat.le_of_lt hzn) (Nat.le_trans hn (by decide))
                clear hcs hz hq
                have hcurl : (cur ++ colL n c k r).length ≤ 9000000 := by rw [List.length_append]; exact Nat.le_trans (Nat.add_le_add hol (Nat.le_trans hcl (Nat.le_trans hrr hr2))) (by decide)
                generalize cur ++ colL n c k r = cc at *
                have HOO := Lib.hid hown
                have hsz := hbel2.size
                clear hown
                go_wp2_with ((with_reducible refine app_i _ rfl (.tmp 33) (.tmp 39) rfl w.heap.size u6 cc rfl ?_ wr.heap.size z rfl ?_ ?_ ?_ ?_); (exact HOO.out.below ((Below.refl _ _).alloc (Nat.le_refl _) _)); (exact heap_alloc_new wr _); (omega); (simp; omega); intro v3 w3 hown3 hgrow3 hwhere3; have HO3 := Lib.hid (And.intro hown3 hgrow3); clear hown3 hgrow3 hwhere3)
                go_roundw
                case rel =>
                  refine ⟨r + 1, by omega, by go_num, ?_, ?_⟩
                  · rw [HCS.out]
                    exact HO3.out.1
                  · exact (hbel2.alloc hsz _).grown HO3.out.2 (by simp; omega) (fun g hg => (HOO.out.lt g hg).1)
                case measure => simp [intOf]; omega
              · have hcs := colL_out hq hin
                obtain ⟨z, hz⟩ : ∃ z, q + k = z := ⟨_, rfl⟩
                have ez : (q : Int) + (k : Int) = (z : Int) := by rw [← hz]; push_cast; rfl
                have hzn : n ≤ z := by rw [← hz]; exact Nat.le_of_not_lt hin
                have hzb : z ≤ 9000000 := by rw [← hz]; exact Nat.le_trans (Nat.add_le_add hqb (Nat.le_trans hk hC3)) (by decide)
                have HCS := Lib.hid hcs
                have HOO := Lib.hid hown
                clear hcs hz hq hown hin hcl
                go_wp2
                go_roundw
                case rel => exact ⟨r + 1, by omega, by go_num, by rw [HCS.out]; exact HOO.out, hbel2⟩
                case measure => simp [intOf]; omega
            · have d3 : decide ((r : Int) < (rows : Int)) = false := by simp; omega
              obtain rfl : r = rows := by omega
              rw [← HS.out] at hown
              have HOO := Lib.hid hown
              clear hown
              go_wp2
              go_roundw
              case rel => exact ⟨k + 1, by omega, by go_num, HOO.out, hbel2⟩
              case measure => simp [intOf]; omega
        · have d2 : decide ((k : Int) < (c : Int)) = false := by simp; omega
          obtain rfl : k = c := by omega
          rw [← HO.out] at hown
          have HOO := Lib.hid hown
          clear hown
          go_wp2
          go_ret
          exact ⟨_, rfl, HOO.out, hbel⟩
end Go.Proofs.YtkcpkfimmolkkaaDoor

/- What kedgeref11's Bits and Text answer. -/
namespace Go.Proofs.YtkcpkfimmolkkaaDoor
open Go.RowKit
set_option maxRecDepth 20000

theorem bitL_at (x : UInt8) (t : Nat) (h : t < 8) : (bitL x)[t]'(by rw [bitL_len]; exact h) = x.toNat / (128 / 2 ^ t) % 2 := by
  have h8 : t = 0 ∨ t = 1 ∨ t = 2 ∨ t = 3 ∨ t = 4 ∨ t = 5 ∨ t = 6 ∨ t = 7 := by omega
  rcases h8 with rfl | rfl | rfl | rfl | rfl | rfl | rfl | rfl <;> rfl
set_option maxHeartbeats 4000000 in
theorem bits_any (A : Option Addr) (n c : Nat) (b : List UInt8) (w : World) (hB : Bys w A n c b) (hn : n ≤ 8192) :
    Calls Tryd.prog 61 #[.slice A n c] w (GivesI w (bitsW b)) := by
  have hl := hB.len
  have hnc := hB.le
  have hcm := hB.cap
  have HC := Lib.hid hB.at_
  clear hB
  subst hl
  go_enter Tryd.func61, Tryd.ntmps61
  go_wp2_with (fail)
  go_loopw [3, 4] (fun v i wr => ∃ j : Nat, j ≤ b.length ∧ i = .int .i64 (j : Int) ∧ OwnI wr w.heap.size v (bitsW (b.take j)) ∧ Below w.heap.size w wr) (fun _ i _ => b.length - (intOf i).toNat)
  case atStart => exact ⟨0, Nat.zero_le _, rfl, OwnI.nil _ _, Below.refl _ _⟩
  case round =>
    obtain ⟨j, hj, rfl, hown, hbel⟩ := hrel
    by_cases hlt : j < b.length
    · have d1 : decide ((j : Int) < (b.length : Int)) = true := by simp; omega
      obtain ⟨g, o, rfl, hg, hc⟩ := HC.out (by omega)
      have c1 := (hbel.cell (p := ⟨g, o + j, none⟩) hg).trans (hc j hlt)
      have HS := Lib.hid (bitsW_take b j hlt)
      have hbl := bitsW_len (b.take j)
      have hcl : (bitsW (b.take j)).length ≤ 70000 := by rw [hbl]; simp; omega
      generalize b[j] = x at *
      have hx := x.toNat_lt
      have HON0 : Hid (OwnI wr w.heap.size u3 (bitsW (b.take j) ++ (bitL x).take 0)) := by
        show OwnI _ _ _ _
        rw [List.take_zero, List.append_nil]
        exact hown
      clear hc hown hbl
      generalize bitsW (b.take j) = cur at *
      go_wp2_with (fail)
      go_loopw [3, 6] (fun v i wr => ∃ t K : Nat, t ≤ 8 ∧ K = 128 / 2 ^ t ∧ i = .int .i64 (K : Int) ∧ OwnI wr w.heap.size v (cur ++ (bitL x).take t) ∧ Below w.heap.size w wr) (fun _ i _ => (intOf i).toNat)
      case atStart => exact ⟨0, 128, by decide, rfl, rfl, HON0.out, hbel⟩
      case round =>
        obtain ⟨t, K, ht, hK, rfl, hown, hbel2⟩ := hrel
        by_cases ht8 : t < 8
        · have h8 : t = 0 ∨ t = 1 ∨ t = 2 ∨ t = 3 ∨ t = 4 ∨ t = 5 ∨ t = 6 ∨ t = 7 := by omega
          obtain ⟨z, hz⟩ : ∃ z, x.toNat / K % 2 = z := ⟨_, rfl⟩
          have hst : (bitL x).take (t + 1) = (bitL x).take t ++ [z] := by
            rw [List.take_succ_eq_append_getElem (by rw [bitL_len]; exact ht8), bitL_at x t ht8, ← hK, hz]
          have HST : Hid (cur ++ (bitL x).take (t + 1) = cur ++ (bitL x).take t ++ [z]) := by show _ = _; rw [hst, List.append_assoc]
          have hcc : (cur ++ (bitL x).take t).length ≤ 80000 := by rw [List.length_append, List.length_take]; omega
          obtain ⟨T, hT⟩ : ∃ T, t + 1 = T := ⟨_, rfl⟩
          have hT8 : T ≤ 8 := by omega
          rw [hT] at HST
          generalize cur ++ (bitL x).take t = cc at *
          have HOO := Lib.hid hown
          have hsz := hbel2.size
          clear hst hown
          have ez : (x.toNat : Int) / (K : Int) % 2 = (z : Int) := by rw [← hz]; push_cast; rfl
          have hz2 : z < 2 := by rw [← hz]; exact Nat.mod_lt _ (by decide)
          clear hz
          rcases h8 with rfl | rfl | rfl | rfl | rfl | rfl | rfl | rfl
          all_goals
            first
              | (obtain rfl : K = 128 := hK)
              | (obtain rfl : K = 64 := hK)
              | (obtain rfl : K = 32 := hK)
              | (obtain rfl : K = 16 := hK)
              | (obtain rfl : K = 8 := hK)
              | (obtain rfl : K = 4 := hK)
              | (obtain rfl : K = 2 := hK)
              | (obtain rfl : K = 1 := hK; replace ez : (x.toNat : Int) % 2 = (z : Int) := by simpa using ez)
            try simp only [Int.cast_ofNat_Int] at ez
            go_wp2_with ((with_reducible refine app_i _ rfl (.tmp 22) (.tmp 27) rfl w.heap.size u3 cc rfl ?_ wr.heap.size z rfl ?_ ?_ ?_ ?_); (exact HOO.out.below ((Below.refl _ _).alloc (Nat.le_refl _) _)); (exact heap_alloc_new wr _); (omega); (simp; omega); intro v3 w3 hown3 hgrow3 hwhere3; have HO3 := Lib.hid (And.intro hown3 hgrow3); clear hown3 hgrow3 hwhere3)
            go_roundw
            case rel =>
              refine ⟨T, 128 / 2 ^ T, hT8, rfl, by rw [← hT]; rfl, ?_, ?_⟩
              · rw [HST.out]
                exact HO3.out.1
              · exact (hbel2.alloc hsz _).grown HO3.out.2 (by simp; omega) (fun g hg => (HOO.out.lt g hg).1)
            case measure => simp [intOf]
        · obtain rfl : t = 8 := by omega
          have hK0 : K = 0 := hK
          subst hK0
          rw [show (bitL x).take 8 = bitL x from rfl, ← HS.out] at hown
          have HOO := Lib.hid hown
          clear hown
          go_wp2
          go_roundw
          case rel => exact ⟨j + 1, by omega, by go_num, HOO.out, hbel2⟩
          case measure => simp [intOf]; omega
    · have d1 : decide ((j : Int) < (b.length : Int)) = false := by simp; omega
      obtain rfl : j = b.length := by omega
      rw [List.take_length] at hown
      have HOO := Lib.hid hown
      clear hown
      go_wp2
      go_ret
      exact ⟨_, rfl, HOO.out, hbel⟩
/-- a slice of bits, as it is read -/
theorem Vals.bit {w : World} {A : Option Addr} {n c : Nat} {l : List Nat} (h : Vals w A n c (ivs l)) (hn : 0 < n) : ∃ b o, A = some ⟨b, o, none⟩ ∧ b < w.heap.size ∧ ∀ j (h : j < l.length), w.cell? ⟨b, o + j, none⟩ = some (.int .i64 (l[j] : Int)) := by
  obtain ⟨b, o, e, hb, hc⟩ := h.at_ hn
  refine ⟨b, o, e, hb, fun j hj => ?_⟩
  have := hc j (by rw [ivs_len]; exact hj)
  rw [this]
  simp [ivs]
set_option maxHeartbeats 4000000 in
theorem text_any (A : Option Addr) (n c : Nat) (l : List Nat) (w : World) (hV : Vals w A n c (ivs l)) (h1 : ∀ x ∈ l, x ≤ 1) (hn : n ≤ 70000) :
    Calls Tryd.prog 63 #[.slice A n c] w (GivesB w (textW l)) := by
  have hl : l.length = n := by have := hV.len; rwa [ivs_len] at this
  have hnc := hV.le
  have hcm := hV.cap
  have HC := Lib.hid hV.bit
  have HT : Hid (textW l = textK l (l.length / 8)) := rfl
  have H1 := Lib.hid h1
  clear hV h1
  subst hl
  obtain ⟨M, hM⟩ : ∃ M, l.length / 8 = M := ⟨_, rfl⟩
  rw [hM] at HT
  have hM1 : 8 * M ≤ l.length := by omega
  have hM2 : l.length < 8 * M + 8 := by omega
  clear hM
  go_enter Tryd.func63, Tryd.ntmps63
  go_wp2_with (fail)
  go_loopw [3, 4] (fun v i wr => ∃ j : Nat, j ≤ M ∧ i = .int .i64 (8 * (j : Int)) ∧ wr.ownsRow w.heap.size 5 1 v j (bvs (textK l j)) ∧ Below w.heap.size w wr) (fun _ i _ => 8 * M + 8 - (intOf i).toNat)
  case atStart => exact ⟨0, Nat.zero_le _, rfl, World.ownsRow_nil _ _ _ _, Below.refl _ _⟩
  case round =>
    obtain ⟨j, hj, rfl, hown, hbel⟩ := hrel
    by_cases hlt : j < M
    · have d1 : decide (8 * (j : Int) + 8 ≤ (l.length : Int)) = true := by simp; omega
      have HS := Lib.hid (textK_succ l j)
      obtain ⟨D, hD⟩ : ∃ D, l.drop (8 * j) = D := ⟨_, rfl⟩
      rw [hD] at HS
      have hDl : 8 ≤ D.length := by rw [← hD]; simp; omega
      have hD1 : ∀ x ∈ D, x ≤ 1 := fun x hx => H1.out x (List.mem_of_mem_drop (by rw [hD]; exact hx))
      have hDat : ∀ t (ht : t < D.length) (ht' : 8 * j + t < l.length), D[t] = l[8 * j + t] := fun t ht ht' => by subst hD; rw [List.getElem_drop]
      have HDD := Lib.hid (And.intro hDat hD1)
      have HON := Lib.hid hown
      clear hD hDat hown hD1
      go_wp2_with (fail)
      go_loopw [5, 6] (fun s i w2 => ∃ t : Nat, t ≤ 8 ∧ s = .int .i64 ((numBt (D.take t) : Nat) : Int) ∧ i = .int .i64 (t : Int) ∧ wr = w2) (fun _ i _ => 8 - (intOf i).toNat)
      case atStart => exact ⟨0, by decide, rfl, rfl, rfl⟩
      case round =>
        obtain ⟨t, ht, rfl, rfl, rfl⟩ := hrel
        have hnb := numBt_lt D HDD.out.2 t
        have hpw : 2 ^ t ≤ 2 ^ 8 := Nat.pow_le_pow_right (by decide) ht
        have hnb : numBt (D.take t) < 256 := by omega
        clear hpw
        by_cases ht8 : t < 8
        · have d2 : decide ((t : Int) < 8) = true := by simp; omega
          obtain ⟨g, o, rfl, hg, hc⟩ := HC.out (by omega)
          have c1 := (hbel.cell (p := ⟨g, o + (8 * j + t), none⟩) hg).trans (hc (8 * j + t) (by omega))
          rw [← HDD.out.1 t (by omega) (by omega)] at c1
          have hst : numBt (D.take (t + 1)) = 2 * numBt (D.take t) + D[t]'(by omega) := by
            rw [List.take_succ_eq_append_getElem (by omega), numBt_snoc]
          have hle := HDD.out.2 (D[t]'(by omega)) (List.getElem_mem _)
          have HST := Lib.hid hst
          clear hc hst
          generalize D[t]'(by omega) = z at *
          generalize numBt (D.take t) = m at *
          go_wp2
          go_roundw
          case rel => exact ⟨t + 1, by omega, by rw [HST.out]; push_cast; rfl, by go_num, trivial⟩
          case measure => simp [intOf]; omega
        · have d2 : decide ((t : Int) < 8) = false := by simp; omega
          obtain rfl : t = 8 := by omega
          obtain ⟨z, hz⟩ : ∃ z, numBt (D.take 8) = z := ⟨_, rfl⟩
          rw [hz] at HS hnb ⊢
          have hzm : (z : Int) % 256 = (z : Int) := by omega
          have hnew : Hid (∀ W : World, Bys (W.alloc (.cells #[.int .u8 (z : Int)] 5)) (some ⟨W.heap.size, 0, none⟩) 1 1 [UInt8.ofNat z]) := fun W => by
            have h := Bys.lit W [UInt8.ofNat z] (by simp)
            have e : bvs [UInt8.ofNat z] = [.int .u8 (z : Int)] := by
              show [Value.int .u8 ((UInt8.ofNat z).toNat : Int)] = _
              rw [UInt8.toNat_ofNat', Nat.mod_eq_of_lt (by omega)]
            rw [e] at h
            exact h
          have hsz := hbel.size
          clear hz
          go_wp2_with ((with_reducible refine app_bys _ rfl (.tmp 27) (.tmp 30) rfl w.heap.size u3 j (bvs (textK l j)) rfl ?_ (some ⟨wr.heap.size, 0, none⟩) 1 1 [UInt8.ofNat z] rfl ?_ ?_ ?_ ?_); (exact HON.out.alloc _); (exact hnew.out wr); (omega); (simp; omega); intro v2 w2 hown3 hgrow2 hwhere2)
          go_roundw
          case rel =>
            rw [← bvs_append, ← HS.out] at hown3
            exact ⟨j + 1, by omega, by go_num, hown3, (hbel.alloc hsz _).grown hgrow2 (by simp; omega) (fun g hg => (HON.out.lt g hg).1)⟩
          case measure => simp [intOf]; omega
    · have d1 : decide (8 * (j : Int) + 8 ≤ (l.length : Int)) = false := by simp; omega
      obtain rfl : j = M := by omega
      rw [← HT.out] at hown
      obtain ⟨A1, c1, rfl⟩ := own_shape hown
      have HB := Lib.hid (Bys.of_own hown)
      clear hown
      go_wp2
      go_ret
      exact ⟨_, _, _, rfl, HB.out, hbel⟩
end Go.Proofs.YtkcpkfimmolkkaaDoor

/- What kedgeref11's Place, Do and Undo answer. -/
namespace Go.Proofs.YtkcpkfimmolkkaaDoor
open Go.RowKit
set_option maxRecDepth 20000

/-- what Place answers -/
def placeR (n rows at_ : Int) : Int × Bool := if (0 ≤ n ∧ n ≤ 65536 ∧ 1 ≤ rows ∧ rows ≤ 64) ∧ 0 ≤ at_ ∧ at_ < n then ((placeN n.toNat rows.toNat at_.toNat : Int), true) else (0, false)
/-- a row of numbers, as it is read in later worlds -/
theorem OwnI.vals {w : World} {B : Nat} {A : Option Addr} {c n : Nat} {l : List Nat} (h : OwnI w B (.slice A n c) l) : Vals w A n c (ivs l) ∧ l.length = n := by
  obtain ⟨A', c', hv, hV⟩ := h.shape
  injection hv with h1 h2 h3
  subst h1; subst h2; subst h3
  exact ⟨hV, rfl⟩
theorem permL_take (o x : List Nat) (i : Nat) (h : i < o.length) : permL (o.take (i + 1)) x = permL (o.take i) x ++ [x.getD o[i] 0] := by
  unfold permL
  rw [List.take_succ_eq_append_getElem h, List.map_append]
  rfl
theorem okW_right (m : Nat) (rows : Int) : decide (0 ≤ 8 * (m : Int) ∧ 8 * (m : Int) ≤ 65536 ∧ 1 ≤ rows ∧ rows ≤ 64) = decide (okW m rows) := by
  rw [decide_eq_decide]
  unfold okW
  omega
set_option maxHeartbeats 8000000 in
theorem rweave_any (A : Option Addr) (n c : Nat) (b : List UInt8) (rows : Int) (w : World) (hB : Bys w A n c b) (hn : n ≤ 140737488355328) :
    Calls Tryd.prog 34 #[.slice A n c, .int .i64 rows] w (GivesB w (weaveB b rows)) := by
  have hl := hB.len
  have hnc := hB.le
  have hcm := hB.cap
  have HRI := Lib.hid (right_any (8 * (n : Int)) rows w)
  rw [okW_right] at HRI
  by_cases hok : okW n rows
  · rw [decide_eq_true hok] at HRI
    have hok2 := hok
    unfold okW at hok2
    obtain ⟨R, rfl⟩ := Int.eq_ofNat_of_zero_le (show 0 ≤ rows by omega)
    have HW : Hid (weaveB b (R : Int) = textW (permL (orderW (8 * n) R) (bitsW b))) := by show _ = _; unfold weaveB; rw [hl, if_pos hok, Int.toNat_natCast]
    have HBI := Lib.hid (bits_any A n c b w hB (by omega))
    have HOR := Lib.hid (fun W => order_any (8 * n) R W (by omega) (by omega) (by omega))
    have hbl : (bitsW b).length = 8 * n := by rw [bitsW_len, hl]
    have hol := order_len (8 * n) R (by omega)
    have hmo : ∀ x, x ∈ orderW (8 * n) R → x < 8 * n := fun x hx => (mem_order (by omega)).1 hx
    have hpb := permL_bit (orderW (8 * n) R) (bitsW b) (bitsW_bit b)
    obtain ⟨M, hM⟩ : ∃ M, 8 * n = M := ⟨_, rfl⟩
    have eM : 8 * (n : Int) = (M : Int) := by omega
    have hM6 : M ≤ 65536 := by omega
    rw [hM] at HW HOR hbl hol hmo hpb
    rw [eM] at HRI
    have HPB := Lib.hid hpb
    have HMO := Lib.hid hmo
    have HLN := Lib.hid (And.intro hbl hol)
    clear hok hok2 hbl hol hmo hpb hM hB
    generalize bitsW b = x at *
    generalize orderW M R = o at *
    go_enter Tryd.func34, Tryd.ntmps34
    go_wp2_with (fail)
    refine HRI.out.mono ?_
    rintro e w1 ⟨rfl, rfl⟩
    go_wp2_with (fail)
    refine HBI.out.mono ?_
    rintro e w2 ⟨v2, rfl, hO2, T2⟩
    obtain ⟨A2, c2, hv2, hV2⟩ := hO2.shape
    rw [HLN.out.1] at hv2 hV2
    subst hv2
    go_wp2_with (fail)
    refine (HOR.out _).mono ?_
    rintro e w3 ⟨v3, rfl, hO3, T3⟩
    obtain ⟨A3, c3, hv3, hV3⟩ := hO3.shape
    rw [HLN.out.2] at hv3 hV3
    subst hv3
    have hV2 := hV2.below T3
    have T3 := nxt T2 T3
    have hz3 := T3.size
    have k2 := hV2.le
    have k3 := hV3.le
    have m2 := hV2.cap
    have m3 := hV3.cap
    have HV2 := Lib.hid hV2.bit
    have HV3 := Lib.hid hV3.bit
    clear hO2 hO3 hV2 hV3
    go_wp2_with (fail)
    go_loopw [7, 8] (fun v i wr => ∃ j : Nat, j ≤ M ∧ i = .int .i64 (j : Int) ∧ OwnI wr w3.heap.size v (permL (o.take j) x) ∧ Below w3.heap.size w3 wr) (fun _ i _ => M - (intOf i).toNat)
    case atStart => exact ⟨0, Nat.zero_le _, rfl, OwnI.nil _ _, Below.refl _ _⟩
    case round =>
      obtain ⟨j, hj, rfl, hown, hbel⟩ := hrel
      by_cases hlt : j < M
      · have d1 : decide ((j : Int) < (M : Int)) = true := by simp; omega
        obtain ⟨g3, o3, rfl, hg3, hc3⟩ := HV3.out (by omega)
        obtain ⟨g2, o2, rfl, hg2, hc2⟩ := HV2.out (by omega)
        have hjo : j < o.length := by rw [HLN.out.2]; exact hlt
        have q3 := (hbel.cell (p := ⟨g3, o3 + j, none⟩) hg3).trans (hc3 j hjo)
        have hoj := HMO.out o[j] (List.getElem_mem hjo)
        have hst := permL_take o x j hjo
        generalize o[j] = p at *
        have hpx : p < x.length := by rw [HLN.out.1]; exact hoj
        have q2 := (hbel.cell (p := ⟨g2, o2 + p, none⟩) hg2).trans (hc2 p hpx)
        have hgd : x.getD p 0 = x[p] := by rw [List.getD_eq_getElem?_getD, List.getElem?_eq_getElem hpx]; rfl
        rw [hgd] at hst
        generalize x[p] = z at *
        have HST := Lib.hid hst
        have hpl : (permL (o.take j) x).length ≤ 70000 := by unfold permL; simp; omega
        have HON := Lib.hid hown
        have hsz := hbel.size
        have i1 : (p : Int) < (M : Int) := by omega
        clear hc2 hc3 hst hown hgd hpx hjo
        generalize permL (o.take j) x = cc at *
        go_wp2_with ((with_reducible refine app_i _ rfl (.tmp 28) (.tmp 36) rfl w3.heap.size u7 cc rfl ?_ wr.heap.size z rfl ?_ ?_ ?_ ?_); (exact HON.out.below ((Below.refl _ _).alloc (Nat.le_refl _) _)); (exact heap_alloc_new wr _); (omega); (simp; omega); intro v4 w4 hown4 hgrow4 hwhere4; have HO4 := Lib.hid (And.intro hown4 hgrow4); clear hown4 hgrow4 hwhere4)
        go_roundw
        case rel =>
          refine ⟨j + 1, by omega, by go_num, ?_, ?_⟩
          · rw [HST.out]
            exact HO4.out.1
          · exact (hbel.alloc hsz _).grown HO4.out.2 (by simp; omega) (fun g hg => (HON.out.lt g hg).1)
        case measure => simp [intOf]; omega
      · have d1 : decide ((j : Int) < (M : Int)) = false := by simp; omega
        obtain rfl : j = M := by omega
        rw [← HLN.out.2, List.take_length] at hown
        obtain ⟨A4, c4, hv4, hV4⟩ := hown.shape
        have hpl : (permL o x).length = j := by unfold permL; rw [List.length_map, HLN.out.2]
        rw [hpl] at hv4 hV4
        subst hv4
        have HTX := Lib.hid (text_any A4 j c4 (permL o x) _ hV4 HPB.out (by omega))
        clear hown hV4 hpl
        go_wp2_with (fail)
        refine HTX.out.mono ?_
        rintro e w5 ⟨A5, n5, c5, rfl, hB5, T5⟩
        have T5 := nxt (nxt T3 hbel) T5
        have HB5 := Lib.hid hB5
        clear hB5
        go_wp2
        go_ret
        exact ⟨_, _, _, rfl, by rw [HW.out]; exact HB5.out, T5⟩
  · rw [decide_eq_false hok] at HRI
    have HW : Hid (weaveB b rows = []) := by show _ = _; unfold weaveB; rw [hl, if_neg hok]
    clear hB hok
    go_enter Tryd.func34, Tryd.ntmps34
    go_wp2_with (fail)
    refine HRI.out.mono ?_
    rintro e w1 ⟨rfl, rfl⟩
    go_wp2
    go_ret
    exact ⟨_, _, _, rfl, by rw [HW.out]; exact Bys.nil _, Below.refl _ _⟩
theorem OwnI.stored {w : World} {B g n c : Nat} {l : List Nat} (h : OwnI w B (.slice (some ⟨g, 0, none⟩) n c) l) (j k : Nat) :
    OwnI (w.setCell ⟨g, j, none⟩ (.int .i64 (k : Int))) B (.slice (some ⟨g, 0, none⟩) n c) (l.set j k) := by
  have hn := h.vals.2
  unfold OwnI at h ⊢
  rw [hn] at h
  rw [List.length_set, hn, ivs_set]
  exact (h.stored j _).1
theorem OwnI.cell {w : World} {B g n c : Nat} {l : List Nat} (h : OwnI w B (.slice (some ⟨g, 0, none⟩) n c) l) (j : Nat) (hj : j < l.length) : (∃ z : Nat, w.cell? ⟨g, j, none⟩ = some (.int .i64 (z : Int))) ∧ w.frozen? ⟨g, j, none⟩ = false := by
  have hn := h.vals.2
  unfold OwnI at h
  rw [hn] at h
  exact ⟨⟨l[j], by rw [h.cellAt j (by omega)]; exact ivs_get l j hj⟩, h.frozenAt j⟩
set_option maxHeartbeats 8000000 in
theorem runweave_any (A : Option Addr) (n c : Nat) (b : List UInt8) (rows : Int) (w : World) (hB : Bys w A n c b) (hn : n ≤ 140737488355328) :
    Calls Tryd.prog 47 #[.slice A n c, .int .i64 rows] w (GivesB w (unweaveB b rows)) := by
  have hl := hB.len
  have hnc := hB.le
  have hcm := hB.cap
  have HRI := Lib.hid (right_any (8 * (n : Int)) rows w)
  rw [okW_right] at HRI
  by_cases hok : okW n rows
  · rw [decide_eq_true hok] at HRI
    have hok2 := hok
    unfold okW at hok2
    obtain ⟨R, rfl⟩ := Int.eq_ofNat_of_zero_le (show 0 ≤ rows by omega)
    have HW : Hid (unweaveB b (R : Int) = textW (unpermK (orderW (8 * n) R) (bitsW b) (8 * n))) := by show _ = _; unfold unweaveB; rw [hl, if_pos hok, Int.toNat_natCast]
    have HBI := Lib.hid (bits_any A n c b w hB (by omega))
    have HOR := Lib.hid (fun W => order_any (8 * n) R W (by omega) (by omega) (by omega))
    have hbl : (bitsW b).length = 8 * n := by rw [bitsW_len, hl]
    have hol := order_len (8 * n) R (by omega)
    have hmo : ∀ x, x ∈ orderW (8 * n) R → x < 8 * n := fun x hx => (mem_order (by omega)).1 hx
    have hpb := unpermK_bit (orderW (8 * n) R) (bitsW b) (bitsW_bit b) (8 * n)
    obtain ⟨M, hM⟩ : ∃ M, 8 * n = M := ⟨_, rfl⟩
    have eM : 8 * (n : Int) = (M : Int) := by omega
    have hM6 : M ≤ 65536 := by omega
    rw [hM] at HW HOR hbl hol hmo hpb
    rw [eM] at HRI
    have HPB := Lib.hid hpb
    have HMO := Lib.hid hmo
    have HLN := Lib.hid (And.intro hbl hol)
    clear hok hok2 hbl hol hmo hpb hM hB
    generalize bitsW b = x at *
    generalize orderW M R = o at *
    obtain ⟨i0, hi, hz0, hz1, hz2⟩ := info_parts Tryd.infoI
    go_enter Tryd.func47, Tryd.ntmps47
    go_wp2_with (fail)
    refine HRI.out.mono ?_
    rintro e w1 ⟨rfl, rfl⟩
    go_wp2_with (fail)
    refine HBI.out.mono ?_
    rintro e w2 ⟨v2, rfl, hO2, T2⟩
    obtain ⟨A2, c2, hv2, hV2⟩ := hO2.shape
    rw [HLN.out.1] at hv2 hV2
    subst hv2
    go_wp2_with (fail)
    refine (HOR.out _).mono ?_
    rintro e w3 ⟨v3, rfl, hO3, T3⟩
    obtain ⟨A3, c3, hv3, hV3⟩ := hO3.shape
    rw [HLN.out.2] at hv3 hV3
    subst hv3
    have hV2 := hV2.below T3
    have T3 := nxt T2 T3
    have hz3 := T3.size
    have k2 := hV2.le
    have k3 := hV3.le
    have m2 := hV2.cap
    have m3 := hV3.cap
    have HV2 := Lib.hid hV2.bit
    have HV3 := Lib.hid hV3.bit
    clear hO2 hO3 hV2 hV3
    go_wp2_with (at_make; refine wpList_make_full _ rfl _ _ 79 rfl w3.heap.size 3 i0 (.int .i64 0) 1 Tryd.underlying79 hi hz0 hz1 .i64 .i64 _ _ M rfl rfl rfl rfl (by rw [hz2]; omega) (by unfold maxLen; omega) (Nat.le_refl _) ?_; intro w4 hown hgrow; have HON := Lib.hid (And.intro hown hgrow); clear hown hgrow)
    have HOI : Hid (OwnI w4 w3.heap.size (.slice (some ⟨w3.heap.size, 0, none⟩) M M) (unpermK o x 0) ∧ Below w3.heap.size w3 w4) := by
      refine ⟨?_, (Below.refl _ _).grown HON.out.2 (Nat.le_refl _) (by simp)⟩
      have h := HON.out.1
      simp only [Value.cells, Nat.mul_one, toList_madeCells_one] at h
      unfold OwnI unpermK
      rw [List.length_replicate, HLN.out.1]
      have e : ivs (List.replicate M 0) = List.replicate M (.int .i64 0) := by simp [ivs]
      rw [e]
      exact h
    clear HON
    go_loopw [8] (fun i wr => ∃ j : Nat, j ≤ M ∧ i = .int .i64 (j : Int) ∧ OwnI wr w3.heap.size (.slice (some ⟨w3.heap.size, 0, none⟩) M M) (unpermK o x j) ∧ Below w3.heap.size w3 wr) (fun i _ => M - (intOf i).toNat)
    case atStart => exact ⟨0, Nat.zero_le _, rfl, HOI.out.1, HOI.out.2⟩
    case round =>
      obtain ⟨j, hj, rfl, hown, hbel⟩ := hrel
      by_cases hlt : j < M
      · have d1 : decide ((j : Int) < (M : Int)) = true := by simp; omega
        obtain ⟨g3, o3, rfl, hg3, hc3⟩ := HV3.out (by omega)
        obtain ⟨g2, o2, rfl, hg2, hc2⟩ := HV2.out (by omega)
        have hjo : j < o.length := by rw [HLN.out.2]; exact hlt
        have hjx : j < x.length := by rw [HLN.out.1]; exact hlt
        have q3 := (hbel.cell (p := ⟨g3, o3 + j, none⟩) hg3).trans (hc3 j hjo)
        have q2 := (hbel.cell (p := ⟨g2, o2 + j, none⟩) hg2).trans (hc2 j hjx)
        have hoj := HMO.out o[j] (List.getElem_mem hjo)
        have hst : unpermK o x (j + 1) = (unpermK o x j).set o[j] x[j] := by
          show (unpermK o x j).set (o.getD j 0) (x.getD j 0) = _
          rw [List.getD_eq_getElem?_getD, List.getElem?_eq_getElem hjo, List.getD_eq_getElem?_getD, List.getElem?_eq_getElem hjx]
          rfl
        generalize o[j] = p at *
        generalize x[j] = z at *
        have HST := Lib.hid hst
        have hul : (unpermK o x j).length = M := by rw [unpermK_len, HLN.out.1]
        obtain ⟨⟨y, c4⟩, f4⟩ := hown.cell p (by omega)
        have HON := Lib.hid hown
        have CXX := Lib.hid c4
        have i1 : (p : Int) < (M : Int) := by omega
        have i2 : (j : Int) < (M : Int) := by omega
        clear hc2 hc3 hst hown hjo hjx hul c4 f4
        generalize unpermK o x j = cc at *
        go_wp2_with (fail)
        go_still_tail 10, (by kernel_rfl)
        change wpList _ _ _ _ _ wr.drew
        have HW4 : Hid (OwnI wr.drew w3.heap.size (.slice (some ⟨w3.heap.size, 0, none⟩) M M) cc ∧ Below w3.heap.size w3 wr.drew ∧ wr.drew.cell? ⟨w3.heap.size, p, none⟩ = some (.int .i64 (y : Int))) := ⟨HON.out, hbel.drew, CXX.out⟩
        have hcl : cc.length = M := HON.out.vals.2
        clear q2 q3 HON CXX hbel
        generalize wr.drew = W4 at *
        have c4 : W4.cell? ⟨w3.heap.size, p, none⟩ = some (.int .i64 (y : Int)) := HW4.out.2.2
        have f4 : W4.frozen? ⟨w3.heap.size, p, none⟩ = false := (HW4.out.1.cell p (by omega)).2
        go_wp2
        go_roundw
        case rel =>
          refine ⟨j + 1, by omega, by go_num, ?_, ?_⟩
          · rw [HST.out]
            exact HW4.out.1.stored p z
          · exact HW4.out.2.1.setCell (Nat.le_refl _) _
        case measure => simp [intOf]; omega
      · have d1 : decide ((j : Int) < (M : Int)) = false := by simp; omega
        obtain rfl : j = M := by omega
        have HTX := Lib.hid (text_any (some ⟨w3.heap.size, 0, none⟩) j j (unpermK o x j) _ hown.vals.1 HPB.out (by omega))
        clear hown
        go_wp2_with (fail)
        refine HTX.out.mono ?_
        rintro e w5 ⟨A5, n5, c5, rfl, hB5, T5⟩
        have T5 := nxt (nxt T3 hbel) T5
        have HB5 := Lib.hid hB5
        clear hB5
        go_wp2
        go_ret
        exact ⟨_, _, _, rfl, by rw [HW.out]; exact HB5.out, T5⟩
  · rw [decide_eq_false hok] at HRI
    have HW : Hid (unweaveB b rows = []) := by show _ = _; unfold unweaveB; rw [hl, if_neg hok]
    clear hB hok
    go_enter Tryd.func47, Tryd.ntmps47
    go_wp2_with (fail)
    refine HRI.out.mono ?_
    rintro e w1 ⟨rfl, rfl⟩
    go_wp2
    go_ret
    exact ⟨_, _, _, rfl, by rw [HW.out]; exact Bys.nil _, Below.refl _ _⟩
end Go.Proofs.YtkcpkfimmolkkaaDoor
