/- What kedgeref11's Bits and Text answer. -/
import Derived.Test.YtenbaljjncepeaaRwea1
namespace Go.Proofs.Ytenbaljjncepeaa
open Go.RowKit

theorem bitL_at (x : UInt8) (t : Nat) (h : t < 8) : (bitL x)[t]'(by rw [bitL_len]; exact h) = x.toNat / (128 / 2 ^ t) % 2 := by
  have h8 : t = 0 ∨ t = 1 ∨ t = 2 ∨ t = 3 ∨ t = 4 ∨ t = 5 ∨ t = 6 ∨ t = 7 := by omega
  rcases h8 with rfl | rfl | rfl | rfl | rfl | rfl | rfl | rfl <;> rfl
set_option maxHeartbeats 4000000 in
theorem bits_any (A : Option Addr) (n c : Nat) (b : List UInt8) (w : World) (hB : Bys w A n c b) (hn : n ≤ 8192) :
    Calls Try.prog 22 #[.slice A n c] w (GivesI w (bitsW b)) := by
  have hl := hB.len
  have hnc := hB.le
  have hcm := hB.cap
  have HC := Lib.hid hB.at_
  clear hB
  subst hl
  go_enter Try.func22, Try.ntmps22
  go_wp2_with (fail)
  go_loopw [3, 4] (fun v i wr => ∃ j : Nat, j ≤ b.length ∧ i = .int .i64 (j : Int) ∧ OwnI wr w.heap.size v (bitsW (b.take j)) ∧ Below w.heap.size w wr) (fun _ i _ => b.length - (intOf i).toNat)
  case atStart => exact ⟨0, Nat.zero_le _, rfl, OwnI.nil _ _, Below.refl _ _⟩
  case round =>
    obtain ⟨j, hj, rfl, hown, hbel⟩ := hrel
    by_cases hlt : j < b.length
    · have d1 : decide ((j : Int) < (b.length : Int)) = true := by simp; omega
      obtain ⟨g, o, rfl, hg, hc⟩ := HC.out (by omega)
      have c1 := (hbel.cell (p := ⟨g, o + j, none⟩) hg).trans (hc j hlt)
      have HS := Lib.hid (bitsW_take b j hlt)
      have hbl := bitsW_len (b.take j)
      have hcl : (bitsW (b.take j)).length ≤ 70000 := by rw [hbl]; simp; omega
      generalize b[j] = x at *
      have hx := x.toNat_lt
      have HON0 : Hid (OwnI wr w.heap.size u3 (bitsW (b.take j) ++ (bitL x).take 0)) := by
        show OwnI _ _ _ _
        rw [List.take_zero, List.append_nil]
        exact hown
      clear hc hown hbl
      generalize bitsW (b.take j) = cur at *
      go_wp2_with (fail)
      go_loopw [3, 6] (fun v i wr => ∃ t K : Nat, t ≤ 8 ∧ K = 128 / 2 ^ t ∧ i = .int .i64 (K : Int) ∧ OwnI wr w.heap.size v (cur ++ (bitL x).take t) ∧ Below w.heap.size w wr) (fun _ i _ => (intOf i).toNat)
      case atStart => exact ⟨0, 128, by decide, rfl, rfl, HON0.out, hbel⟩
      case round =>
        obtain ⟨t, K, ht, hK, rfl, hown, hbel2⟩ := hrel
        by_cases ht8 : t < 8
        · have h8 : t = 0 ∨ t = 1 ∨ t = 2 ∨ t = 3 ∨ t = 4 ∨ t = 5 ∨ t = 6 ∨ t = 7 := by omega
          obtain ⟨z, hz⟩ : ∃ z, x.toNat / K % 2 = z := ⟨_, rfl⟩
          have hst : (bitL x).take (t + 1) = (bitL x).take t ++ [z] := by
            rw [List.take_succ_eq_append_getElem (by rw [bitL_len]; exact ht8), bitL_at x t ht8, ← hK, hz]
          have HST : Hid (cur ++ (bitL x).take (t + 1) = cur ++ (bitL x).take t ++ [z]) := by show _ = _; rw [hst, List.append_assoc]
          have hcc : (cur ++ (bitL x).take t).length ≤ 80000 := by rw [List.length_append, List.length_take]; omega
          obtain ⟨T, hT⟩ : ∃ T, t + 1 = T := ⟨_, rfl⟩
          have hT8 : T ≤ 8 := by omega
          rw [hT] at HST
          generalize cur ++ (bitL x).take t = cc at *
          have HOO := Lib.hid hown
          have hsz := hbel2.size
          clear hst hown
          have ez : (x.toNat : Int) / (K : Int) % 2 = (z : Int) := by rw [← hz]; push_cast; rfl
          have hz2 : z < 2 := by rw [← hz]; exact Nat.mod_lt _ (by decide)
          clear hz
          rcases h8 with rfl | rfl | rfl | rfl | rfl | rfl | rfl | rfl
          all_goals
            first
              | (obtain rfl : K = 128 := hK)
              | (obtain rfl : K = 64 := hK)
              | (obtain rfl : K = 32 := hK)
              | (obtain rfl : K = 16 := hK)
              | (obtain rfl : K = 8 := hK)
              | (obtain rfl : K = 4 := hK)
              | (obtain rfl : K = 2 := hK)
              | (obtain rfl : K = 1 := hK; replace ez : (x.toNat : Int) % 2 = (z : Int) := by simpa using ez)
            try simp only [Int.cast_ofNat_Int] at ez
            go_wp2_with ((with_reducible refine app_i _ rfl (.tmp 22) (.tmp 27) rfl w.heap.size u3 cc rfl ?_ wr.heap.size z rfl ?_ ?_ ?_ ?_); (exact HOO.out.below ((Below.refl _ _).alloc (Nat.le_refl _) _)); (exact heap_alloc_new wr _); (omega); (simp; omega); intro v3 w3 hown3 hgrow3 hwhere3; have HO3 := Lib.hid (And.intro hown3 hgrow3); clear hown3 hgrow3 hwhere3)
            go_roundw
            case rel =>
              refine ⟨T, 128 / 2 ^ T, hT8, rfl, by rw [← hT]; rfl, ?_, ?_⟩
              · rw [HST.out]
                exact HO3.out.1
              · exact (hbel2.alloc hsz _).grown HO3.out.2 (by simp; omega) (fun g hg => (HOO.out.lt g hg).1)
            case measure => simp [intOf]
        · obtain rfl : t = 8 := by omega
          have hK0 : K = 0 := hK
          subst hK0
          rw [show (bitL x).take 8 = bitL x from rfl, ← HS.out] at hown
          have HOO := Lib.hid hown
          clear hown
          go_wp2
          go_roundw
          case rel => exact ⟨j + 1, by omega, by go_num, HOO.out, hbel2⟩
          case measure => simp [intOf]; omega
    · have d1 : decide ((j : Int) < (b.length : Int)) = false := by simp; omega
      obtain rfl : j = b.length := by omega
      rw [List.take_length] at hown
      have HOO := Lib.hid hown
      clear hown
      go_wp2
      go_ret
      exact ⟨_, rfl, HOO.out, hbel⟩
/-- a slice of bits, as it is read -/
theorem Vals.bit {w : World} {A : Option Addr} {n c : Nat} {l : List Nat} (h : Vals w A n c (ivs l)) (hn : 0 < n) : ∃ b o, A = some ⟨b, o, none⟩ ∧ b < w.heap.size ∧ ∀ j (h : j < l.length), w.cell? ⟨b, o + j, none⟩ = some (.int .i64 (l[j] : Int)) := by
  obtain ⟨b, o, e, hb, hc⟩ := h.at_ hn
  refine ⟨b, o, e, hb, fun j hj => ?_⟩
  have := hc j (by rw [ivs_len]; exact hj)
  rw [this]
  simp [ivs]
set_option maxHeartbeats 4000000 in
theorem text_any (A : Option Addr) (n c : Nat) (l : List Nat) (w : World) (hV : Vals w A n c (ivs l)) (h1 : ∀ x ∈ l, x ≤ 1) (hn : n ≤ 70000) :
    Calls Try.prog 23 #[.slice A n c] w (GivesB w (textW l)) := by
  have hl : l.length = n := by have := hV.len; rwa [ivs_len] at this
  have hnc := hV.le
  have hcm := hV.cap
  have HC := Lib.hid hV.bit
  have HT : Hid (textW l = textK l (l.length / 8)) := rfl
  have H1 := Lib.hid h1
  clear hV h1
  subst hl
  obtain ⟨M, hM⟩ : ∃ M, l.length / 8 = M := ⟨_, rfl⟩
  rw [hM] at HT
  have hM1 : 8 * M ≤ l.length := by omega
  have hM2 : l.length < 8 * M + 8 := by omega
  clear hM
  go_enter Try.func23, Try.ntmps23
  go_wp2_with (fail)
  go_loopw [3, 4] (fun v i wr => ∃ j : Nat, j ≤ M ∧ i = .int .i64 (8 * (j : Int)) ∧ wr.ownsRow w.heap.size 5 1 v j (bvs (textK l j)) ∧ Below w.heap.size w wr) (fun _ i _ => 8 * M + 8 - (intOf i).toNat)
  case atStart => exact ⟨0, Nat.zero_le _, rfl, World.ownsRow_nil _ _ _ _, Below.refl _ _⟩
  case round =>
    obtain ⟨j, hj, rfl, hown, hbel⟩ := hrel
    by_cases hlt : j < M
    · have d1 : decide (8 * (j : Int) + 8 ≤ (l.length : Int)) = true := by simp; omega
      have HS := Lib.hid (textK_succ l j)
      obtain ⟨D, hD⟩ : ∃ D, l.drop (8 * j) = D := ⟨_, rfl⟩
      rw [hD] at HS
      have hDl : 8 ≤ D.length := by rw [← hD]; simp; omega
      have hD1 : ∀ x ∈ D, x ≤ 1 := fun x hx => H1.out x (List.mem_of_mem_drop (by rw [hD]; exact hx))
      have hDat : ∀ t (ht : t < D.length) (ht' : 8 * j + t < l.length), D[t] = l[8 * j + t] := fun t ht ht' => by subst hD; rw [List.getElem_drop]
      have HDD := Lib.hid (And.intro hDat hD1)
      have HON := Lib.hid hown
      clear hD hDat hown hD1
      go_wp2_with (fail)
      go_loopw [5, 6] (fun s i w2 => ∃ t : Nat, t ≤ 8 ∧ s = .int .i64 ((numBt (D.take t) : Nat) : Int) ∧ i = .int .i64 (t : Int) ∧ wr = w2) (fun _ i _ => 8 - (intOf i).toNat)
      case atStart => exact ⟨0, by decide, rfl, rfl, rfl⟩
      case round =>
        obtain ⟨t, ht, rfl, rfl, rfl⟩ := hrel
        have hnb := numBt_lt D HDD.out.2 t
        have hpw : 2 ^ t ≤ 2 ^ 8 := Nat.pow_le_pow_right (by decide) ht
        have hnb : numBt (D.take t) < 256 := by omega
        clear hpw
        by_cases ht8 : t < 8
        · have d2 : decide ((t : Int) < 8) = true := by simp; omega
          obtain ⟨g, o, rfl, hg, hc⟩ := HC.out (by omega)
          have c1 := (hbel.cell (p := ⟨g, o + (8 * j + t), none⟩) hg).trans (hc (8 * j + t) (by omega))
          rw [← HDD.out.1 t (by omega) (by omega)] at c1
          have hst : numBt (D.take (t + 1)) = 2 * numBt (D.take t) + D[t]'(by omega) := by
            rw [List.take_succ_eq_append_getElem (by omega), numBt_snoc]
          have hle := HDD.out.2 (D[t]'(by omega)) (List.getElem_mem _)
          have HST := Lib.hid hst
          clear hc hst
          generalize D[t]'(by omega) = z at *
          generalize numBt (D.take t) = m at *
          go_wp2
          go_roundw
          case rel => exact ⟨t + 1, by omega, by rw [HST.out]; push_cast; rfl, by go_num, trivial⟩
          case measure => simp [intOf]; omega
        · have d2 : decide ((t : Int) < 8) = false := by simp; omega
          obtain rfl : t = 8 := by omega
          obtain ⟨z, hz⟩ : ∃ z, numBt (D.take 8) = z := ⟨_, rfl⟩
          rw [hz] at HS hnb ⊢
          have hzm : (z : Int) % 256 = (z : Int) := by omega
          have hnew : Hid (∀ W : World, Bys (W.alloc (.cells #[.int .u8 (z : Int)] 5)) (some ⟨W.heap.size, 0, none⟩) 1 1 [UInt8.ofNat z]) := fun W => by
            have h := Bys.lit W [UInt8.ofNat z] (by simp)
            have e : bvs [UInt8.ofNat z] = [.int .u8 (z : Int)] := by
              show [Value.int .u8 ((UInt8.ofNat z).toNat : Int)] = _
              rw [UInt8.toNat_ofNat', Nat.mod_eq_of_lt (by omega)]
            rw [e] at h
            exact h
          have hsz := hbel.size
          clear hz
          go_wp2_with ((with_reducible refine app_bys _ rfl (.tmp 27) (.tmp 30) rfl w.heap.size u3 j (bvs (textK l j)) rfl ?_ (some ⟨wr.heap.size, 0, none⟩) 1 1 [UInt8.ofNat z] rfl ?_ ?_ ?_ ?_); (exact HON.out.alloc _); (exact hnew.out wr); (omega); (simp; omega); intro v2 w2 hown3 hgrow2 hwhere2)
          go_roundw
          case rel =>
            rw [← bvs_append, ← HS.out] at hown3
            exact ⟨j + 1, by omega, by go_num, hown3, (hbel.alloc hsz _).grown hgrow2 (by simp; omega) (fun g hg => (HON.out.lt g hg).1)⟩
          case measure => simp [intOf]; omega
    · have d1 : decide (8 * (j : Int) + 8 ≤ (l.length : Int)) = false := by simp; omega
      obtain rfl : j = M := by omega
      rw [← HT.out] at hown
      obtain ⟨A1, c1, rfl⟩ := own_shape hown
      have HB := Lib.hid (Bys.of_own hown)
      clear hown
      go_wp2
      go_ret
      exact ⟨_, _, _, rfl, HB.out, hbel⟩
end Go.Proofs.Ytenbaljjncepeaa
