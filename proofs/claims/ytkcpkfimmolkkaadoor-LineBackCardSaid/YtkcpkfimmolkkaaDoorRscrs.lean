/- Joined: Rscr1 Rscr2. -/
import Derived.Test.YtkcpkfimmolkkaaDoorWords
import Derived.Test.YtkcpkfimmolkkaaDoorFacts
import Derived.Laws.BitsAllLaws
import Derived.Deep.RegionLaw
/- What kedgeref09's Own, Step, State answer. -/
namespace Go.Proofs.YtkcpkfimmolkkaaDoor
open Go.RowKit
set_option maxRecDepth 20000

theorem tmod15 (k : Int) : (0 ≤ k ∧ k.tmod 32768 = k % 32768) ∨ (k < 0 ∧ k.tmod 32768 = -((-k) % 32768)) := by
  by_cases h : 0 ≤ k
  · exact .inl ⟨h, Int.tmod_eq_emod_of_nonneg h⟩
  · right
    refine ⟨by omega, ?_⟩
    have e : k.tmod 32768 = -((-k).tmod 32768) := by rw [Int.neg_tmod, Int.neg_neg]
    rw [e, Int.tmod_eq_emod_of_nonneg (by omega)]
set_option maxHeartbeats 1000000 in
theorem own_any (k : Int) (w : World) :
    Calls Tryd.prog 89 #[.int .i64 k] w fun e w' => e = .returned (.int .i64 (ownN k : Int)) ∧ w = w' := by
  have hr := ownN_cast k
  have ht := tmod15 k
  by_cases h0 : k.tmod 32768 < 0
  · have d0 : decide (k.tmod 32768 < 0) = true := by simpa using h0
    have e : wrap64 (k.tmod 32768 + 32768) = (ownN k : Int) := by rw [IntWalk.wrap64_in _ (by omega), hr]; omega
    have E := Lib.hid e
    clear hr e ht
    go_enter Tryd.func89, Tryd.ntmps89
    go_wp2
    go_ret
    exact ⟨by rw [E.out]; rfl, rfl⟩
  · have d0 : decide (k.tmod 32768 < 0) = false := by simpa using h0
    have e : k.tmod 32768 = (ownN k : Int) := by rw [hr]; omega
    have E := Lib.hid e
    clear hr e ht
    go_enter Tryd.func89, Tryd.ntmps89
    go_wp2
    go_ret
    exact ⟨by rw [E.out]; rfl, rfl⟩
set_option maxHeartbeats 1000000 in
theorem rstep9_any (k : Int) (w : World) :
    Calls Tryd.prog 82 #[.int .i64 k] w fun e w' => e = .returned (.tuple #[.int .i64 (bitN (ownN k) : Int), .int .i64 (nextN (ownN k) : Int)]) ∧ w = w' := by
  have HO := Lib.hid (own_any k w)
  have hS := ownN_lt k
  generalize ownN k = S at *
  have HB : Hid (((bitN S : Nat) : Int) = ((S : Int) / 16384 + (S : Int) / 8192) % 2) := by show _ = _; unfold bitN; omega
  have HX : Hid (((nextN S : Nat) : Int) = (2 * (S : Int) + ((bitN S : Nat) : Int)) % 32768) := by show _ = _; unfold nextN; omega
  go_enter Tryd.func82, Tryd.ntmps82
  go_wp2_with (fail)
  refine HO.out.mono ?_
  rintro e w1 ⟨rfl, rfl⟩
  go_wp2
  go_ret2
  rw [HX.out, HB.out]
  exact ⟨rfl, rfl⟩
end Go.Proofs.YtkcpkfimmolkkaaDoor

/- What kedgeref09's Stream and Do answer. -/
namespace Go.Proofs.YtkcpkfimmolkkaaDoor
open Go.RowKit
set_option maxRecDepth 20000

set_option maxHeartbeats 2000000 in
theorem rstream_any (k n : Int) (w : World) :
    Calls Tryd.prog 64 #[.int .i64 k, .int .i64 n] w (GivesB w (streamB k n)) := by
  by_cases h1 : n < 0
  · have d1 : decide (n < 0) = true := by simpa using h1
    have HR : Hid (streamB k n = []) := by show _ = _; unfold streamB; rw [if_pos (.inl h1)]
    clear h1
    go_enter Tryd.func64, Tryd.ntmps64
    go_wp2
    go_ret
    exact ⟨_, _, _, rfl, by rw [HR.out]; exact Bys.nil _, Below.refl _ _⟩
  · have d1 : decide (n < 0) = false := by simpa using h1
    by_cases h2 : 4096 < n
    · have d2 : decide (4096 < n) = true := by simpa using h2
      have HR : Hid (streamB k n = []) := by show _ = _; unfold streamB; rw [if_pos (.inr h2)]
      clear h1 h2
      go_enter Tryd.func64, Tryd.ntmps64
      go_wp2
      go_ret
      exact ⟨_, _, _, rfl, by rw [HR.out]; exact Bys.nil _, Below.refl _ _⟩
    · obtain ⟨N, rfl⟩ := Int.eq_ofNat_of_zero_le (show 0 ≤ n by omega)
      have hN : N ≤ 4096 := by omega
      have HR : Hid (streamB k (N : Int) = strmN N (ownN k)) := streamB_nat k N hN
      have d2 : decide ((4096 : Int) < (N : Int)) = false := by simp; omega
      clear h1 h2 d1
      have d1 : decide ((N : Int) < 0) = false := by simp
      obtain ⟨S, hS⟩ : ∃ S, ownN k = S := ⟨_, rfl⟩
      have HS := Lib.hid hS
      rw [hS] at HR
      clear hS
      go_enter Tryd.func64, Tryd.ntmps64
      go_wp2_with (fail)
      go_loopw [0, 5, 6] (fun s v i wr => ∃ (j : Nat) (x : Int), j ≤ N ∧ s = .int .i64 x ∧ i = .int .i64 (j : Int) ∧ Hid (ownN x = stN (8 * j) S) ∧ wr.ownsRow w.heap.size 5 1 v j (bvs (strmN j S)) ∧ Below w.heap.size w wr) (fun _ _ i _ => N - (intOf i).toNat)
      case atStart => exact ⟨0, k, Nat.zero_le _, rfl, rfl, HS.out, World.ownsRow_nil _ _ _ _, Below.refl _ _⟩
      case round =>
        obtain ⟨j, x, hj, rfl, rfl, HX, hown, hbel⟩ := hrel
        by_cases hlt : j < N
        · have d3 : decide ((j : Int) < (N : Int)) = true := by simp; omega
          have HSN : Hid (strmN (j + 1) S = strmN j S ++ [byteN (stN (8 * j) S)]) := strmN_snoc j S
          have HNX : Hid (stN (8 * (j + 1)) S = stN 8 (stN (8 * j) S)) := by show _ = _; rw [show 8 * (j + 1) = 8 * j + 8 by omega, stN_add]
          generalize stN (8 * j) S = s0 at *
          have HON := Lib.hid hown
          clear hown
          go_wp2_with (fail)
          go_loopw [0, 7, 8] (fun s c i w2 => ∃ (t : Nat) (y : Int), t ≤ 8 ∧ s = .int .i64 y ∧ c = .int .i64 ((numN t s0 : Nat) : Int) ∧ i = .int .i64 (t : Int) ∧ Hid (ownN y = stN t s0) ∧ wr = w2) (fun _ _ i _ => 8 - (intOf i).toNat)
          case atStart => exact ⟨0, x, by decide, rfl, rfl, rfl, HX.out, rfl⟩
          case round =>
            obtain ⟨t, y, ht, rfl, rfl, rfl, HY, rfl⟩ := hrel
            by_cases hlt2 : t < 8
            · have d4 : decide ((t : Int) < 8) = true := by simp; omega
              have hst := rstep9_any y wr
              rw [HY.out, ← stN_succ] at hst
              have hnb := numN_lt t s0
              have hbl := bitN_lt (stN t s0)
              have hpw : 2 ^ t ≤ 2 ^ 8 := Nat.pow_le_pow_right (by decide) ht
              have hnb : numN t s0 < 256 := by omega
              have HNS : Hid (2 * numN t s0 + bitN (stN t s0) = numN (t + 1) s0) := rfl
              have HOW : Hid (ownN ((stN (t + 1) s0 : Nat) : Int) = stN (t + 1) s0) := ownN_nat _ (by rw [stN_succ]; exact nextN_lt _)
              have HST := Lib.hid hst
              clear hst hpw
              generalize bitN (stN t s0) = bt at *
              generalize hs1 : stN (t + 1) s0 = s1 at *
              have HS1 := Lib.hid hs1
              clear hs1
              generalize numN t s0 = n0 at *
              go_wp2_with (fail)
              refine HST.out.mono ?_
              rintro e w1 ⟨rfl, rfl⟩
              go_wp2
              go_roundw
              case rel => exact ⟨t + 1, s1, by omega, rfl, by rw [← HNS.out]; push_cast; rfl, by go_num, HOW.out.trans HS1.out.symm, trivial⟩
              case measure => simp [intOf]; omega
            · have d4 : decide ((t : Int) < 8) = false := by simp; omega
              obtain rfl : t = 8 := by omega
              have hb := byteN_num s0
              have hbl := numN_lt 8 s0
              have hbl : numN 8 s0 < 256 := by omega
              have HNX2 : Hid (ownN y = stN (8 * (j + 1)) S) := HY.out.trans HNX.out.symm
              have hnew : Hid (∀ W : World, Bys (W.alloc (.cells #[.int .u8 ((numN 8 s0 : Nat) : Int)] 5)) (some ⟨W.heap.size, 0, none⟩) 1 1 [byteN s0]) := fun W => by
                have h := Bys.lit W [byteN s0] (by simp)
                have e : bvs [byteN s0] = [.int .u8 ((numN 8 s0 : Nat) : Int)] := by
                  show [Value.int .u8 ((byteN s0).toNat : Int)] = _
                  rw [hb]
                rw [e] at h
                exact h
              generalize numN 8 s0 = n0 at *
              have e8 : (n0 : Int) % 256 = (n0 : Int) := by omega
              clear hb HY
              go_wp2_with ((with_reducible refine app_bys _ rfl (.tmp 34) (.tmp 37) rfl w.heap.size u5 j (bvs (strmN j S)) rfl ?_ (some ⟨wr.heap.size, 0, none⟩) 1 1 [byteN s0] rfl ?_ ?_ ?_ ?_); (exact HON.out.alloc _); (exact hnew.out wr); (omega); (have := hbel.size; simp; omega); intro v2 w2 hown3 hgrow2 hwhere2)
              go_roundw
              case rel =>
                rw [← bvs_append, ← HSN.out] at hown3
                exact ⟨j + 1, y, by omega, rfl, by go_num, HNX2.out, hown3, (hbel.alloc hbel.size _).grown hgrow2 (by have := hbel.size; simp; omega) (fun g hg => (HON.out.lt g hg).1)⟩
              case measure => simp [intOf]; omega
        · have d3 : decide ((j : Int) < (N : Int)) = false := by simp; omega
          obtain rfl : j = N := by omega
          obtain ⟨A1, c1, rfl⟩ := own_shape hown
          have HB := Lib.hid (Bys.of_own hown)
          clear hown
          go_wp2
          go_ret
          exact ⟨_, _, _, rfl, by rw [HR.out]; exact HB.out, hbel⟩
theorem u8_xx (x y : UInt8) : bits BinOp.xor IntKind.u8 (x.toNat : Int) (y.toNat : Int) = ((x ^^^ y).toNat : Int) := by
  rw [u8_xor_nat _ _ x.toNat_lt y.toNat_lt, UInt8.toNat_xor]
set_option maxHeartbeats 2000000 in
theorem rscr_any (k : Int) (A : Option Addr) (n c : Nat) (b : List UInt8) (w : World) (hB : Bys w A n c b) (hn : n ≤ 140737488355328) :
    Calls Tryd.prog 35 #[.int .i64 k, .slice A n c] w (GivesB w (scrB k b)) := by
  have HST := Lib.hid (rstream_any k (n : Int) w)
  have hlb := hB.len
  have hxl : (scrB k b).length ≤ n := by unfold scrB xorB; rw [List.length_zipWith]; omega
  have HF : Hid (scrB k b = xorB b (streamB k (n : Int))) := by show _ = _; rw [← hlb]; rfl
  have hsl : (streamB k (n : Int)).length ≤ n := by
    unfold streamB
    split
    · simp
    · rw [strmN_len]; omega
  generalize streamB k (n : Int) = s at *
  have HC := Lib.hid (fun W (k : Below w.heap.size w W) => hB.below k)
  clear hB hxl
  go_enter Tryd.func35, Tryd.ntmps35
  go_wp2_with (fail)
  refine HST.out.mono ?_
  rintro e w1 ⟨A1, n1, c1, rfl, hB1, T1⟩
  have hl1 := hB1.len
  have hle1 := hB1.le
  have hcap1 := hB1.cap
  have hBB := HC.out _ T1
  have hcm := hBB.cap
  have hnc := hBB.le
  have HB := Lib.hid (And.intro hBB hB1)
  clear hBB hB1
  subst hl1
  go_wp2_with (fail)
  go_loopw [6, 7] (fun v i wr => ∃ j : Nat, j ≤ s.length ∧ i = .int .i64 (j : Int) ∧ wr.ownsRow w1.heap.size 5 1 v j (bvs (xorB (b.take j) (s.take j))) ∧ Below w.heap.size w wr ∧ Below w1.heap.size w1 wr) (fun _ i _ => s.length - (intOf i).toNat)
  case atStart => exact ⟨0, Nat.zero_le _, rfl, World.ownsRow_nil _ _ _ _, T1, Below.refl _ _⟩
  case round =>
    obtain ⟨j, hj, rfl, hown, hbel, hb1⟩ := hrel
    by_cases hlt : j < s.length
    · have d3 : decide ((j : Int) < (s.length : Int)) = true := by simp; omega
      obtain ⟨g, o, rfl, hg, hc⟩ := HB.out.1.at_ (by omega)
      obtain ⟨g2, o2, rfl, hg2, hc2⟩ := HB.out.2.at_ (by omega)
      have q1 := (hb1.cell (p := ⟨g, o + j, none⟩) hg).trans (hc j (by omega))
      have q2 := (hb1.cell (p := ⟨g2, o2 + j, none⟩) hg2).trans (hc2 j hlt)
      have hst : xorB (b.take (j + 1)) (s.take (j + 1)) = xorB (b.take j) (s.take j) ++ [b[j]'(by omega) ^^^ s[j]] := by
        rw [List.take_succ_eq_append_getElem (show j < b.length by omega), List.take_succ_eq_append_getElem hlt, xorB_append _ _ _ _ (by simp; omega)]
        rfl
      have HST2 := Lib.hid hst
      have HON := Lib.hid hown
      clear hc hc2 hst hown
      generalize b[j]'(by omega) = x at *
      generalize s[j] = y at *
      have hx := u8_xx x y
      have hnew : Hid (∀ W : World, Bys (W.alloc (.cells #[.int .u8 ((x ^^^ y).toNat : Int)] 5)) (some ⟨W.heap.size, 0, none⟩) 1 1 [x ^^^ y]) := fun W => Bys.lit W [x ^^^ y] (by simp)
      have hz := hbel.size
      have hz1 := hb1.size
      have hlt1 : (j : Int) < (n : Int) := by omega
      have hlt2 : (j : Int) < (s.length : Int) := by omega
      go_wp2_with (fail)
      go_region_law ((refine step_bys _ rfl (.tmp 18) (.tmp 28) rfl w1.heap.size u6 j (bvs (xorB (b.take j) (s.take j))) rfl ?_ (some ⟨wr.heap.size, 0, none⟩) 1 1 [x ^^^ y] rfl ?_ ?_ ?_ ?_); (exact HON.out.drew.alloc _); (exact hnew.out wr.drew); (omega); (simp; omega); intro v2 w2 hown3 hgrow2 hwhere2)
      all_goals
        rw [← bvs_append, ← HST2.out] at hown3
        have HO3 := Lib.hid hown3
        have HT3 := Lib.hid (And.intro ((hbel.alloc hz _).drew.grown hgrow2 (by simp; omega) (fun g hg => Nat.le_trans T1.size (HON.out.lt g hg).1)) ((hb1.alloc hb1.size _).drew.grown hgrow2 (by have := hb1.size; simp; omega) (fun g hg => (HON.out.lt g hg).1)))
        clear hown3 hgrow2
        go_wp2
        go_roundw
        case rel => exact ⟨j + 1, by omega, by go_num, HO3.out, HT3.out⟩
        case measure => simp [intOf]; omega
    · have d3 : decide ((j : Int) < (s.length : Int)) = false := by simp; omega
      obtain rfl : j = s.length := by omega
      rw [List.take_length] at hown
      have hxx : xorB (b.take s.length) s = scrB k b := by
        rw [HF.out]
        unfold xorB
        have e : List.zipWith (· ^^^ ·) b s = List.zipWith (· ^^^ ·) (b.take s.length) (s.take s.length) := by
          rw [List.zipWith_eq_zipWith_take_min, Nat.min_eq_right (by omega)]
        rw [e, List.take_length]
      rw [hxx] at hown
      obtain ⟨A2, c2, rfl⟩ := own_shape hown
      have HBB := Lib.hid (Bys.of_own hown)
      clear hown hxx
      go_wp2
      go_ret
      exact ⟨_, _, _, rfl, HBB.out, hbel⟩
end Go.Proofs.YtkcpkfimmolkkaaDoor
