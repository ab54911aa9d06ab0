/- The walks of layer 3's statements: each law answers true and leaves what was there as it was. -/
import Derived.Test.YtfpibihnnpajoaaLive03
import Derived.Test.YtfpibihnnpajoaaRstuffP
import Derived.Test.YtfpibihnnpajoaaRstuffG
import Derived.Test.YtfpibihnnpajoaaRstuffL
namespace Go.Proofs.Ytfpibihnnpajoaa
open Go.RowKit

set_option maxRecDepth 20000 in
set_option maxHeartbeats 1000000 in
theorem walk_StuffPuts (A : Option Addr) (n c : Nat) (l : List UInt8) (w : World) (hB : Bys w A n c l) (hn : n ≤ 1048576) :
    Calls Try.prog 3 #[.slice A n c] w fun e w' => e = .returned (.bool true) ∧ Below w.heap.size w w' := by
  have hN : (stuffB l).length ≤ 2097152 := by have := (stuffB_len l).2; have := hB.len; omega
  go_enter Try.func3, Try.ntmps3
  go_wp2_with (fail)
  refine (stput_any A n c l _ hB (by omega) (by omega)).mono ?_
  rintro e w1 ⟨A1, n1, c1, rfl, B1, T⟩
  have HN := Lib.hid B1.len
  have hn1 : n1 ≤ 2097152 := by have := HN.out; omega
  clear hN
  have hB1 := hB.below T
  go_wp2_with (fail)
  refine (rstput_any A n c l _ hB1 (by have := HN.out; omega)).mono ?_
  rintro e w2 ⟨A2, n2, c2, rfl, B2, G⟩
  have T := nxt T G
  have B1 := B1.below G
  clear G hB1
  go_wp2_with (fail)
  refine (same_true A1 A2 n1 c1 n2 c2 _ _ B1 B2).mono ?_
  rintro e w3 ⟨rfl, G⟩
  have T := nxt T G
  clear G
  have hB3 := hB.below T
  go_wp2_with (fail)
  refine (stsize_any A n c l _ hB3 (by omega)).mono ?_
  rintro e w' ⟨rfl, rfl⟩
  rw [HN.out]
  go_wp2_with (fail)
  refine (live03 _).mono ?_
  rintro e w4 ⟨rfl, G⟩
  have T := nxt T G
  clear G
  go_wp2_with (fail)
  go_ret
  exact ⟨rfl, T⟩

set_option maxRecDepth 20000 in
set_option maxHeartbeats 1000000 in
theorem walk_StuffGets (A : Option Addr) (n c : Nat) (l : List UInt8) (w : World) (hB : Bys w A n c l) (hn : n ≤ 140737488351232) :
    Calls Try.prog 4 #[.slice A n c] w fun e w' => e = .returned (.bool true) ∧ Below w.heap.size w w' := by
  have H1 := Lib.hid (stget_any A n c l w hB (by omega))
  have H2 := Lib.hid (fun (w' : World) (h : Bys w' A n c l) => rstget_any A n c l w' h (by omega))
  obtain ⟨z, hz⟩ : ∃ z, unstE (unst l) = z := ⟨_, rfl⟩
  rw [hz] at H1 H2
  clear hz
  go_enter Try.func4, Try.ntmps4
  go_wp2_with (fail)
  refine H1.out.mono ?_
  rintro e w1 ⟨A1, n1, c1, rfl, B1, T⟩
  go_wp2_with (fail)
  refine (H2.out _ (hB.below T)).mono ?_
  rintro e w2 ⟨A2, n2, c2, rfl, B2, G⟩
  have T := nxt T G
  have B1 := B1.below G
  clear G
  go_wp2_with (fail)
  refine (same_true A1 A2 n1 c1 n2 c2 _ _ B1 B2).mono ?_
  rintro e w3 ⟨rfl, G⟩
  have T := nxt T G
  clear G
  go_wp2_with (fail)
  refine (num_any z _).mono ?_
  rintro e w' ⟨rfl, rfl⟩
  have hzz : (z == z) = true := by simp
  go_wp2_with (fail)
  refine (live03 _).mono ?_
  rintro e w4 ⟨rfl, G⟩
  have T := nxt T G
  clear G
  go_wp2_with (fail)
  go_ret
  exact ⟨rfl, T⟩

set_option maxRecDepth 20000 in
set_option maxHeartbeats 2000000 in
theorem walk_StuffBack (A : Option Addr) (n c : Nat) (l : List UInt8) (A' : Option Addr) (n' c' : Nat) (m : List UInt8) (w : World) (hB : Bys w A n c l) (hn : n ≤ 140737488351232) (hB' : Bys w A' n' c' m) (hn' : n' ≤ 140737488351232) :
    Calls Try.prog 5 #[.slice A n c, .slice A' n' c'] w fun e w' => e = .returned (.bool true) ∧ Below w.heap.size w w' := by
  have hN := stuffB_len l
  have hlen := hB.len
  have hlen' := hB'.len
  go_enter Try.func5, Try.ntmps5
  go_wp2_with (fail)
  refine (stput_any A n c l _ hB (by omega) (by omega)).mono ?_
  rintro e w1 ⟨A1, N, c1, rfl, B1, T⟩
  have HN := B1.len
  have hN1 : n ≤ N := by omega
  have hN2 : N ≤ 2 * n := by omega
  have HNL := Lib.hid HN
  clear HN hN hlen
  have G1 := Lib.hid (stget_any A1 N c1 _ _ B1 (by omega))
  rw [unst_stuffB, show unstE (some l) = 0 from rfl] at G1
  go_wp2_with (fail)
  refine G1.out.mono ?_
  rintro e w2 ⟨A2, n2, c2, rfl, B2, G⟩
  obtain rfl : n2 = n := B2.len.symm.trans hB.len
  have T := nxt T G
  have B1 := B1.below G
  clear G
  go_wp2_with (fail)
  refine (num_any _ _).mono ?_
  rintro e w' ⟨rfl, rfl⟩
  go_wp2_with (fail)
  refine (same_true A2 A n2 c2 n2 c l _ B2 (hB.below T)).mono ?_
  rintro e w3 ⟨rfl, G⟩
  have T := nxt T G
  have B1 := B1.below G
  clear G
  have d1 : decide ((N : Int) < (n2 : Int)) = false := by simp; omega
  have d2 : decide ((n2 : Int) < (N : Int) - (n2 : Int)) = false := by simp; omega
  have d3 : IntKind.i64.wrap ((N : Int) - (n2 : Int)) = (N : Int) - (n2 : Int) := IntWalk.i64_in _ (by omega)
  go_wp2_with (fail)
  have NF := Lib.hid (stuffB_noflag l)
  obtain ⟨-, hNc, hcm, hcell⟩ := B1
  unfold maxLen at hcm
  have HC := Lib.hid hcell; clear hcell
  go_loopw [8] (fun i wr => ∃ k : Nat, k ≤ N ∧ i = .int .i64 k ∧ wr = w3) (fun i _ => N - (intOf i).toNat)
  case atStart => exact ⟨0, Nat.zero_le _, rfl, rfl⟩
  case round =>
    obtain ⟨k, hk, rfl, rfl⟩ := hrel
    by_cases hlt : k < N
    · obtain ⟨b, o, rfl, hb, hc⟩ := HC.out (by omega)
      have hk2 : k < (stuffB l).length := by have := HNL.out; omega
      have c1 := hc k hk2
      have e1 : (((stuffB l)[k].toNat : Int) == 126) = false := u8_ne (b := 0x7e) (NF.out _ (List.getElem_mem hk2))
      clear hc
      generalize (stuffB l)[k] = x at *
      go_wp2
      go_roundw
      case rel => exact ⟨k + 1, by omega, by go_num, trivial⟩
      case measure => simp [intOf]; omega
    · clear d1 d2 d3
      have hB' := hB'.below T
      have G2 := Lib.hid (stget_any A' n' c' m _ hB' (by omega))
      rcases hu : unst m with _ | y
      · rw [hu] at G2
        have z1 : unstE (none : Option (List UInt8)) = 30 := rfl
        rw [z1] at G2
        clear hu
        go_wp2_with (fail)
        refine G2.out.mono ?_
        rintro e w4 ⟨A4, n4, c4, rfl, -, G⟩
        have T := nxt T G
        clear G
        go_wp2_with (fail)
        refine (num_any _ _).mono ?_
        rintro e w' ⟨rfl, rfl⟩
        go_wp2_with (fail)
        refine (live03 _).mono ?_
        rintro e w5 ⟨rfl, G⟩
        have T := nxt T G
        clear G
        go_wp2_with (fail)
        go_ret
        exact ⟨rfl, T⟩
      · rw [hu] at G2
        have z1 : unstE (some y) = 0 := rfl
        rw [z1] at G2
        have HY := Lib.hid (stuffB_unst m y hu)
        clear hu
        go_wp2_with (fail)
        refine G2.out.mono ?_
        rintro e w4 ⟨A4, n4, c4, rfl, B4, G⟩
        have T := nxt T G
        have hB' := hB'.below G
        clear G
        have G5 := Lib.hid (stput_any A4 n4 c4 y _ B4 (by have := B4.len; have := (stuffB_len y).1; rw [HY.out] at this; simp at *; omega) (by rw [HY.out]; omega))
        rw [HY.out] at G5
        go_wp2_with (fail)
        refine (num_any _ _).mono ?_
        rintro e w' ⟨rfl, rfl⟩
        go_wp2_with (fail)
        refine G5.out.mono ?_
        rintro e w5 ⟨A5, n5, c5, rfl, B5, G⟩
        have T := nxt T G
        have hB' := hB'.below G
        clear G
        go_wp2_with (fail)
        refine (same_true A5 A' n5 c5 n' c' m _ B5 hB').mono ?_
        rintro e w6 ⟨rfl, G⟩
        have T := nxt T G
        clear G
        go_wp2_with (fail)
        refine (live03 _).mono ?_
        rintro e w7 ⟨rfl, G⟩
        have T := nxt T G
        clear G
        go_wp2_with (fail)
        go_ret
        exact ⟨rfl, T⟩

set_option maxRecDepth 20000 in
set_option maxHeartbeats 2000000 in
theorem walk_StuffPlain (A : Option Addr) (n c : Nat) (l : List UInt8) (w : World) (hB : Bys w A n c l) (hn : n ≤ 140737488351232) :
    Calls Try.prog 6 #[.slice A n c] w fun e w' => e = .returned (.bool true) ∧ Below w.heap.size w w' := by
  have H1 := Lib.hid (plain_any A n c l w hB (by omega))
  have H2 := Lib.hid (fun (w' : World) (h : Bys w' A n c l) => rplain_any A n c l w' h (by omega))
  have hlen := hB.len
  obtain ⟨vs, hvs⟩ : ∃ vs, plainV l l.length = vs := ⟨_, rfl⟩
  have hvl : vs.length = n := by rw [← hvs, plainV_length, hlen]
  have HB : Hid (∀ k (h : k < vs.length), ∃ b, vs[k] = .bool b) := by
    intro k h
    subst hvs
    exact ⟨plainAt l k, by simp [plainV]⟩
  rw [hvs] at H1 H2
  have HVL := Lib.hid hvl
  clear hvs hlen hvl
  go_enter Try.func6, Try.ntmps6
  go_wp2_with (fail)
  refine H1.out.mono ?_
  rintro e w1 ⟨A1, c1, rfl, B1, T⟩
  go_wp2_with (fail)
  refine (H2.out _ (hB.below T)).mono ?_
  rintro e w2 ⟨A2, c2, rfl, B2, G⟩
  have T := nxt T G
  have B1 := B1.below G
  clear G
  rw [HVL.out] at B1 B2
  simp only [HVL.out]
  have hnn : ((n : Int) != (n : Int)) = false := by simp
  obtain ⟨-, hn1, hcm1, hcell1⟩ := B1
  obtain ⟨-, hn2, hcm2, hcell2⟩ := B2
  unfold maxLen at hcm1 hcm2
  have HC1 := Lib.hid hcell1; clear hcell1
  have HC2 := Lib.hid hcell2; clear hcell2
  go_wp2_with (fail)
  go_loopw [5] (fun i wr => ∃ k : Nat, k ≤ n ∧ i = .int .i64 k ∧ ∃ nd, wr = w2.drewN nd) (fun i _ => n - (intOf i).toNat)
  case atStart => exact ⟨0, Nat.zero_le _, rfl, 0, rfl⟩
  case round =>
    obtain ⟨k, hk, rfl, nd, rfl⟩ := hrel
    by_cases hlt : k < n
    · obtain ⟨b, o, rfl, hb, hc⟩ := HC1.out (by omega)
      obtain ⟨b', o', rfl, hb', hc'⟩ := HC2.out (by omega)
      have hk2 : k < vs.length := by have := HVL.out; omega
      have p1 := hc k hk2
      have p2 := hc' k hk2
      obtain ⟨x, hx⟩ := HB.out k hk2
      rw [hx] at p1 p2
      clear hc hc' hx
      have hxx : (x != x) = false := by simp
      go_wp2
      go_quiet (fail)
      go_wp2
      go_roundw
      case rel => exact ⟨k + 1, by omega, by go_num, _, rfl⟩
      case measure => simp [intOf]; omega
    · go_wp2_with (fail)
      refine (live03 _).mono ?_
      rintro e w3 ⟨rfl, G⟩
      have T := nxt (below_drewN' T nd) G
      go_wp2_with (fail)
      go_ret
      exact ⟨rfl, T⟩
end Go.Proofs.Ytfpibihnnpajoaa
