/- The walks of DeframeComes and DeframeOnly. -/
import Derived.Test.YtldnomfjfipgiaaDef4
import Derived.Test.YtldnomfjfipgiaaRframe
import Derived.Test.YtldnomfjfipgiaaRcopy
import Derived.Test.YtldnomfjfipgiaaSameAll
import Derived.Test.YtldnomfjfipgiaaCutB
namespace Go.Proofs.Ytldnomfjfipgiaa
open Go.RowKit

theorem Rws.last {w : World} {P : Option Addr} {n c : Nat} {f : List (List UInt8)} {l : List UInt8} (h : Rws w P n c (f ++ [l])) :
    ∃ b o A d, P = some ⟨b, o, none⟩ ∧ b < w.heap.size ∧ w.cell? ⟨b, o + f.length, none⟩ = some (.slice A l.length d) ∧ Bys w A l.length d l := by
  have hl : f.length + 1 = n := by have := h.1; simpa using this
  obtain ⟨b, o, A, d, e, hb, hk, hc, hB⟩ := h.at_ f.length (by omega)
  have e2 : (f ++ [l])[f.length] = l := by simp
  rw [e2] at hc hB
  exact ⟨b, o, A, d, e, hb, hc, hB⟩

set_option maxHeartbeats 4000000 in
set_option maxRecDepth 20000 in
theorem walk_DeframeComes (A : Option Addr) (n c : Nat) (ns : List UInt8) (A' : Option Addr) (n' c' : Nat) (l : List UInt8) (w : World) (hB : Bys w A n c ns) (hB' : Bys w A' n' c' l) :
    Calls Try.prog 5 #[.slice A n c, .slice A' n' c'] w fun e w' => e = .returned (.bool true) ∧ Below w.heap.size w w' := by
  by_cases h96 : n' ≤ 96
  · have HW := Lib.hid (rwrap_any A' n' c' l w hB' h96)
    by_cases hn : 2000 < n
    · have hd : decide ((2000 : Int) < (n : Int)) = true := by simp; omega
      clear hB hB' hn
      go_enter Try.func5, Try.ntmps5
      go_wp2_with (fail)
      refine HW.out.mono ?_
      rintro e w1 ⟨A1, n1, c1, rfl, -, T⟩
      go_wp2_with (fail)
      refine (live05_any _).mono ?_
      rintro e w7 ⟨rfl, G⟩
      go_wp2_with (fail)
      go_ret
      exact ⟨rfl, nxt T G⟩
    · have hd : decide ((2000 : Int) < (n : Int)) = false := by simp; omega
      have hl96 : l.length ≤ 96 := by have := hB'.len; omega
      have hfl := Lib.hid (frameW_len l).2
      have hnl := hB.len
      obtain ⟨st, f, hrun⟩ := scRun_comes l hl96 (scRun (scNew, []) ns)
      have HRUN : Hid ((scRun (scNew, []) (ns ++ frameW l)).2 = f ++ [l]) := by show _ = _; rw [scRun_append, hrun]
      have hLen : Hid (l.length ≤ 96) := hl96
      clear hrun hl96
      go_enter Try.func5, Try.ntmps5
      go_wp2_with (fail)
      refine HW.out.mono ?_
      rintro e w1 ⟨A1, n1, c1, rfl, B1, T⟩
      have hn1 : n1 ≤ 202 := by have := B1.len; have := hfl.out; have := hLen.out; omega
      have hB1 := hB.below T
      have HB' := Lib.hid hB'
      go_wp2_with (fail)
      refine (new_any _).mono ?_
      rintro e w2 ⟨t, rfl, ht, G⟩
      have T2 := nxt T G
      have hz2 := T2.size
      have hB2 := hB1.below G
      have B2 := B1.below G
      have htl : t.block < w2.heap.size := by obtain ⟨g, rfl, h1, _⟩ := ht; exact h1
      have HC := Lib.hid (rcopy_any A n c ns w2 hB2 (by omega))
      clear T G hB1 B1 hB hB'
      go_wp2_with (fail)
      refine HC.out.mono ?_
      rintro e w3 ⟨v3, rfl, own3, G⟩
      have T3 := nxt T2 G
      have ht3 := ht.below G
      have B3 := B2.below G
      have hz := G.size
      have own3 := Lib.hid own3
      have B3 := Lib.hid B3
      have hlt3 := Lib.hid own3.out.lt
      clear G T2 ht hB2 B2
      go_wp2_with ((with_reducible refine app_bys _ rfl (.tmp 23) (.tmp 24) rfl w2.heap.size v3 ns.length (bvs ns) rfl ?_ A1 n1 c1 (frameW l) rfl ?_ ?_ ?_ ?_); (exact own3.out); (exact B3.out); (omega); (omega); intro v4 w4 hown4 hgrow4 hwhere4)
      rw [← bvs_append] at hown4
      obtain ⟨A4, c4, rfl⟩ := own_shape hown4
      have B4 := Bys.of_own hown4
      have T4 : Below w.heap.size w w4 := T3.grown hgrow4 T3.size (fun k hk => by have := (hlt3.out k hk).1; omega)
      have o4 : Off (fun k => w2.heap.size ≤ k) w3 w4 := (Off.refl _ w3).grown hgrow4 (fun k hk => .inl (hlt3.out k hk).1)
      have ht4 := ht3.off (by show ¬ (w2.heap.size ≤ t.block); omega) o4
      have HA := Lib.hid (all_any t A4 (ns.length + n1) c4 (ns ++ frameW l) w4 ht4 B4 (by omega))
      have hB4' := HB'.out.below T4
      clear o4 ht3 ht4 B4 hown4 hgrow4 hwhere4 T3
      go_wp2_with (fail)
      refine HA.out.mono ?_
      rintro e w5 ⟨v5, rfl, hO5, G⟩
      rw [HRUN.out] at hO5
      have T5 := nxt T4 G
      have hB5' := hB4'.below G
      obtain ⟨P5, c5, rfl, hR5⟩ := hO5.shape
      have hcc := hR5.2.1
      have hcm := hR5.2.2.1
      unfold maxLen at hcm
      obtain ⟨b5, o5, A6, d6, rfl, hb5, hc5, hB6⟩ := hR5.rws.last
      obtain ⟨k, hk⟩ : ∃ k, f.length = k := ⟨_, rfl⟩
      have hk1 : (f ++ [l]).length = k + 1 := by simp [hk]
      rw [hk] at hc5
      rw [hk1] at hcc ⊢
      have hkb : k ≤ 9223372036854775806 := by omega
      have e1 : decide (0 < k + 1) = true := by simp
      have e2 : decide ((0 : Int) < (k : Int) + 1) = true := decide_eq_true (by omega)
      have hw1 : IntKind.i64.wrap (((k + 1 : Nat) : Int) - 1) = (k : Int) := by
        rw [show ((k + 1 : Nat) : Int) - 1 = (k : Int) from by omega]; exact IntWalk.i64_in _ (by omega)
      have hw2 : IntKind.i64.wrap ((k : Int) + 1 - 1) = (k : Int) := by rw [Int.add_sub_cancel]; exact IntWalk.i64_in _ (by omega)
      have hi : IntKind.i64.wrap (k : Int) = (k : Int) := IntWalk.i64_in _ (by omega)
      have HSM := Lib.hid (same_true A6 A' _ d6 _ c' l w5 hB6 hB5')
      clear hO5 hR5 hB6 hB5' hB4' hk hk1 G T4
      go_wp2_with (fail)
      refine HSM.out.mono ?_
      rintro e w6 ⟨rfl, G⟩
      have T6 := nxt T5 G
      go_wp2_with (fail)
      refine (live05_any _).mono ?_
      rintro e w7 ⟨rfl, G⟩
      go_wp2_with (fail)
      go_ret
      exact ⟨rfl, nxt T6 G⟩
  · have HW := Lib.hid (rwrap_long A' n' c' w (by omega))
    clear hB hB'
    by_cases hn : 2000 < n
    · have hd : decide ((2000 : Int) < (n : Int)) = true := by simp; omega
      clear hn
      go_enter Try.func5, Try.ntmps5
      go_wp2_with (fail)
      refine HW.out.mono ?_
      rintro e w1 ⟨rfl, rfl⟩
      go_wp2_with (fail)
      refine (live05_any _).mono ?_
      rintro e w7 ⟨rfl, G⟩
      go_wp2_with (fail)
      go_ret
      exact ⟨rfl, G⟩
    · have hd : decide ((2000 : Int) < (n : Int)) = false := by simp; omega
      clear hn
      go_enter Try.func5, Try.ntmps5
      go_wp2_with (fail)
      refine HW.out.mono ?_
      rintro e w1 ⟨rfl, rfl⟩
      go_wp2_with (fail)
      refine (live05_any _).mono ?_
      rintro e w7 ⟨rfl, G⟩
      go_wp2_with (fail)
      go_ret
      exact ⟨rfl, G⟩

def noF (l : List UInt8) : List UInt8 := l.filter (fun x => decide (x ≠ 0x7e))
theorem noF_no (l : List UInt8) : ∀ x ∈ noF l, x ≠ 0x7e := by
  intro x hx
  have := (List.mem_filter.1 hx).2
  simpa using this
theorem noF_len (l : List UInt8) : (noF l).length ≤ l.length := List.length_filter_le _ _
theorem noF_yes (l : List UInt8) (k : Nat) (h : k < l.length) (hx : l[k] ≠ 0x7e) : noF (l.take (k + 1)) = noF (l.take k) ++ [l[k]] := by
  unfold noF
  rw [List.take_succ_eq_append_getElem h, List.filter_append]
  simp [hx]
theorem noF_not (l : List UInt8) (k : Nat) (h : k < l.length) (hx : l[k] = 0x7e) : noF (l.take (k + 1)) = noF (l.take k) := by
  unfold noF
  rw [List.take_succ_eq_append_getElem h, List.filter_append]
  simp [hx]
theorem nil_row (w : World) (B : Nat) : w.ownsRow B 5 1 (.slice none 0 0) 0 [] := ⟨rfl, .inl ⟨rfl, rfl⟩⟩

set_option maxHeartbeats 8000000 in
set_option maxRecDepth 100000 in
theorem walk_DeframeOnly (A : Option Addr) (n c : Nat) (ns : List UInt8) (P : Option Addr) (n' c' : Nat) (ls : List (List UInt8)) (sh : Bool) (w : World) (hB : Bys w A n c ns) (hR : Rws w P n' c' ls) :
    Calls Try.prog 6 #[.slice A n c, .slice P n' c', .bool sh] w fun e w' => e = .returned (.bool true) ∧ Below w.heap.size w w' := by
  by_cases hn : 2000 < n
  · have hd : decide ((2000 : Int) < (n : Int)) = true := by simp; omega
    clear hB hR hn
    go_enter Try.func6, Try.ntmps6
    go_wp2_with (fail)
    refine (live05_any _).mono ?_
    rintro e w7 ⟨rfl, G⟩
    go_wp2_with (fail)
    go_ret
    exact ⟨rfl, G⟩
  · have hd : decide ((2000 : Int) < (n : Int)) = false := by simp; omega
    by_cases hn' : 12 < n'
    · have hd2 : decide ((12 : Int) < (n' : Int)) = true := by simp; omega
      clear hB hR hn hn'
      go_enter Try.func6, Try.ntmps6
      go_wp2_with (fail)
      refine (live05_any _).mono ?_
      rintro e w7 ⟨rfl, G⟩
      go_wp2_with (fail)
      go_ret
      exact ⟨rfl, G⟩
    · have hd2 : decide ((12 : Int) < (n' : Int)) = false := by simp; omega
      have hnl := hB.len
      have hncap := hB.cap
      have hnle := hB.le
      have hrl := hR.1
      have hrc := hR.2.1
      have hrm := hR.2.2.1
      unfold maxLen at hrm
      have HB := Lib.hid hB
      have HR := Lib.hid hR
      clear hB hR
      go_enter Try.func6, Try.ntmps6
      go_wp2_with (fail)
      go_loopw [7, 8] (fun v i wr => ∃ k m : Nat, k ≤ n ∧ m ≤ k ∧ i = .int .i64 k ∧ wr.ownsRow w.heap.size 5 1 v m (bvs (noF (ns.take k))) ∧ Below w.heap.size w wr) (fun _ i _ => n - (intOf i).toNat)
      case atStart => exact ⟨0, 0, Nat.zero_le _, Nat.le_refl _, rfl, nil_row w _, Below.refl _ _⟩
      case round =>
        obtain ⟨k, m, hk, hm, rfl, hown, hbel⟩ := hrel
        have HOWN := Lib.hid hown
        clear hown
        by_cases hlt : k < n
        · obtain ⟨bb, o, rfl, hbb, hcell⟩ := HB.out.at_ (by omega)
          have hkl : k < ns.length := by omega
          have c1 := (hbel.cell (p := ⟨bb, o + k, none⟩) hbb).trans (hcell k hkl)
          have hxl := lt256 ns[k]
          have hY := fun h => Lib.hid (noF_yes ns k hkl h)
          have hN := fun h => Lib.hid (noF_not ns k hkl h)
          generalize ns[k] = x at *
          clear hcell
          by_cases hx : x = 0x7e
          · have e2 : ((x.toNat : Int) != 126) = false := by subst hx; rfl
            have HN := hN hx
            clear hY hN hx
            go_wp2_with (fail)
            go_roundw
            case rel => exact ⟨k + 1, m, by omega, by omega, by go_num, by rw [HN.out]; exact HOWN.out, hbel⟩
            case measure => simp [intOf]; omega
          · have e2 : ((x.toNat : Int) != 126) = true := by
              have := u8_ne (b := 0x7e) hx
              simp at this ⊢; exact this
            have HY := hY hx
            clear hY hN hx
            have hnew : Hid (∀ W : World, Bys (W.alloc (.cells #[.int .u8 (x.toNat : Int)] 5)) (some ⟨W.heap.size, 0, none⟩) 1 1 [x]) := fun W => Bys.lit W [x] (by simp)
            have hbz := hbel.size
            have HLT := Lib.hid HOWN.out.lt
            go_wp2_with ((with_reducible refine app_bys _ rfl (.tmp 36) (.tmp 41) rfl w.heap.size u7 m (bvs (noF (ns.take k))) rfl ?_ (some ⟨wr.heap.size, 0, none⟩) 1 1 [x] rfl ?_ ?_ ?_ ?_); (exact own_below HOWN.out ((Below.refl _ _).alloc (Nat.le_refl _) _)); (exact hnew.out wr); (omega); (first | omega | (simp; omega)); intro v3 w3 hown3 hgrow3 hwhere3)
            go_roundw
            case rel =>
              rw [← bvs_append, ← HY.out] at hown3
              exact ⟨k + 1, m + 1, by omega, by omega, by go_num, hown3, (hbel.alloc hbz _).grown hgrow3 (by simp; omega) (fun j hj => (HLT.out j hj).1)⟩
            case measure => simp [intOf]; omega
        · obtain rfl : k = n := by omega
          have HT : Hid (ns.take k = ns) := List.take_of_length_le (by omega)
          obtain ⟨A1, c1, hv⟩ := own_shape HOWN.out
          subst hv
          have HOWN2 : Hid (wr.ownsRow w.heap.size 5 1 (.slice A1 m c1) m (bvs (noF ns))) := by show World.ownsRow _ _ _ _ _ _ _; rw [← HT.out]; exact HOWN.out
          have HM : Hid ((noF ns).length = m) := by show _ = _; have := HOWN2.out.1; simpa [bvs] using this
          have HL0 := Lib.hid (noF_len ns)
          clear hlt HOWN HT
          go_wp2_with (fail)
          have T0 := hbel
          go_loopw [7, 10] (fun v j wr2 => ∃ k2 q : Nat, k2 ≤ n' ∧ j = .int .i64 k2 ∧ Hid (∀ y ∈ ls.take k2, y.length ≤ 96) ∧ q ≤ 2000 + 202 * k2 ∧ Hid ((noF ns ++ frames sh 0 (ls.take k2)).length = q) ∧ wr2.ownsRow w.heap.size 5 1 v q (bvs (noF ns ++ frames sh 0 (ls.take k2))) ∧ Below w.heap.size w wr2) (fun _ j _ => n' - (intOf j).toNat)
          case atStart =>
            refine ⟨0, m, Nat.zero_le _, rfl, fun y hy => by simp at hy, by omega, ?_, ?_, hbel⟩
            · show _ = _
              rw [← HM.out]; simp [frames]
            · have := HOWN2.out
              simpa [frames] using this
          case round =>
            obtain ⟨k2, q, hk2, rfl, HALL0, hq, HQL, hown, hbel2⟩ := hrel
            have HO2 := Lib.hid hown
            clear hown
            by_cases hlt2 : k2 < n'
            · obtain ⟨bb, o, A9, d9, hP, hbb, hk9, hcell, hB9⟩ := HR.out.at_ k2 hlt2
              subst hP
              have c1 := (hbel2.cell (p := ⟨bb, o + k2, none⟩) hbb).trans hcell
              have hB9' := hB9.below hbel2
              have HF := Lib.hid (frames_take sh ls k2 hk9)
              have hAll : ls[k2].length ≤ 96 → ∀ y ∈ ls.take (k2 + 1), y.length ≤ 96 := by
                intro h y hy
                rw [List.take_succ_eq_append_getElem hk9] at hy
                rcases List.mem_append.1 hy with hy | hy
                · exact HALL0.out y hy
                · simp at hy; rw [hy]; exact h
              generalize ls[k2] = y at *
              clear hcell hB9
              by_cases hy : y.length ≤ 96
              · have HALL := Lib.hid (hAll hy)
                have HW := Lib.hid (rwrap_any A9 y.length d9 y wr hB9' hy)
                have HYL := Lib.hid hy
                clear hAll hB9' hy
                generalize hny : y.length = ny at *
                have hny := Lib.hid hny
                go_wp2_with (fail)
                refine HW.out.mono ?_
                rintro e w2 ⟨A1, n1, c3, rfl, B1, G⟩
                have T2 := nxt hbel2 G
                have hfl := frameW_len y
                have hyl : y.length ≤ 96 := by rw [hny.out]; exact HYL.out
                have hn1 : n1 ≤ 202 := by have := B1.len; omega
                have hn16 : 6 ≤ n1 := by have := B1.len; omega
                by_cases hs : sh = true
                · subst hs
                  by_cases hk0 : 0 < k2
                  · have e7 : decide (0 < k2) = true := by simpa using hk0
                    have HFR : Hid (framed true k2 y = (frameW y).drop 1) := by show _ = _; unfold framed; rw [if_pos ⟨rfl, hk0⟩]
                    obtain ⟨gb, go, hA1, hgb, -⟩ := B1.at_ (by omega)
                    subst hA1
                    have hc3 := B1.le
                    have hc3m := B1.cap
                    have B2 := B1.part 1 n1 (by omega) (Nat.le_refl _) (by omega)
                    rw [List.take_of_length_le (by have := B1.len; omega)] at B2
                    clear hk0 hfl hyl
                    have hts := T2.size
                    have O2 := Lib.hid (own_below HO2.out G)
                    have HLT := Lib.hid O2.out.lt
                    have BX := Lib.hid B2
                    go_wp2_with ((with_reducible refine app_bys _ rfl (.tmp 69) (.tmp 70) rfl w.heap.size u7 q (bvs (noF ns ++ frames true 0 (ls.take k2))) rfl ?_ (some ⟨gb, go + 1, none⟩) (n1 - 1) (c3 - 1) ((frameW y).drop 1) rfl ?_ ?_ ?_ ?_); (exact O2.out); (exact BX.out); (omega); (omega); intro v3 w3 hown3 hgrow3 hwhere3)
                    go_roundw
                    case rel =>
                      rw [← bvs_append] at hown3
                      have hl3 : (noF ns ++ frames true 0 (ls.take k2) ++ (frameW y).drop 1).length = q + (n1 - 1) := by rw [List.length_append, HQL.out, BX.out.len]
                      rw [List.append_assoc, ← HFR.out, ← HF.out] at hown3 hl3
                      exact ⟨k2 + 1, q + (n1 - 1), by omega, by go_num, HALL.out, by omega, hl3, hown3, T2.grown hgrow3 hts (fun j hj => (HLT.out j hj).1)⟩
                    case measure => simp [intOf]; omega
                  · have e7 : decide (0 < k2) = false := by simpa using hk0
                    have HFR : Hid (framed true k2 y = frameW y) := by show _ = _; unfold framed; rw [if_neg (fun e => hk0 e.2)]
                    clear hk0 hfl hyl
                    have hts := T2.size
                    have O2 := Lib.hid (own_below HO2.out G)
                    have HLT := Lib.hid O2.out.lt
                    have BX := Lib.hid B1
                    go_wp2_with ((with_reducible refine app_bys _ rfl (.tmp 69) (.tmp 70) rfl w.heap.size u7 q (bvs (noF ns ++ frames true 0 (ls.take k2))) rfl ?_ A1 n1 c3 (frameW y) rfl ?_ ?_ ?_ ?_); (exact O2.out); (exact BX.out); (omega); (omega); intro v3 w3 hown3 hgrow3 hwhere3)
                    go_roundw
                    case rel =>
                      rw [← bvs_append] at hown3
                      have hl3 : (noF ns ++ frames true 0 (ls.take k2) ++ frameW y).length = q + n1 := by rw [List.length_append, HQL.out, BX.out.len]
                      rw [List.append_assoc, ← HFR.out, ← HF.out] at hown3 hl3
                      exact ⟨k2 + 1, q + n1, by omega, by go_num, HALL.out, by omega, hl3, hown3, T2.grown hgrow3 hts (fun j hj => (HLT.out j hj).1)⟩
                    case measure => simp [intOf]; omega
                · obtain rfl : sh = false := by simpa using hs
                  have HFR : Hid (framed false k2 y = frameW y) := by show _ = _; unfold framed; rw [if_neg (fun e => by simp at e)]
                  clear hs hfl hyl
                  have hts := T2.size
                  have O2 := Lib.hid (own_below HO2.out G)
                  have HLT := Lib.hid O2.out.lt
                  have BX := Lib.hid B1
                  go_wp2_with ((with_reducible refine app_bys _ rfl (.tmp 69) (.tmp 70) rfl w.heap.size u7 q (bvs (noF ns ++ frames false 0 (ls.take k2))) rfl ?_ A1 n1 c3 (frameW y) rfl ?_ ?_ ?_ ?_); (exact O2.out); (exact BX.out); (omega); (omega); intro v3 w3 hown3 hgrow3 hwhere3)
                  go_roundw
                  case rel =>
                    rw [← bvs_append] at hown3
                    have hl3 : (noF ns ++ frames false 0 (ls.take k2) ++ frameW y).length = q + n1 := by rw [List.length_append, HQL.out, BX.out.len]
                    rw [List.append_assoc, ← HFR.out, ← HF.out] at hown3 hl3
                    exact ⟨k2 + 1, q + n1, by omega, by go_num, HALL.out, by omega, hl3, hown3, T2.grown hgrow3 hts (fun j hj => (HLT.out j hj).1)⟩
                  case measure => simp [intOf]; omega
              · have HW := Lib.hid (rwrap_long A9 y.length d9 wr (by omega))
                clear hAll hB9' hy
                generalize y.length = ny at *
                go_wp2_with (fail)
                refine HW.out.mono ?_
                rintro e w2 ⟨rfl, rfl⟩
                go_wp2_with (fail)
                refine (live05_any _).mono ?_
                rintro e w7 ⟨rfl, G⟩
                go_wp2_with (fail)
                go_ret
                exact ⟨rfl, nxt hbel2 G⟩
            · obtain rfl : k2 = n' := by omega
              have HAF : Hid (∀ y ∈ ls, y.length ≤ 96) := by
                have h9 := HALL0.out
                rw [List.take_of_length_le (by omega)] at h9
                exact h9
              obtain ⟨hfnd, hcnt⟩ := scRun_only sh (noF ns) ls (noF_no ns) HAF.out
              have hX : ls.take k2 = ls := List.take_of_length_le (by omega)
              have hOW := HO2.out
              rw [hX] at hOW
              obtain ⟨A5, c5, hv⟩ := own_shape hOW
              subst hv
              have BX := Bys.of_own hOW
              obtain ⟨st, hst⟩ : ∃ st, (scRun (scNew, []) (noF ns ++ frames sh 0 ls)).1 = st := ⟨_, rfl⟩
              rw [hst] at hcnt
              obtain ⟨g1, g2, g3, g4⟩ := hcnt
              have HTV : Hid (talV st = .agg #[.int .i64 (k2 : Int), .int .i64 0, .int .i64 0, .int .i64 (m : Int)]) := by
                show _ = _
                unfold talV
                rw [g1, g2, g3, g4, hrl, HM.out]
                rfl
              have HST := Lib.hid hst
              have HFN := Lib.hid hfnd
              have hq2 : q ≤ 5000 := by omega
              have BX := Lib.hid BX
              have e7 : ((k2 : Int) == (k2 : Int)) = true := by simp
              have e8 : ((m : Int) == (m : Int)) = true := by simp
              clear hX hOW hst hfnd g1 g2 g3 g4 HO2 hlt2
              go_wp2_with (fail)
              refine (new_any _).mono ?_
              rintro e w1 ⟨t, rfl, ht, G⟩
              have T1 := nxt hbel2 G
              have hB1 := BX.out.below G
              have H := Lib.hid (dnew_any t w1 ht)
              have htl : t.block < w1.heap.size := by obtain ⟨g, rfl, h1, _⟩ := ht; exact h1
              clear G
              go_wp2_with (fail)
              refine H.out.mono ?_
              rintro e w2 ⟨S, rfl, hS, hs, G⟩
              have ht2 := ht.below G
              have hB2 := hB1.below G
              have hz1 := T1.size
              have T2 := nxt T1 G
              have hz2 := T2.size
              have F := Lib.hid (feed_any S t scNew A5 q c5 _ w2 ht2 (by omega) hs hB2 (hB1.av.imp (fun k hk => by have hk : k = S := hk; show w1.heap.size ≤ k; omega)) (by omega) (by decide) (by decide) (by decide))
              clear H hs hB1 hB2 ht ht2 G
              go_wp2_with (fail)
              refine F.out.mono ?_
              rintro e w3 ⟨v, rfl, hO, hs3, hF⟩
              rw [HFN.out] at hO
              rw [HST.out] at hs3
              have T3 : Below w.heap.size w w3 := T2.trans (hF.below (fun k hk => by have hk : k = S := hk; omega) hz2)
              obtain ⟨P8, c8, rfl, hR8⟩ := hO.shape
              rw [hrl] at hR8 ⊢
              have hR3 := HR.out.below T3
              have HSE := Lib.hid (seen_any S t st w3 hs3)
              have hR8 := hR8.rws
              clear F hO hF hs3
              go_wp2_with (fail)
              refine HSE.out.mono ?_
              rintro e w4 ⟨rfl, G⟩
              rw [HTV.out]
              have T4 := nxt T3 G
              have HSA := Lib.hid (fun o => sameall_true P8 P k2 c8 k2 c' ls (w4.alloc o) ((hR8.below G).below ((Below.refl _ _).alloc (Nat.le_refl _) o)) ((hR3.below G).below ((Below.refl _ _).alloc (Nat.le_refl _) o)))
              have hY := heap_alloc_new w4 (.cells #[.int .i64 (k2 : Int), .int .i64 0, .int .i64 0, .int .i64 (m : Int)] 36)
              have HY := Lib.hid hY
              clear hY hR8 hR3 G
              go_wp2_with (fail)
              refine (HSA.out _).mono ?_
              rintro e w5 ⟨rfl, G⟩
              have hYw : w5.heap[w4.heap.size]? = _ := (G.block _ (by simp)).trans HY.out
              have d0 : w5.cell? ⟨w4.heap.size, 0, none⟩ = some (.int .i64 (k2 : Int)) := by rw [cell_of_row w5 _ _ _ _ _ hYw]; rfl
              have d1 : w5.cell? ⟨w4.heap.size, 1, none⟩ = some (.int .i64 0) := by rw [cell_of_row w5 _ _ _ _ _ hYw]; rfl
              have d2 : w5.cell? ⟨w4.heap.size, 2, none⟩ = some (.int .i64 0) := by rw [cell_of_row w5 _ _ _ _ _ hYw]; rfl
              have d3 : w5.cell? ⟨w4.heap.size, 3, none⟩ = some (.int .i64 (m : Int)) := by rw [cell_of_row w5 _ _ _ _ _ hYw]; rfl
              have T5 := nxt (T4.alloc T4.size (.cells #[.int .i64 (k2 : Int), .int .i64 0, .int .i64 0, .int .i64 (m : Int)] 36)) G
              clear hYw G
              go_wp2_with (fail)
              refine (live05_any _).mono ?_
              rintro e w7 ⟨rfl, G⟩
              go_wp2_with (fail)
              go_ret
              exact ⟨rfl, nxt T5 G⟩
end Go.Proofs.Ytldnomfjfipgiaa
