/- The walk of layer 18's TallyCounts, over the contracts of tally. -/
import Derived.Test.YteeimfooaoaahaaTlH
import Derived.Deep.RegionHeld3
import Derived.IntWalk
namespace Go.Proofs.Yteeimfooaoaahaa
open Go.RowKit

def sumC (l : List Tal) : Nat := (l.map fun t => t.2.2).sum
def keyT (t : Tal) : Int × List UInt8 := (t.1, t.2.1)
/-- the counts are m all together; no message stands twice -/
def CInv (m : Nat) (l : List Tal) : Prop := sumC l = m ∧ (l.map keyT).Nodup
theorem sumC_set (l : List Tal) : ∀ (i : Nat) (x : Tal) (h : i < l.length), sumC (l.set i x) + l[i].2.2 = sumC l + x.2.2 := by
  induction l with
  | nil => intro i x h; simp at h
  | cons t l ih =>
    intro i x h
    cases i with
    | zero => simp [sumC]; omega
    | succ i =>
      have := ih i x (by simp at h; omega)
      simp [sumC] at this ⊢
      omega
theorem sumC_take (l : List Tal) (k : Nat) (h : k < l.length) : sumC (l.take (k + 1)) = sumC (l.take k) + l[k].2.2 := by
  unfold sumC
  rw [List.take_succ_eq_append_getElem h, List.map_append, List.sum_append]
  simp
theorem CInv.nil : CInv 0 [] := ⟨rfl, List.nodup_nil⟩
theorem CInv.add {m : Nat} {l : List Tal} (h : CInv m l) (a : Int) (d : List UInt8) : CInv (m + 1) (alAdd l a d) := by
  obtain ⟨h1, h2⟩ := h
  by_cases hf : alAt l a d < l.length
  · rw [alAdd_found l a d hf]
    refine ⟨?_, ?_⟩
    · have := sumC_set l (alAt l a d) (l[alAt l a d].1, l[alAt l a d].2.1, l[alAt l a d].2.2 + 1) hf
      simp only at this
      omega
    · rw [List.map_set]
      have e : keyT (l[alAt l a d].1, l[alAt l a d].2.1, l[alAt l a d].2.2 + 1) = (l.map keyT)[alAt l a d]'(by simpa using hf) := by simp [keyT]
      rw [e, List.set_getElem_self]
      exact h2
  · rw [alAdd_new l a d hf]
    have hle := alAt_le l a d
    have hlt := alAt_lt l a d
    refine ⟨by unfold sumC at h1 ⊢; rw [List.map_append, List.sum_append, h1]; simp, ?_⟩
    rw [List.map_append, List.nodup_append]
    refine ⟨h2, by simp, fun x hx y hy e => ?_⟩
    subst e
    rw [List.map_cons, List.map_nil, List.mem_singleton] at hy
    obtain ⟨i, hi, he⟩ := List.mem_iff_getElem.1 hx
    rw [List.length_map] at hi
    rw [List.getElem_map] at he
    refine hlt i (by omega) hi ?_
    rw [hy] at he
    simpa [keyT] using he
theorem CInv.count {m : Nat} {l : List Tal} (h : CInv m l) (i : Nat) (hi : i < l.length) : alCount l l[i].1 l[i].2.1 = l[i].2.2 := by
  have e : alAt l l[i].1 l[i].2.1 = i := alAt_unique l _ _ i (by omega) (fun j hj hjl he => by
    have h3 := (List.getElem_inj (h₀ := by rw [List.length_map]; exact hjl) (h₁ := by rw [List.length_map]; exact hi) h.2).1 (show (l.map keyT)[j]'(by rw [List.length_map]; exact hjl) = (l.map keyT)[i]'(by rw [List.length_map]; exact hi) by simp [keyT, he.1, he.2])
    omega) (fun _ => ⟨rfl, rfl⟩)
  rw [alCount_found _ _ _ (by rw [e]; exact hi)]
  simp only [e]
theorem CInv.apart {m : Nat} {l : List Tal} (h : CInv m l) (i k : Nat) (hi : i < l.length) (hk : k < i) (he : l[i].1 = (l[k]'(by omega)).1) : l[i].2.1 ≠ (l[k]'(by omega)).2.1 := fun h2 => by
  have h3 := (List.getElem_inj (h₀ := by rw [List.length_map]; omega) (h₁ := by rw [List.length_map]; exact hi) h.2).1 (show (l.map keyT)[k]'(by rw [List.length_map]; omega) = (l.map keyT)[i]'(by rw [List.length_map]; exact hi) by simp [keyT, he, h2])
  omega
theorem sumC_le (l : List Tal) (k : Nat) : sumC (l.take k) ≤ sumC l := by
  have h : sumC l = sumC (l.take k) + sumC (l.drop k) := by
    unfold sumC
    rw [← List.sum_append, ← List.map_append, List.take_append_drop]
  omega
theorem same_false (A A' : Option Addr) (n c n' c' : Nat) (l m : List UInt8) (w : World) (h : Bys w A n c l) (h' : Bys w A' n' c' m) (hne : l ≠ m) :
    Calls Try.prog 15 #[.slice A n c, .slice A' n' c'] w fun e w' => e = .returned (.bool false) ∧ Below w.heap.size w w' := by
  refine (same_any A A' n c n' c' l m w h h').mono ?_
  rintro e w' ⟨rfl, k, rfl⟩
  refine ⟨ret_bool ?_, below_drewN' (Below.refl _ _) k⟩
  cases hs : sameB l m with
  | false => rfl
  | true => exact absurd ((sameB_iff l m).1 hs) hne
set_option maxRecDepth 20000 in
set_option maxHeartbeats 16000000 in
theorem walk_TallyCounts {T : Nat → List Tal → World → (Nat → Prop) → Prop} (C : TlC T) (A : Option Addr) (n c : Nat) (l : List Tld) (w : World) (hR : Recs rdTold18 3 w A n c l) :
    Calls Try.prog 4 #[.slice A n c] w fun e w' => e = .returned (.bool true) ∧ Below w.heap.size w w' := by
  have HL := Lib.hid (fun W => live18_any C W)
  have HU := Lib.hid (huge18_any A n c l w hR)
  have hlen := hR.1
  have hnc := hR.2.1
  have hcm := hR.2.2.1
  unfold maxLen at hcm
  have HC := Lib.hid hR.2.2.2
  have HLN := Lib.hid hlen
  have hsm : huge18 l = false → n ≤ 100 := fun h => by
    unfold huge18 at h
    rw [hlen] at h
    simp at h
    omega
  clear hR hlen
  generalize huge18 l = hu at *
  cases hu with
  | true =>
    clear hsm
    go_enter Try.func4, Try.ntmps4
    go_wp2_with (fail)
    refine HU.out.mono ?_
    rintro e w1 ⟨rfl, T1⟩
    go_wp2_with (fail)
    refine (HL.out _).mono ?_
    rintro e w2 ⟨rfl, T2⟩
    have T2 := nxt T1 T2
    go_wp2
    go_ret
    exact ⟨rfl, T2⟩
  | false =>
    have hn100 := hsm rfl
    clear hsm
    have G1 := Lib.hid (fun W => C.new W)
    go_enter Try.func4, Try.ntmps4
    go_wp2_with (fail)
    refine HU.out.mono ?_
    rintro e w1 ⟨rfl, T1⟩
    go_wp2_with (fail)
    refine (G1.out _).mono ?_
    rintro e w2 ⟨ga, X0, rfl, q2, x2, T2⟩
    have T2w := nxt T1 T2
    have HTW : Hid (OneAt w.heap.size (T ga []) X0 w2) := ⟨q2, fun k hk => Nat.le_trans T1.size (x2 k hk), T2w.size⟩
    clear q2 x2 T1 T2
    go_wp2_with (fail)
    go_loopw [4, 5] (fun s i wr => ∃ (j m : Nat) (al : List Tal) (X : Nat → Prop), j ≤ n ∧ m ≤ j ∧ s = .int .u64 (m : Int) ∧ i = .int .i64 (j : Int) ∧ Hid (TOk j al) ∧ Hid (CInv m al) ∧ Hid (OneAt w.heap.size (T ga al) X wr) ∧ Below w.heap.size w wr) (fun _ i _ => n - (intOf i).toNat)
    case atStart => exact ⟨0, 0, [], X0, Nat.zero_le _, Nat.zero_le _, rfl, rfl, TOk.nil 0, CInv.nil, HTW, T2w⟩
    case round =>
      clear HTW T2w
      obtain ⟨j, m, al, X, hj, hm, rfl, rfl, HOK, HCI, HT, hbel⟩ := hrel
      by_cases hlt : j < n
      · have d0 : decide ((j : Int) < (n : Int)) = true := by simp; omega
        have hjl : j < l.length := by rw [HLN.out]; exact hlt
        obtain ⟨b, o, rfl, hb, hc⟩ := HC.out (by omega)
        obtain ⟨⟨hxa, hxm⟩, A', c', q0, q1, q2, q3⟩ := hc j hjl
        have c0 := (hbel.cell (p := ⟨b, o + j * 3 + 2, none⟩) hb).trans q2
        have hjn : (j : Int) < (n : Int) := by omega
        clear hc
        generalize l[j] = x at *
        obtain ⟨xa, xd, xc⟩ := x
        simp only at hxa hxm c0 q0 q1 q3
        obtain ⟨L, hxl⟩ : ∃ L, xd.length = L := ⟨_, rfl⟩
        rw [hxl] at q1 q3 hxm
        have cM := Lib.hid (fun W (U : Below w.heap.size w W) => And.intro ((U.cell (p := ⟨b, o + j * 3, none⟩) hb).trans q0) ((U.cell (p := ⟨b, o + j * 3 + 1, none⟩) hb).trans q1))
        have BM := Lib.hid (fun W (U : Below w.heap.size w W) => q3.below U)
        clear q0 q1 q2 q3
        cases xc with
        | false =>
          have hok := HOK.out.ok (show j ≤ 1000 by omega)
          have hcj := HOK.out.count xa xd
          have F1 := Lib.hid (fun W h hB => C.add ga al xa A' L c' xd W X h hok (by have := HOK.out.1; omega) (by omega) hxa hB (by omega))
          have HOK2 := Lib.hid (HOK.out.add xa xd (by rw [hxl]; omega) hxa)
          have HCI2 := Lib.hid (HCI.out.add xa xd)
          have HD := Lib.hid (fun W (U : Below wr.heap.size wr W) => HT.out.below (C.holds _ _) U)
          have Y0 := (Below.refl wr.heap.size wr).drew
          have hbd := hbel.drew
          have hbdd := hbel.drew.drew
          clear hok hcj
          generalize alCount al xa xd = cnt at *
          generalize alAdd al xa xd = al2 at *
          go_wp2_with (fail)
          go_region_held3 (fun w' => w'.cell? ⟨b, o + j * 3, none⟩ = some (.int .i64 xa) ∧ w'.cell? ⟨b, o + j * 3 + 1, none⟩ = some (.slice A' L c')) (first | exact cM.out _ hb1 | exact cM.out _ hbel | exact cM.out _ hbd | exact cM.out _ hbdd)
            (first
              | (go_at_call 10; (with_reducible refine (F1.out _ (by first | exact (HD.out _ Y0).p | exact (HD.out _ Y0.drew).p) (by first | exact BM.out _ hbd | exact BM.out _ hbdd)).mono ?_); rintro e w1 ⟨rfl, X2, q1, t1⟩; have hh1 := (HD.out _ (by first | exact Y0 | exact Y0.drew)).turn q1 t1; have HT1 := Lib.hid hh1.1; have hb1 := Below.trans (by first | exact hbd | exact hbdd) hh1.2; clear q1 t1 hh1))
          all_goals
            clear hbd hbdd Y0 HD F1
            have wm : ((m : Int) + 1) % 18446744073709551616 = (m : Int) + 1 := by omega
            go_wp2
            go_roundw
            case rel => exact ⟨j + 1, m + 1, al2, X2, by omega, by omega, by go_num, by go_num, HOK2, HCI2, HT1, hb1⟩
            case measure => simp [intOf]; omega
        | true =>
          have F0 := Lib.hid (C.clear ga al wr X HT.out.1 (HOK.out.ok (show j ≤ 1000 by omega)))
          go_wp2_with (fail)
          refine F0.out.mono ?_
          rintro e w1 ⟨rfl, X, q1, t1⟩
          obtain ⟨HT1, hb1⟩ := HT.out.turn q1 t1
          have hbel := hbel.trans hb1
          have HT := Lib.hid HT1
          have HOK : Hid (TOk j []) := TOk.nil j
          have HCI : Hid (CInv 0 []) := CInv.nil
          clear q1 t1 HT1 F0 hb1 hm
          go_wp2_with (fail)
          generalize ([] : List Tal) = al at *
          generalize w1 = wr at *
          obtain ⟨m, hm0⟩ : ∃ m : Nat, m = 0 := ⟨0, rfl⟩
          rw [← hm0] at HCI
          have hm : m ≤ j := by omega
          rw [show (Value.int .u64 0) = .int .u64 (m : Int) by rw [hm0]; rfl]
          clear hm0
          have hok := HOK.out.ok (show j ≤ 1000 by omega)
          have hcj := HOK.out.count xa xd
          have F1 := Lib.hid (fun W h hB => C.add ga al xa A' L c' xd W X h hok (by have := HOK.out.1; omega) (by omega) hxa hB (by omega))
          have HOK2 := Lib.hid (HOK.out.add xa xd (by rw [hxl]; omega) hxa)
          have HCI2 := Lib.hid (HCI.out.add xa xd)
          have HD := Lib.hid (fun W (U : Below wr.heap.size wr W) => HT.out.below (C.holds _ _) U)
          have Y0 := (Below.refl wr.heap.size wr).drew
          have hbd := hbel.drew
          have hbdd := hbel.drew.drew
          clear hok hcj
          generalize alCount al xa xd = cnt at *
          generalize alAdd al xa xd = al2 at *
          go_wp2_with (fail)
          go_region_held3 (fun w' => w'.cell? ⟨b, o + j * 3, none⟩ = some (.int .i64 xa) ∧ w'.cell? ⟨b, o + j * 3 + 1, none⟩ = some (.slice A' L c')) (first | exact cM.out _ hb1 | exact cM.out _ hbel | exact cM.out _ hbd | exact cM.out _ hbdd)
            (first
              | (go_at_call 10; (with_reducible refine (F1.out _ (by first | exact (HD.out _ Y0).p | exact (HD.out _ Y0.drew).p) (by first | exact BM.out _ hbd | exact BM.out _ hbdd)).mono ?_); rintro e w1 ⟨rfl, X2, q1, t1⟩; have hh1 := (HD.out _ (by first | exact Y0 | exact Y0.drew)).turn q1 t1; have HT1 := Lib.hid hh1.1; have hb1 := Below.trans (by first | exact hbd | exact hbdd) hh1.2; clear q1 t1 hh1))
          all_goals
            clear hbd hbdd Y0 HD F1
            have wm : ((m : Int) + 1) % 18446744073709551616 = (m : Int) + 1 := by omega
            go_wp2
            go_roundw
            case rel => exact ⟨j + 1, m + 1, al2, X2, by omega, by omega, by go_num, by go_num, HOK2, HCI2, HT1, hb1⟩
            case measure => simp [intOf]; omega
      · have d0 : decide ((j : Int) < (n : Int)) = false := by simp; omega
        obtain rfl : j = n := by omega
        have hok := HOK.out.ok (show j ≤ 1000 by omega)
        have E1 := Lib.hid (C.rows ga al wr X HT.out.p hok)
        have E2 := Lib.hid (fun (W : World) (h : T ga al W X) (i : Nat) (hi : i < al.length) (A1 : Option Addr) (d1 : Nat) (hB : Bys W A1 al[i].2.1.length d1 al[i].2.1) => (show Calls Try.prog 16 #[.pointer (some ⟨ga, 0, none⟩), .int .i64 al[i].1, .slice A1 al[i].2.1.length d1] W (fun e w' => e = .returned (.int .u64 ((al[i].2.2 : Nat) : Int)) ∧ Below W.heap.size W w') from by
          have h9 := C.count ga al al[i].1 A1 al[i].2.1.length d1 al[i].2.1 W X h hok (HOK.out.lab i hi) hB (hok.2 _ (List.getElem_mem hi)).2
          rw [HCI.out.count i hi] at h9
          exact h9))
        obtain ⟨N, hN⟩ : ∃ N, al.length = N := ⟨_, rfl⟩
        have HALN := Lib.hid hN
        have HSM : Hid (sumC al = m) := HCI.out.1
        clear hN hok
        go_wp2_with (fail)
        refine E1.out.mono ?_
        rintro e w3 ⟨P3, n3, c3, rfl, G3, T3⟩
        obtain rfl : N = n3 := by rw [← HALN.out]; exact G3.1
        have hn3 := G3.2.1
        have hc3 := G3.2.2.1
        unfold maxLen at hc3
        have HG := Lib.hid G3.2.2.2.2
        have HT3 := Lib.hid (fun W (U : Below w3.heap.size w3 W) => (HT.out.below (C.holds _ _) T3).below (C.holds _ _) U)
        have hb3 := nxt hbel T3
        clear G3
        go_wp2_with (fail)
        go_loopw [6, 8] (fun s i wr => ∃ k : Nat, k ≤ N ∧ s = .int .u64 ((sumC (al.take k) : Nat) : Int) ∧ i = .int .i64 (k : Int) ∧ Below w3.heap.size w3 wr) (fun _ i _ => N - (intOf i).toNat)
        case atStart => exact ⟨0, Nat.zero_le _, by simp [sumC], rfl, Below.refl _ _⟩
        case round =>
          obtain ⟨k, hk, rfl, rfl, hbk⟩ := hrel
          by_cases hkl : k < N
          · have d3 : decide ((k : Int) < (N : Int)) = true := by simp; omega
            have hka : k < al.length := by rw [HALN.out]; exact hkl
            obtain ⟨b2, o2, rfl, hb2, hcl⟩ := HG.out (by omega)
            obtain ⟨A1, d1, s0, s1, s2, sF⟩ := hcl k hka
            have hs := sumC_take al k hka
            have hsb := sumC_le al (k + 1)
            rw [HSM.out] at hsb
            have F2 := Lib.hid (fun W (U : Below w3.heap.size w3 W) => E2.out W (HT3.out W U).p k hka A1 d1 (sF.1.below U))
            have HAP := Lib.hid (fun q (hq : q < k) => HCI.out.apart k q hka hq)
            have HCL := Lib.hid (fun W (U : Below w3.heap.size w3 W) q (hq : q < k) => (show ∃ A d, W.cell? ⟨b2, o2 + q * 3, none⟩ = some (.int .i64 (al[q]'(by omega)).1) ∧ W.cell? ⟨b2, o2 + q * 3 + 1, none⟩ = some (.slice A (al[q]'(by omega)).2.1.length d) ∧ Bys W A (al[q]'(by omega)).2.1.length d (al[q]'(by omega)).2.1 from by
              obtain ⟨A', d', r0, r1, _, rF⟩ := hcl q (by omega)
              exact ⟨A', d', (U.cell (p := ⟨b2, o2 + q * 3, none⟩) hb2).trans r0, (U.cell (p := ⟨b2, o2 + q * 3 + 1, none⟩) hb2).trans r1, rF.1.below U⟩))
            have HBK := Lib.hid (fun W (U : Below w3.heap.size w3 W) => sF.1.below U)
            have K := Lib.hid (fun W (U : Below w3.heap.size w3 W) => And.intro ((U.cell (p := ⟨b2, o2 + k * 3, none⟩) hb2).trans s0) (And.intro ((U.cell (p := ⟨b2, o2 + k * 3 + 1, none⟩) hb2).trans s1) ((U.cell (p := ⟨b2, o2 + k * 3 + 2, none⟩) hb2).trans s2)))
            clear s0 s1 s2 sF hcl
            rw [hs] at hsb
            have HS := Lib.hid hs
            clear hs
            obtain ⟨xa, hxa⟩ : ∃ xa, al[k].1 = xa := ⟨_, rfl⟩
            obtain ⟨xd, hxd⟩ : ∃ xd, al[k].2.1 = xd := ⟨_, rfl⟩
            obtain ⟨xn, hxn⟩ : ∃ xn, al[k].2.2 = xn := ⟨_, rfl⟩
            rw [hxa, hxd, hxn] at F2 K
            rw [hxd] at HBK
            rw [hxn] at HS hsb
            simp only [hxa, hxd] at HAP
            clear hxa hxd hxn
            obtain ⟨S0, hS0⟩ : ∃ S, sumC (al.take k) = S := ⟨_, rfl⟩
            rw [hS0] at HS hsb ⊢
            clear hS0
            obtain ⟨L, hL⟩ : ∃ L, xd.length = L := ⟨_, rfl⟩
            rw [hL] at F2 K HBK
            clear hL
            have n1 : ((xn : Int) != (xn : Int)) = false := by simp
            have ck := (K.out _ hbk).2.2
            have Z0 := hbk.drew
            go_wp2_with (fail)
            clear ck
            go_region_held3 (fun w' => w'.cell? ⟨b2, o2 + k * 3, none⟩ = some (.int .i64 xa) ∧ w'.cell? ⟨b2, o2 + k * 3 + 1, none⟩ = some (.slice A1 L d1) ∧ w'.cell? ⟨b2, o2 + k * 3 + 2, none⟩ = some (.int .u64 (xn : Int))) (first | exact K.out _ Z1 | exact K.out _ hbk | exact K.out _ Z0 | exact K.out _ Z0.drew)
              (first
                | (go_at_call 16; (with_reducible refine (F2.out _ (by first | exact Z0 | exact Z0.drew)).mono ?_); rintro e z1 ⟨rfl, V1⟩; have Z1 := nxt (by first | exact Z0 | exact Z0.drew) V1))
            all_goals
              clear Z0 hbk F2
              go_wp2_with (fail)
              go_loopw [9] (fun i wr => ∃ q : Nat, q ≤ k ∧ i = .int .i64 (q : Int) ∧ Below w3.heap.size w3 wr) (fun i _ => k - (intOf i).toNat)
              case atStart => exact ⟨0, Nat.zero_le _, rfl, Z1⟩
              case round =>
                clear Z1
                obtain ⟨q, hq, rfl, hbq⟩ := hrel
                by_cases hql : q < k
                · have d4 : decide ((q : Int) < (k : Int)) = true := by simp; omega
                  have hqN : q < N := by omega
                  obtain ⟨A2, d2, r0, r1, rB⟩ := HCL.out _ hbq q hql
                  have hap := HAP.out q hql
                  generalize (al[q]'(by rw [HALN.out]; omega)).1 = ya at *
                  generalize (al[q]'(by rw [HALN.out]; omega)).2.1 = yd at *
                  obtain ⟨M, hM⟩ : ∃ M, yd.length = M := ⟨_, rfl⟩
                  rw [hM] at r1 rB
                  clear hM
                  have hb2q : b2 < wr.heap.size := Nat.lt_of_lt_of_le hb2 hbq.size
                  have KK := Lib.hid (fun W (U : Below wr.heap.size wr W) => And.intro (K.out W (hbq.trans (U.mono hbq.size))).1 (And.intro (K.out W (hbq.trans (U.mono hbq.size))).2.1 (And.intro ((U.cell (p := ⟨b2, o2 + q * 3, none⟩) hb2q).trans r0) ((U.cell (p := ⟨b2, o2 + q * 3 + 1, none⟩) hb2q).trans r1))))
                  have BQ := Lib.hid rB
                  have Z0 := hbq.drew
                  clear r0 r1 rB
                  by_cases he : xa = ya
                  · have de : (xa == ya) = true := by simpa using he
                    have HF := Lib.hid (fun W (U : Below wr.heap.size wr W) => same_false A1 A2 L d1 M d2 xd yd W (HBK.out W (hbq.trans (U.mono hbq.size))) (BQ.out.below U) (hap he))
                    have Y0 := (Below.refl wr.heap.size wr).drew
                    clear he hap
                    go_wp2_with (fail)
                    go_region_held3 (fun w' => w'.cell? ⟨b2, o2 + k * 3, none⟩ = some (.int .i64 xa) ∧ w'.cell? ⟨b2, o2 + k * 3 + 1, none⟩ = some (.slice A1 L d1) ∧ w'.cell? ⟨b2, o2 + q * 3, none⟩ = some (.int .i64 ya) ∧ w'.cell? ⟨b2, o2 + q * 3 + 1, none⟩ = some (.slice A2 M d2)) (first | exact KK.out _ Z1 | exact KK.out _ Y0 | exact KK.out _ Y0.drew | exact KK.out _ (Below.refl _ _))
                      (first
                        | (go_at_call 15; (with_reducible refine (HF.out _ (by first | exact Y0 | exact Y0.drew)).mono ?_); rintro e z1 ⟨rfl, V1⟩; have Z1 := nxt (by first | exact Y0 | exact Y0.drew) V1))
                    all_goals
                      have Z2 := nxt hbq Z1
                      go_wp2
                      go_roundw
                      case rel => exact ⟨q + 1, by omega, by go_num, Z2⟩
                      case measure => simp [intOf]; omega
                  · have de : (xa == ya) = false := by simpa using he
                    obtain ⟨k0, k1, r0, r1⟩ := KK.out _ (Below.refl _ _)
                    clear hap he
                    go_wp2_with (fail)
                    go_big_region
                    all_goals
                      have Z2 := hbq.drew
                      go_wp2
                      go_roundw
                      case rel => exact ⟨q + 1, by omega, by go_num, Z2⟩
                      case measure => simp [intOf]; omega
                · have d4 : decide ((q : Int) < (k : Int)) = false := by simp; omega
                  have HE : Hid (sumC (al.take (k + 1)) = S0 + xn) := HS
                  go_wp2
                  go_roundw
                  case rel => exact ⟨k + 1, by omega, by rw [HE.out]; push_cast; rfl, by go_num, hbq⟩
                  case measure => simp [intOf]; omega
          · have d3 : decide ((k : Int) < (N : Int)) = false := by simp; omega
            obtain rfl : k = N := by omega
            have hfin : sumC (al.take k) = m := by rw [← HALN.out, List.take_length]; exact HSM.out
            rw [hfin]
            have dm : ((m : Int) == (m : Int)) = true := by simp
            have hb4 := nxt hb3 hbk
            clear hfin
            go_wp2_with (fail)
            refine (HL.out _).mono ?_
            rintro e w5 ⟨rfl, T5⟩
            have hb5 := nxt hb4 T5
            go_wp2
            go_ret
            exact ⟨rfl, hb5⟩
end Go.Proofs.Yteeimfooaoaahaa
