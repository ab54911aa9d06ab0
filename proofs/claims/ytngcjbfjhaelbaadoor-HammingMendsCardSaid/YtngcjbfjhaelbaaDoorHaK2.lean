/- What the landed package hamming answers: Pack, Unpack; the whole package by its contracts. -/
import Derived.Test.YtngcjbfjhaelbaaDoorHaK
namespace Go.Proofs.YtngcjbfjhaelbaaDoor
open Go.RowKit

set_option maxHeartbeats 4000000 in
theorem pack10_any (A : Option Addr) (n c : Nat) (b : List UInt8) (w : World) (hB : Bys w A n c b) (hT : Tab10 w) :
    Calls Tryd.prog 18 #[.slice A n c] w (GivesW w (packB b)) := by
  have hl := hB.len
  have hnc := hB.le
  have hcm := hB.cap
  have HN := Lib.hid hl
  by_cases h1 : 4096 < n
  · have d1 : decide ((4096 : Int) < (n : Int)) = true := by simp; omega
    have HR : Hid (packB b = []) := by show _ = _; unfold packB; rw [if_pos (by omega)]
    clear h1 hB hT hl
    go_enter Tryd.func18, Tryd.ntmps18
    go_wp2
    go_ret
    exact ⟨_, rfl, by rw [HR.out]; exact World.ownsRow_nil _ _ _ _, Below.refl _ _⟩
  · have d1 : decide ((4096 : Int) < (n : Int)) = false := by simp; omega
    have HR : Hid (packB b = packL b) := by show _ = _; unfold packB; rw [if_neg (by omega)]
    have HC := Lib.hid hB.at_
    have HTT := Lib.hid hT
    clear hB hT hl
    have h4 : n ≤ 4096 := by omega
    generalize n = N at *
    obtain ⟨i0, hi, hz0, hz1, hz2⟩ := info_parts Tryd.info5
    go_enter Tryd.func18, Tryd.ntmps18
    go_wp2_with (at_make; refine wpList_make_own _ rfl _ _ 39 rfl w.heap.size 5 i0 (.int .u8 0) 1 Tryd.underlying39 hi hz0 hz1 .i64 .i64 _ (2 * N) rfl rfl (by omega) (by rw [hz2]; omega) (by unfold maxLen; omega) (Nat.le_refl _) ?_; intro w1 hown hgrow)
    go_loopw [3, 15] (fun v i wr => ∃ j : Nat, j ≤ N ∧ i = .int .i64 (j : Int) ∧ v = .slice (some ⟨w.heap.size, 0, none⟩) (2 * j) (2 * N) ∧ wr.ownsRow w.heap.size 5 1 (.slice (some ⟨w.heap.size, 0, none⟩) (2 * j) (2 * N)) (2 * j) (bvs (packL (b.take j))) ∧ Below w.heap.size w wr) (fun _ i _ => N - (intOf i).toNat)
    case atStart => exact ⟨0, Nat.zero_le _, rfl, rfl, by simpa [packL, bvs] using hown, (Below.refl _ _).grown hgrow (Nat.le_refl _) (by simp)⟩
    case round =>
      obtain ⟨j, hj, rfl, rfl, hown, hbel⟩ := hrel
      by_cases hlt : j < N
      · have d2 : decide ((j : Int) < (N : Int)) = true := by simp; omega
        have hlb : j < b.length := by rw [HN.out]; exact hlt
        obtain ⟨g, o, rfl, hg, hc⟩ := HC.out (by omega)
        have c1 := (hbel.cell (p := ⟨g, o + j, none⟩) hg).trans (hc j hlb)
        have HT := Lib.hid (packL_take b j hlb)
        clear hc
        generalize b[j] = x at *
        have hx := x.toNat_lt
        obtain ⟨q, hq⟩ : ∃ q, x.toNat / 16 = q := ⟨_, rfl⟩
        obtain ⟨r, hr⟩ : ∃ r, x.toNat % 16 = r := ⟨_, rfl⟩
        have e1 : (x.toNat : Int) / 16 = (q : Int) := by omega
        have e2 : (x.toNat : Int) % 16 = (r : Int) := by omega
        rw [hq, hr] at HT
        have H1 : Hid (∀ (z : Int) W, z = (q : Int) → Below w.heap.size w W → Calls Tryd.prog 20 #[.int .u8 z] W fun e w' => e = .returned (.int .u8 ((wordN q : Nat) : Int)) ∧ Below W.heap.size W w') := fun z W e k => by subst e; exact laid10_any q W (by omega) (tab10_keep _ _ HTT.out k)
        have H2 : Hid (∀ (z : Int) W, z = (r : Int) → Below w.heap.size w W → Calls Tryd.prog 20 #[.int .u8 z] W fun e w' => e = .returned (.int .u8 ((wordN r : Nat) : Int)) ∧ Below W.heap.size W w') := fun z W e k => by subst e; exact laid10_any r W (by omega) (tab10_keep _ _ HTT.out k)
        have n1 := wordB_num q
        have n2 := wordB_num r
        have hnew : Hid (∀ (W : World), Bys (W.alloc (.cells #[.int .u8 ((wordN q : Nat) : Int), .int .u8 ((wordN r : Nat) : Int)] 5)) (some ⟨W.heap.size, 0, none⟩) 2 2 [wordB q, wordB r]) := fun W => by
          have h := Bys.lit W [wordB q, wordB r] (by simp)
          have e : bvs [wordB q, wordB r] = [.int .u8 ((wordN q : Nat) : Int), .int .u8 ((wordN r : Nat) : Int)] := by
            show [Value.int .u8 ((wordB q).toNat : Int), Value.int .u8 ((wordB r).toNat : Int)] = _
            rw [n1, n2]
          rw [e] at h
          exact h
        have HE1 := Lib.hid e1
        have HE2 := Lib.hid e2
        clear n1 n2 hq hr e1 e2
        generalize wordN q = wq at *
        generalize wordN r = wr' at *
        have HOWN := Lib.hid hown
        clear hown
        go_wp2_with (fail)
        refine (H1.out _ _ HE1.out hbel).mono ?_
        rintro e w1 ⟨rfl, T1⟩
        have HB1 := Lib.hid (nxt hbel T1)
        go_wp2_with (fail)
        refine (H2.out _ _ HE2.out HB1.out).mono ?_
        rintro e w2 ⟨rfl, T2⟩
        have HB2 := Lib.hid (nxt HB1.out T2)
        have HO2 := Lib.hid (own_below (own_below HOWN.out T1) T2)
        go_wp2_with ((with_reducible refine app_room _ rfl (.tmp 19) (.tmp 26) rfl w.heap.size w.heap.size (2 * N) (2 * j) (bvs (packL (b.take j))) rfl ?_ (some ⟨w2.heap.size, 0, none⟩) 2 2 [wordB q, wordB r] rfl ?_ ?_ ?_ ?_); (exact HO2.out.alloc _); (exact hnew.out w2); (omega); (omega); intro w3 hown3 hgrow3)
        go_roundw
        case rel =>
          rw [← bvs_append, ← HT.out] at hown3
          refine ⟨j + 1, by omega, by go_num, rfl, hown3, ?_⟩
          exact (HB2.out.alloc HB2.out.size _).grown hgrow3 (by have := HB2.out.size; simp; omega) (by intro g hg; injection hg with hg; omega)
        case measure => simp [intOf]; omega
      · have d2 : decide ((j : Int) < (N : Int)) = false := by simp; omega
        have e : b.take j = b := List.take_of_length_le (by rw [HN.out]; omega)
        rw [e] at hown
        have HBB := Lib.hid hown
        clear hown e
        go_wp2
        go_ret
        refine ⟨_, rfl, ?_, hbel⟩
        have e2 : (packB b).length = 2 * j := by rw [HR.out, packL_len, HN.out]; omega
        rw [e2, HR.out, show j = N by omega]
        have h := HBB.out
        rw [show j = N by omega] at h
        exact h
/-- the cells behind j whole bytes, the next one begun -/
def cellsU (N j : Nat) (o : List UInt8) (v : Nat) : List Value := bvs o ++ (if j < N then .int .u8 (v : Int) :: List.replicate (N - 1 - j) (.int .u8 0) else [])
theorem cellsU_start (N : Nat) : cellsU N 0 [] 0 = List.replicate N (.int .u8 0) := by
  unfold cellsU
  cases N with
  | zero => rfl
  | succ n => simp [bvs, List.replicate_succ]
theorem cellsU_end (N v : Nat) (o : List UInt8) : cellsU N N o v = bvs o := by simp [cellsU]
theorem cellsU_get (N j v : Nat) (o : List UInt8) (ho : o.length = j) (h : j < N) : (cellsU N j o v)[j]? = some (.int .u8 (v : Int)) := by
  unfold cellsU
  rw [if_pos h, List.getElem?_append_right (by simp [bvs, ho])]
  simp [bvs, ho]
theorem cellsU_set (N j v z : Nat) (o : List UInt8) (ho : o.length = j) (h : j < N) : (cellsU N j o v).set j (.int .u8 (z : Int)) = cellsU N j o z := by
  unfold cellsU
  rw [if_pos h, List.set_append_right _ _ (by simp [bvs, ho])]
  simp [bvs, ho, if_pos h]
theorem cellsU_next (N j z : Nat) (o : List UInt8) (hz : z < 256) (h : j < N) : cellsU N j o z = cellsU N (j + 1) (o ++ [UInt8.ofNat z]) 0 := by
  unfold cellsU
  rw [if_pos h, bvs_append, List.append_assoc]
  congr 1
  have e : bvs [UInt8.ofNat z] = [.int .u8 (z : Int)] := by
    show [Value.int .u8 ((UInt8.ofNat z).toNat : Int)] = _
    rw [UInt8.toNat_ofNat', Nat.mod_eq_of_lt hz]
  rw [e]
  by_cases h2 : j + 1 < N
  · rw [if_pos h2]
    simp only [List.singleton_append]
    rw [show N - 1 - j = (N - 1 - (j + 1)) + 1 by omega, List.replicate_succ]
    rfl
  · rw [if_neg h2, show N - 1 - j = 0 by omega]
    rfl
/-- what is known of the word that stands alone -/
def Lone (l : List UInt8) (j t m m0 v : Nat) : Prop := (t = 0 ∧ v = 0 ∧ m = m0) ∨ (t = 1 ∧ ∃ h : 2 * j < l.length, (halfN l[2 * j].toNat).2.2 = 0 ∧ v = (halfN l[2 * j].toNat).1 ∧ m = m0 + (halfN l[2 * j].toNat).2.1)
theorem lone_bad (l : List UInt8) (j t N : Nat) (hl : l.length = 2 * N) (hj : j < N) (ht : t < 2) (h : 2 * j + t < l.length) (hb : (halfN (l[2 * j + t]'h).toNat).2.2 ≠ 0) : unpL l = none := by
  have hbad := unpL_bad j (l.take (2 * j)) (l[2 * j]'(by omega)) (l[2 * j + 1]'(by omega)) (l.drop (2 * j + 1 + 1)) (by simp; omega)
  have hall : l.take (2 * j) ++ l[2 * j]'(by omega) :: l[2 * j + 1]'(by omega) :: l.drop (2 * j + 1 + 1) = l := by
    rw [← List.drop_eq_getElem_cons (show 2 * j + 1 < l.length by omega), ← List.drop_eq_getElem_cons (show 2 * j < l.length by omega), List.take_append_drop]
  rw [hall] at hbad
  apply hbad
  rintro ⟨a1, a2⟩
  rcases (show t = 0 ∨ t = 1 by omega) with rfl | rfl
  · exact hb a1
  · exact hb a2
theorem lone_one (l : List UInt8) (j m m0 v : Nat) (hL : Lone l j 1 m m0 v) (h1 : 2 * j + 1 < l.length) (o : List UInt8) (hu : unpL (l.take (2 * j)) = some (o, m0)) (ho : (halfN (l[2 * j + 1]'h1).toNat).2.2 = 0) :
    unpL (l.take (2 * (j + 1))) = some (o ++ [UInt8.ofNat (16 * v + (halfN (l[2 * j + 1]'h1).toNat).1)], m + (halfN (l[2 * j + 1]'h1).toNat).2.1) := by
  rcases hL with ⟨h, _⟩ | ⟨_, h0, a1, a2, a3⟩
  · cases h
  · have hsn := unpL_snoc j (l.take (2 * j)) (l[2 * j]'h0) (l[2 * j + 1]'h1) (by simp; omega) o m0 hu
    rw [if_pos ⟨a1, ho⟩] at hsn
    have htk : l.take (2 * j) ++ [l[2 * j]'h0, l[2 * j + 1]'h1] = l.take (2 * (j + 1)) := by
      rw [show 2 * (j + 1) = 2 * j + 1 + 1 by omega, List.take_succ_eq_append_getElem h1, List.take_succ_eq_append_getElem h0, List.append_assoc]
      rfl
    rw [htk] at hsn
    rw [hsn, a2, a3]
set_option maxHeartbeats 4000000 in
theorem unpack10_any (A : Option Addr) (n c : Nat) (l : List UInt8) (w : World) (hB : Bys w A n c l) (hT : Tab10 w) :
    Calls Tryd.prog 15 #[.slice A n c] w (GivesUn w (unpackB l)) := by
  have hl := hB.len
  have hnc := hB.le
  have hcm := hB.cap
  have HML := Lib.hid hl
  by_cases h1 : 8192 < n
  · have d1 : decide ((8192 : Int) < (n : Int)) = true := by simp; omega
    have HR := Lib.hid (unpack_long (by omega : 8192 < l.length))
    clear h1 hB hT hl
    go_enter Tryd.func15, Tryd.ntmps15
    go_wp2
    go_ret3
    exact ⟨_, _, _, by rw [HR.out]; rfl, by rw [HR.out]; exact Bys.nil _, Below.refl _ _⟩
  · have d1 : decide ((8192 : Int) < (n : Int)) = false := by simp; omega
    by_cases h2 : n % 2 = 0
    · obtain ⟨N, hN⟩ : ∃ N, l.length = 2 * N := ⟨n / 2, by omega⟩
      have d2 : (((n : Int) % 2) != 0) = false := by simp; omega
      have HBAD := Lib.hid (fun h3 => unpack_bad (by omega) (by omega) (l := l) h3)
      have HOK := Lib.hid (fun o n h3 => unpack_ok (by omega) (by omega) (l := l) (o := o) (n := n) h3)
      have HC := Lib.hid hB.at_
      have HTT := Lib.hid hT
      have hN8 : N ≤ 4096 := by omega
      have HLN := Lib.hid hN
      have e2 : (n : Int) / 2 = (N : Int) := by omega
      have HM1 : Hid (∀ q : Nat, q < 2 * N → decide ((q : Int) < (n : Int)) = true) := fun q hq => by simp; omega
      have HM2 : Hid (∀ q : Nat, ¬ q < 2 * N → decide ((q : Int) < (n : Int)) = false) := fun q hq => by simp; omega
      clear hB h1 h2 hT hN hl
      obtain ⟨i0, hi, hz0, hz1, hz2⟩ := info_parts Tryd.info5
      go_enter Tryd.func15, Tryd.ntmps15
      go_wp2_with (at_make; refine wpList_make_full _ rfl _ _ 39 rfl w.heap.size 5 i0 (.int .u8 0) 1 Tryd.underlying39 hi hz0 hz1 .i64 .i64 _ _ N rfl rfl rfl rfl (by rw [hz2]; omega) (by unfold maxLen; omega) (Nat.le_refl _) ?_; intro w1 hown hgrow; have HON := Lib.hid (And.intro hown hgrow); clear hown hgrow)
      go_loopw [6, 25] (fun s i wr => ∃ (q j t m m0 v : Nat) (o : List UInt8), Hid (q = 2 * j + t) ∧ Hid (j = N → t = 0) ∧ j ≤ N ∧ t < 2 ∧ s = .int .i64 (m : Int) ∧ i = .int .i64 (q : Int) ∧ Hid (unpL (l.take (2 * j)) = some (o, m0)) ∧ Hid (o.length = j) ∧ Hid (Lone l j t m m0 v) ∧ m ≤ 8 * q ∧ v < 16 ∧ wr.ownsRow w.heap.size 5 1 (.slice (some ⟨w.heap.size, 0, none⟩) N N) N (cellsU N j o v) ∧ Below w.heap.size w wr) (fun _ i _ => 2 * N - (intOf i).toNat)
      case atStart =>
        refine ⟨0, 0, 0, 0, 0, 0, [], rfl, fun _ => rfl, Nat.zero_le _, by decide, rfl, rfl, rfl, rfl, .inl ⟨rfl, rfl, rfl⟩, by decide, by decide, ?_, (Below.refl _ _).grown HON.out.2 (Nat.le_refl _) (by simp)⟩
        rw [cellsU_start]
        simpa [toList_madeCells_one, Value.cells] using HON.out.1
      case round =>
        obtain ⟨q, j, t, m, m0, v, o, HQ, HJT, hj, ht, rfl, rfl, HU, HO, HL, hm, hv, hown, hbel⟩ := hrel
        have hq0 := HQ.out
        by_cases hlt : q < 2 * N
        · have hj2 : j < N := by omega
          have d3 := HM1.out q hlt
          have hqd : (q : Int) / 2 = (j : Int) := by omega
          have hqn : q / 2 = j := by omega
          have hql : q < l.length := by rw [HLN.out]; exact hlt
          obtain ⟨g, ao, rfl, hg, hc⟩ := HC.out (by rw [← HML.out, HLN.out]; omega)
          have q1 := (hbel.cell (p := ⟨g, ao + q, none⟩) hg).trans (hc q hql)
          have HBD : Hid ((halfN l[q].toNat).2.2 ≠ 0 → unpL l = none) := fun h => by
            subst hq0
            exact lone_bad l j t N HLN.out hj2 ht hql h
          have HLO : Hid ((halfN l[q].toNat).2.2 = 0 → t = 1 → unpL (l.take (2 * (j + 1))) = some (o ++ [UInt8.ofNat (16 * v + (halfN l[q].toNat).1)], m + (halfN l[q].toNat).2.1)) := fun h e => by
            subst hq0
            subst e
            exact lone_one l j m m0 v HL.out hql o HU.out h
          have HLZ : Hid ((halfN l[q].toNat).2.2 = 0 → t = 0 → Lone l j 1 (m + (halfN l[q].toNat).2.1) m0 (16 * v + (halfN l[q].toNat).1) ∧ 16 * v + (halfN l[q].toNat).1 < 16) := fun h e => by
            subst hq0
            subst e
            have hk := halfN_lt (l[2 * j + 0]'hql).toNat
            rcases HL.out with ⟨_, rfl, rfl⟩ | ⟨h', _⟩
            · exact ⟨.inr ⟨rfl, hql, h, by simp, rfl⟩, by omega⟩
            · cases h'
          have c2 : wr.cell? ⟨w.heap.size, j, none⟩ = some (.int .u8 (v : Int)) := by
            rw [hown.cellAt _ (by omega), cellsU_get N j v o HO.out hj2]
          have f2 := hown.frozenAt j
          have HOWN := Lib.hid hown
          have HX := Lib.hid (half10_any l[q].toNat wr l[q].toNat_lt (tab10_keep _ _ HTT.out hbel))
          have hk := halfN_lt l[q].toNat
          clear hc hown hq0
          generalize l[q]'hql = x at *
          generalize halfN x.toNat = r at *
          obtain ⟨h, k, e⟩ := r
          simp only at HBD HLO HLZ hk
          by_cases he : e = 0
          · subst he
            obtain ⟨z, hz⟩ : ∃ z, 16 * v + h = z := ⟨_, rfl⟩
            rw [hz] at HLO HLZ
            have hz256 : z < 256 := by omega
            have hzz : ((v : Int) * 16 + (h : Int)) = (z : Int) := by omega
            have hv256 : (v : Int) * 16 % 256 = (v : Int) * 16 := by omega
            have hh256 : (h : Int) % 256 = (h : Int) := by omega
            have hzm : (z : Int) % 256 = (z : Int) := by omega
            have HSET := Lib.hid (cellsU_set N j v z o HO.out hj2)
            have HNEXT := Lib.hid (cellsU_next N j z o hz256 hj2)
            clear hz HBD
            go_wp2_with (fail)
            refine HX.out.mono ?_
            rintro e w1 ⟨rfl, T1⟩
            have HB1 := Lib.hid (nxt hbel T1)
            have HOW1 := Lib.hid (own_below HOWN.out T1)
            have c3 : w1.cell? ⟨w.heap.size, j, none⟩ = some (.int .u8 (v : Int)) := by
              rw [HOW1.out.cellAt _ (by omega), cellsU_get N j v o HO.out hj2]
            have f3 := HOW1.out.frozenAt j
            go_wp2
            go_roundw
            case rel =>
              have hst : (w1.setCell ⟨w.heap.size, j, none⟩ (.int .u8 (z : Int))).ownsRow w.heap.size 5 1 (.slice (some ⟨w.heap.size, 0, none⟩) N N) N (cellsU N j o z) := by
                rw [← HSET.out]; exact (HOW1.out.stored j (.int .u8 (z : Int))).1
              have hbb := HB1.out.setCell (p := ⟨w.heap.size, j, none⟩) (Nat.le_refl _) (.int .u8 (z : Int))
              rcases (show t = 0 ∨ t = 1 by omega) with rfl | rfl
              · obtain ⟨z1, z2⟩ := HLZ.out trivial rfl
                exact ⟨q + 1, j, 1, m + k, m0, z, o, by have := HQ.out; show _ = _; omega, fun e => by omega, hj, by decide, by go_num, by go_num, HU.out, HO.out, z1, by omega, z2, hst, hbb⟩
              · rw [HNEXT.out] at hst
                refine ⟨q + 1, j + 1, 0, m + k, m + k, 0, o ++ [UInt8.ofNat z], by have := HQ.out; show _ = _; omega, fun _ => rfl, by omega, by decide, by go_num, by go_num, HLO.out trivial rfl, ?_, .inl ⟨rfl, rfl, rfl⟩, by omega, by decide, hst, hbb⟩
                show _ = _
                rw [List.length_append, HO.out]; rfl
            case measure => simp [intOf]; omega
          · have he : e = 100 := by omega
            subst he
            have HR := Lib.hid (HBAD.out (HBD.out (by decide)))
            go_wp2_with (fail)
            refine HX.out.mono ?_
            rintro e w1 ⟨rfl, T1⟩
            have HB1 := Lib.hid (nxt hbel T1)
            go_wp2
            go_ret3
            exact ⟨_, _, _, by rw [HR.out]; rfl, by rw [HR.out]; exact Bys.nil _, HB1.out⟩
        · obtain rfl : j = N := by omega
          have d3 := HM2.out q hlt
          have d4 : ¬ ((q : Int) < (n : Int)) := by simpa using d3
          obtain rfl : t = 0 := HJT.out rfl
          rw [cellsU_end] at hown
          have hu := HU.out
          rw [← HLN.out, List.take_length] at hu
          have hmm : m = m0 := by
            rcases HL.out with ⟨_, _, h⟩ | ⟨h, _⟩
            · exact h
            · cases h
          subst hmm
          have HR := Lib.hid (HOK.out o m hu)
          have HBB := Lib.hid (Bys.of_own hown)
          clear hown hu HBAD HOK hq0
          go_wp2
          go_ret3
          exact ⟨_, _, _, by rw [HR.out]; rfl, by rw [HR.out]; exact HBB.out, hbel⟩
    · have d2 : (((n : Int) % 2) != 0) = true := by simp; omega
      have HR := Lib.hid (unpack_odd (by omega) (by omega) : unpackB l = _)
      clear hB h1 h2 hT hl
      go_enter Tryd.func15, Tryd.ntmps15
      go_wp2
      go_ret3
      exact ⟨_, _, _, by rw [HR.out]; rfl, by rw [HR.out]; exact Bys.nil _, Below.refl _ _⟩
theorem haC : HaC Tab10 where
  keep := tab10_keep
  word := fun h w _ hT => word10_any h w hT
  half := fun x w hT => half10_any x.toNat w x.toNat_lt hT
  apart := fun x y w _ => (apart10_any x.toNat y.toNat w x.toNat_lt y.toNat_lt).mono fun _ _ h => ⟨h.1, by rw [← h.2]; exact Below.refl _ _⟩
  pack := fun A n c b w hB hT => pack10_any A n c b w hB hT
  unpack := fun A n c l w hB hT => unpack10_any A n c l w hB hT
end Go.Proofs.YtngcjbfjhaelbaaDoor
