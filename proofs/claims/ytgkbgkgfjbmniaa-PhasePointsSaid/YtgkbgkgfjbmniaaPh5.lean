/- Package phase: Bytes. -/
import Derived.Test.YtgkbgkgfjbmniaaPh4
import Derived.Test.YtgkbgkgfjbmniaaPhQ
namespace Go.Proofs.Ytgkbgkgfjbmniaa
open Go.RowKit

theorem kindI_step {a b : Pt} (h : kindI b < 0) : stepI a b < 0 := by unfold stepI; rw [if_pos (.inr h)]; decide
theorem kindI_step2 {a b : Pt} (ha : 0 ≤ kindI a) (hb : 0 ≤ kindI b) : stepI a b = (kindI b - kindI a) % 4 := by unfold stepI; rw [if_neg (by omega)]
theorem u8_or4 (a s : Nat) (h : a < 64) (hs : s < 4) : bits .or .u8 (4 * (a : Int)) (s : Int) = 4 * (a : Int) + (s : Int) := by
  have key : ∀ a : Fin 64, ∀ s : Fin 4, bits .or .u8 (4 * ((a.val : Nat) : Int)) ((s.val : Nat) : Int) = 4 * ((a.val : Nat) : Int) + ((s.val : Nat) : Int) := by decide +kernel
  exact key ⟨a, h⟩ ⟨s, hs⟩
/-- two bits more, as the code reckons them -/
theorem two_and (ka kb s : Nat) (hs : ((kb : Int) - (ka : Int)) % 4 = s) : bits .and .i64 ((kb : Int) - (ka : Int)) 3 = (s : Int) := (i64_and3 _).trans hs
theorem two_or (n s : Nat) (hn : n < 64) (hs : s < 4) : bits .or .u8 ((n : Int) * 4) (s : Int) = ((4 * n + s : Nat) : Int) := by
  rw [Int.mul_comm, u8_or4 _ _ hn hs]
  omega
/-- the row of bytes, as far as it is filled -/
def rowP (L : Nat) (s : Pk) : List UInt8 := (s.out ++ UInt8.ofNat s.n :: List.replicate L 0).take L
theorem rowP_len (L : Nat) (s : Pk) : (rowP L s).length = L := by unfold rowP; simp; omega
theorem rowP_start (L : Nat) : rowP L ⟨[], 0, 0⟩ = List.replicate L 0 := by
  unfold rowP
  have e : ([] : List UInt8) ++ UInt8.ofNat 0 :: List.replicate L 0 = List.replicate (L + 1) 0 := rfl
  rw [e, List.take_replicate, Nat.min_eq_left (by omega)]
theorem rowP_at (L : Nat) (s : Pk) (h : s.out.length < L) : (rowP L s)[s.out.length]'(by rw [rowP_len]; exact h) = UInt8.ofNat s.n := by
  unfold rowP
  simp
theorem rowP_end (L : Nat) (s : Pk) (h : s.out.length = L) : rowP L s = s.out := by
  unfold rowP
  rw [List.take_append_of_le_length (by omega), ← h, List.take_length]
theorem rowP_step (L : Nat) (s : Pk) (k : Int) (h : s.out.length < L) : rowP L (pkStep s k) = (rowP L s).set s.out.length (UInt8.ofNat (4 * s.n + k.toNat)) := by
  unfold rowP
  rw [← List.take_set, List.set_append_right _ _ (Nat.le_refl _), Nat.sub_self, List.set_cons_zero]
  unfold pkStep
  split
  · simp only
    obtain ⟨m, hm⟩ : ∃ m, L - s.out.length = m + 1 := ⟨L - s.out.length - 1, by omega⟩
    have e : UInt8.ofNat 0 :: List.replicate L (0 : UInt8) = List.replicate (L + 1) 0 := rfl
    rw [List.append_assoc, List.singleton_append, List.take_append, List.take_append, hm, List.take_succ_cons, List.take_succ_cons, e, List.take_replicate, List.take_replicate, Nat.min_eq_left (by omega), Nat.min_eq_left (by omega)]
  · rfl
theorem pk_cnt (l : List Int) : ∀ s : Pk, s.c < 4 → 4 * (l.foldl pkStep s).out.length + (l.foldl pkStep s).c = 4 * s.out.length + s.c + l.length := by
  induction l with
  | nil => intro s _; simp
  | cons k r ih =>
    intro s hc
    rw [List.foldl_cons]
    by_cases h : s.c = 3
    · have e : pkStep s k = ⟨s.out ++ [UInt8.ofNat (4 * s.n + k.toNat)], 0, 0⟩ := by unfold pkStep; rw [if_pos h]
      rw [ih _ (by rw [e]; show 0 < 4; omega), e]
      simp only [List.length_append, List.length_cons, List.length_nil]
      omega
    · have e : pkStep s k = ⟨s.out, 4 * s.n + k.toNat, s.c + 1⟩ := by unfold pkStep; rw [if_neg h]
      rw [ih _ (by rw [e]; show s.c + 1 < 4; omega), e]
      simp only [List.length_cons]
      omega
set_option maxHeartbeats 4000000 in
theorem bytes_any (A : Option Addr) (n c : Nat) (l : List Pt) (w : World) (hP : Cs w A n c l) :
    Calls Try.prog 22 #[.slice A n c] w (GivesT w (bytesB l)) := by
  obtain rfl := hP.len
  have hcm := hP.cap
  have hnc := hP.le
  have HC := Lib.hid (fun j => hP.at_ j)
  clear hP
  by_cases hbig : 16385 < l.length
  · have d : decide ((16385 : Int) < (l.length : Int)) = true := by simp; omega
    have HR := Lib.hid (bytesB_long hbig)
    clear hbig HC
    go_enter Try.func22, Try.ntmps22
    go_wp2
    go_ret2
    exact ⟨_, _, _, by rw [HR.out]; rfl, by rw [HR.out]; exact Bys.nil _, Below.refl _ _⟩
  · have d : decide ((16385 : Int) < (l.length : Int)) = false := by simp; omega
    by_cases hm : l.length % 4 = 1
    · have e1 : (((l.length : Int) % 4) != 1) = false := by simp; omega
      have h0l : 0 < l.length := by omega
      obtain ⟨g, o, x, y, rfl, hg, hk', hc, hx, hy⟩ := HC.out 0 h0l
      simp only [Nat.add_zero] at hc
      have hg0 : l.getD 0 (0, 0) = l[0]'h0l := by simp [List.getD_eq_getElem?_getD, List.getElem?_eq_getElem (show 0 < l.length by omega)]
      have HK := Lib.hid (fun W => pkind_any x y (l[0]'h0l) W hx hy)
      have hr := kindI_range (l[0]'h0l)
      clear hx hy
      by_cases hk : kindI (l[0]'h0l) < 0
      · have d2 : decide ((0 : Int) ≤ kindI (l[0]'h0l)) = false := by simp; omega
        have HR := Lib.hid (bytesB_form hbig (.inr (by rw [hg0]; exact hk)))
        rw [if_pos hk, d2] at HK
        clear HC hg0 hm hk d2
        go_enter Try.func22, Try.ntmps22
        go_wp2_with (fail)
        refine (HK.out _).mono ?_
        rintro e w1 ⟨rfl, T1⟩
        go_wp2
        go_ret2
        exact ⟨_, _, _, by rw [HR.out]; rfl, by rw [HR.out]; exact Bys.nil _, T1⟩
      · have d2 : decide ((0 : Int) ≤ kindI (l[0]'h0l)) = true := by simp; omega
        have hform : ¬ (l.length % 4 ≠ 1 ∨ kindI (l.getD 0 (0, 0)) < 0) := by rw [hg0]; omega
        have HS : Hid (∀ (i : Nat) (hi : i + 1 < l.length), stepI (l[i]'(Nat.lt_of_succ_lt hi)) l[i + 1] < 0 → bytesB l = ([], 70)) := fun i hi hs => bytesB_step hbig hform (i + 1) (by omega) hi hs
        have HO : Hid ((∀ k ∈ stepsP l, 0 ≤ k) → bytesB l = ((pkRun (stepsP l)).out, 0)) := fun h => bytesB_ok hbig hform h
        rw [if_neg hk, d2] at HK
        obtain ⟨kk, hkk⟩ : ∃ kk : Nat, kindI (l[0]'h0l) = kk := ⟨(kindI (l[0]'h0l)).toNat, by omega⟩
        rw [hkk] at HK
        have HKK := Lib.hid hkk
        have hk3 : kk ≤ 3 := by omega
        clear hg0 hk hform d2 hr hkk
        obtain ⟨L, hL⟩ : ∃ L, l.length = 4 * L + 1 := ⟨l.length / 4, by omega⟩
        have eL : (l.length : Int) / 4 = (L : Int) := by omega
        have hLb : L ≤ 4096 := by omega
        obtain ⟨i0, hi, hz0, hz1, hz2⟩ := info_parts Try.info5
        by_cases hone : L = 0
        · subst hone
          have HF : Hid (bytesB l = ([], 0)) := by
            have hs : stepsP l = [] := by
              match l, hL with
              | [a], _ => rfl
            have := HO.out (by rw [hs]; intro k hk; cases hk)
            rw [hs] at this
            exact this
          clear HS HO HC HKK eL
          generalize l.length = m at *
          obtain rfl : m = 1 := by omega
          clear hL hm hcm hLb h0l
          go_enter Try.func22, Try.ntmps22
          go_wp2_with (fail)
          refine (HK.out _).mono ?_
          rintro e w1 ⟨rfl, T1⟩
          have hz := T1.size
          go_wp2_with (at_make; refine wpList_make_full _ rfl _ _ 43 rfl w.heap.size 5 i0 (.int .u8 0) 1 Try.underlying43 hi hz0 hz1 .i64 .i64 _ _ 0 rfl rfl rfl rfl (by rw [hz2]; omega) (by unfold maxLen; omega) hz ?_; intro w2 hown hgrow; have HON := Lib.hid (And.intro hown hgrow); clear hown hgrow)
          all_goals
            go_loopw [34] (fun i wr => i = .int .i64 0 ∧ w2 = wr) (fun _ _ => 0)
            case atStart => exact ⟨rfl, rfl⟩
            case round =>
              obtain ⟨rfl, rfl⟩ := hrel
              go_wp2
              go_ret2
              exact ⟨_, _, _, by rw [HF.out]; rfl, by rw [HF.out]; exact Bys.of_own (l := []) (by simpa [toList_madeCells_one, Value.cells, bvs] using HON.out.1), T1.grown HON.out.2 hz (by simp)⟩
        · have hn : l.length ≤ 16385 := by omega
          have HL := Lib.hid hL
          have hlL : l.length ≤ 4 * L + 1 := by omega
          have hlL2 : 4 * L + 1 ≤ l.length := by omega
          clear hL hm
          go_enter Try.func22, Try.ntmps22
          go_wp2_with (fail)
          refine (HK.out _).mono ?_
          rintro e w1 ⟨rfl, T1⟩
          have hz := T1.size
          clear HK hc
          go_wp2_with (at_make; refine wpList_make_full _ rfl _ _ 43 rfl w.heap.size 5 i0 (.int .u8 0) 1 Try.underlying43 hi hz0 hz1 .i64 .i64 _ _ L rfl rfl rfl rfl (by rw [hz2]; omega) (by unfold maxLen; omega) hz ?_; intro w2 hown hgrow; have HON := Lib.hid (And.intro hown hgrow); clear hown hgrow)
          go_loopw [4, 34] (fun at_ i wr => ∃ j : Nat, ∃ hj : j < l.length, i = .int .i64 (j : Int) ∧ ∃ ka : Nat, at_ = .int .i64 (ka : Int) ∧ ka ≤ 3 ∧ Hid (kindI l[j] = ka ∧ wr.ownsRow w.heap.size 5 1 (.slice (some ⟨w1.heap.size, 0, none⟩) L L) L (bvs (rowP L (pkRun (stepsP (l.take (j + 1)))))) ∧ (∀ k ∈ stepsP (l.take (j + 1)), 0 ≤ k)) ∧ Below w.heap.size w wr) (fun _ i _ => l.length - (intOf i).toNat)
          case atStart =>
            refine ⟨0, by omega, rfl, kk, rfl, hk3, ?_, T1.grown HON.out.2 hz (by simp)⟩
            have e : stepsP (l.take (0 + 1)) = [] := by
              match l with
              | [] => rfl
              | [a] => rfl
              | a :: b :: r => rfl
            rw [e]
            refine ⟨HKK.out, ?_, fun k hk => by cases hk⟩
            have e2 : pkRun [] = ⟨[], 0, 0⟩ := rfl
            rw [e2, rowP_start]
            have h := HON.out.1
            simp only [Value.cells, Nat.mul_one, toList_madeCells_one] at h
            have e3 : bvs (List.replicate L 0) = List.replicate L (.int .u8 0) := by simp [bvs, bv]
            rw [e3]
            exact h
          case round =>
            obtain ⟨j, hj, rfl, ka, rfl, hka, HW, hbel⟩ := hrel
            by_cases hlt : j + 1 < l.length
            · have dj : decide ((j : Int) < ((l.length - 1 : Nat) : Int)) = true := by simp; omega
              obtain ⟨g', o', x2, y2, hA, _, _, hc, hx2, hy2⟩ := HC.out (j + 1) hlt
              cases hA
              have hc := (hbel.cell (p := ⟨g, o + (j + 1), none⟩) hg).trans hc
              rw [show o + (j + 1) = o + 1 + j by omega] at hc
              have hst := stepsP_take l (j + 1) (by omega) hlt
              simp only [Nat.add_sub_cancel] at hst
              have hK := fun W => pkind_any x2 y2 l[j + 1] W hx2 hy2
              clear hx2 hy2
              have hsb := HS.out j hlt
              have hkr := kindI_range l[j + 1]
              have hkj := HW.out.1
              have hpc := pkRun_c (stepsP (l.take (j + 1))) (stepsP_le _)
              rw [stepsP_len] at hpc
              have hpn := pkRun_n (stepsP (l.take (j + 1))) (stepsP_le _)
              have hpl := pk_cnt (stepsP (l.take (j + 1))) ⟨[], 0, 0⟩ (by decide)
              rw [stepsP_len] at hpl
              have hps : pkRun (stepsP (l.take (j + 1 + 1))) = pkStep (pkRun (stepsP (l.take (j + 1)))) (stepI (l[j]'(Nat.lt_of_succ_lt hlt)) l[j + 1]) := by rw [hst, pkRun_snoc]
              have hnn : (0 ≤ stepI (l[j]'(Nat.lt_of_succ_lt hlt)) l[j + 1]) → ∀ k ∈ stepsP (l.take (j + 1 + 1)), 0 ≤ k := fun h k hk => by
                rw [hst] at hk
                rcases List.mem_append.1 hk with hk | hk
                · exact HW.out.2.2 k hk
                · obtain rfl := List.mem_singleton.1 hk
                  exact h
              have hlen : (l.take (j + 1)).length = j + 1 := by simp; omega
              rw [hlen] at hpc hpl
              change 4 * (pkRun (stepsP (l.take (j + 1)))).out.length + (pkRun (stepsP (l.take (j + 1)))).c = 4 * 0 + 0 + (j + 1 - 1) at hpl
              simp only [Nat.add_sub_cancel] at hpc hpl
              by_cases hneg : kindI l[j + 1] < 0
              · have hR := hsb (kindI_step hneg)
                have d2 : decide ((0 : Int) ≤ kindI l[j + 1]) = false := by simp; omega
                rw [if_pos hneg, d2] at hK
                have HR := Lib.hid hR
                have HK := Lib.hid hK
                clear hR hK d2 hps hnn hlen hpc hpl hpn hst hsb hkr hkj hneg HW HS HO HKK hj
                go_wp2_with (fail)
                refine (HK.out _).mono ?_
                rintro e w3 ⟨rfl, T2⟩
                have T2 := nxt hbel T2
                go_wp2
                go_ret2
                exact ⟨_, _, _, by rw [HR.out]; rfl, by rw [HR.out]; exact Bys.nil _, T2⟩
              · have d2 : decide ((0 : Int) ≤ kindI l[j + 1]) = true := by simp; omega
                rw [if_neg hneg, d2] at hK
                have hse : stepI (l[j]'(Nat.lt_of_succ_lt hlt)) l[j + 1] = (kindI l[j + 1] - ka) % 4 := by
                  rw [kindI_step2 (by rw [hkj]; omega) (by omega), hkj]
                obtain ⟨kb, hkb⟩ : ∃ kb : Nat, kindI l[j + 1] = kb := ⟨(kindI l[j + 1]).toNat, by omega⟩
                rw [hkb] at hK hse hkr
                have hkb3 : kb ≤ 3 := by omega
                have HKB := Lib.hid hkb
                have HK := Lib.hid hK
                have hown := HW.out.2.1
                obtain ⟨s, hs⟩ : ∃ s : Nat, ((kb : Int) - (ka : Int)) % 4 = s := ⟨(((kb : Int) - (ka : Int)) % 4).toNat, by omega⟩
                have hand := two_and ka kb s hs
                rw [hse, hs] at hps hnn
                have hnn := hnn (by omega)
                have hs4 : s < 4 := by omega
                clear hK hkb d2 hlen hst hsb hkj hneg HW HS HKK hse hkr hs
                generalize pkRun (stepsP (l.take (j + 1))) = S at *
                obtain ⟨q, hq⟩ : ∃ q, S.out.length = q := ⟨_, rfl⟩
                have hqL : q < L := by omega
                have eq4 : (j : Int) / 4 = (q : Int) := by omega
                have hnb : S.n < 64 := by
                  have h4 : j % 4 = 0 ∨ j % 4 = 1 ∨ j % 4 = 2 ∨ j % 4 = 3 := by omega
                  rw [hpc] at hpn
                  rcases h4 with h | h | h | h <;> rw [h] at hpn <;> simp at hpn <;> omega
                have hrs := rowP_step L S (s : Int) (by omega)
                rw [← hps, Int.toNat_natCast, hq] at hrs
                have hra : (rowP L S)[q]? = some (UInt8.ofNat S.n) := by
                  have := rowP_at L S (by omega)
                  simp only [hq] at this
                  rw [List.getElem?_eq_getElem (by rw [rowP_len]; exact hqL), this]
                have hor := two_or S.n s hnb hs4
                have hbt : 4 * S.n + s < 256 := by omega
                obtain ⟨b, hb⟩ : ∃ b : UInt8, b = UInt8.ofNat (4 * S.n + s) := ⟨_, rfl⟩
                have hbn : ((4 * S.n + s : Nat) : Int) = (b.toNat : Int) := by rw [hb, UInt8.toNat_ofNat', Nat.mod_eq_of_lt hbt]
                rw [← hb] at hrs
                rw [hbn] at hor
                have hrl := rowP_len L S
                generalize rowP L S = row at *
                have HRS := Lib.hid hrs
                have HNN := Lib.hid hnn
                have hzb := hbel.size
                go_wp2_with (fail)
                refine (HK.out _).mono ?_
                rintro e w3 ⟨rfl, T2⟩
                have T3 := nxt hbel T2
                have hown3 := own_below hown T2
                have c1 : w3.cell? ⟨w1.heap.size, q, none⟩ = some (.int .u8 (S.n : Int)) := by
                  have hra2 := (List.getElem?_eq_some_iff.1 hra).2
                  rw [hown3.cellAt q (by omega), bvs_get row q (by omega), hra2]
                  have : (UInt8.ofNat S.n).toNat = S.n := by rw [UInt8.toNat_ofNat', Nat.mod_eq_of_lt (by omega)]
                  unfold bv
                  rw [this]
                have f1 := hown3.frozenAt q
                have HST := Lib.hid (hown3.stored q (bv b))
                clear hown hown3 hrs hra hnn hps hpl hpn hpc hb hbn hrl HK hc
                go_wp2
                go_roundw
                case rel =>
                  refine ⟨j + 1, hlt, by go_num, kb, rfl, hkb3, ⟨HKB.out, ?_, HNN.out⟩, T3.setCell hz _⟩
                  rw [HRS.out, show bvs (row.set q b) = (bvs row).set q (bv b) from by unfold bvs; rw [List.map_set]]
                  exact HST.out.1
                case measure => simp [intOf]; omega
            · have hje : j + 1 = l.length := by omega
              have hw := HW.out
              rw [hje, List.take_length] at hw
              have hpl := pk_cnt (stepsP l) ⟨[], 0, 0⟩ (by decide)
              have hpc := pkRun_c (stepsP l) (stepsP_le _)
              rw [stepsP_len] at hpl hpc
              change 4 * (pkRun (stepsP l)).out.length + (pkRun (stepsP l)).c = 4 * 0 + 0 + (l.length - 1) at hpl
              have hoL : (pkRun (stepsP l)).out.length = L := by omega
              rw [rowP_end L _ hoL] at hw
              have HF := Lib.hid (HO.out hw.2.2)
              have HBY := Lib.hid (Bys.of_own hw.2.1)
              have HOL := Lib.hid hoL
              have dj : decide ((j : Int) < ((l.length - 1 : Nat) : Int)) = false := by simp; omega
              clear hw HW HO HS hoL hpl hpc
              go_wp2
              go_ret2
              exact ⟨_, _, _, by rw [HF.out]; rfl, by rw [HF.out]; exact HBY.out, hbel⟩
    · have e1 : (((l.length : Int) % 4) != 1) = true := by simp; omega
      have HR := Lib.hid (bytesB_form hbig (.inl hm))
      clear HC hm
      go_enter Try.func22, Try.ntmps22
      go_wp2
      go_ret2
      exact ⟨_, _, _, by rw [HR.out]; rfl, by rw [HR.out]; exact Bys.nil _, Below.refl _ _⟩
end Go.Proofs.Ytgkbgkgfjbmniaa
