/- The walk of layer 8's CorrPeaks, over the contracts of phase and corr. -/
import Derived.Test.YtmpelpmgpklidaaLaws08b
namespace Go.Proofs.Ytmpelpmgpklidaa
open Go.RowKit

/-- what the peak says of the place where the mark is found, among points of the four kinds -/
theorem peak_fits {u v : List Pt} (hu : ∀ p ∈ u, Uni p) (hv : ∀ p ∈ v, Uni p) {a t p : Nat} {ok : Bool} (hf : FindR u v a t ok) (hp : PeakR u v p true) :
    fitI u v p ≤ 4 * ((v.length : Int) * v.length) ∧ decide (fitI u v p = 4 * ((v.length : Int) * v.length)) = ok ∧ (ok = true → a = p) ∧ p + v.length ≤ u.length ∧ a ≤ u.length ∧ 0 < v.length := by
  obtain ⟨h1, h2, h3, h4, h5⟩ | ⟨h1, -⟩ := hp
  · have key : ∀ b, b + v.length ≤ u.length → fitI u v b ≤ 4 * ((v.length : Int) * v.length) ∧ (fitI u v b = 4 * ((v.length : Int) * v.length) ↔ ∃ t : Nat, t < 4 ∧ St u v b t) := fun b hb =>
      fit_uni (u.drop b) v (fun q hq => hu q (List.mem_of_mem_drop hq)) hv (by simp; omega)
    obtain ⟨k1, k2⟩ := key p h3
    rcases hf with ⟨rfl, p1, q1, r1, s1, m1, n1⟩ | ⟨rfl, rfl, rfl, z1⟩
    · have ka := (key a q1).2.2 ⟨t, r1, s1⟩
      have hge := h4 a q1
      have hpe : fitI u v p = 4 * ((v.length : Int) * v.length) := by omega
      refine ⟨k1, decide_eq_true hpe, fun _ => ?_, h3, by omega, h2⟩
      rcases Nat.lt_trichotomy a p with h | h | h
      · have := h5 a h; omega
      · exact h
      · obtain ⟨t', ht', hs'⟩ := k2.1 hpe
        exact absurd hs' (n1 p h t' ht')
    · refine ⟨k1, decide_eq_false fun hpe => ?_, fun h => absurd h (by decide), h3, by omega, h2⟩
      obtain ⟨t', ht', hs'⟩ := k2.1 hpe
      rcases z1 with z1 | z1
      · omega
      · exact z1 p h3 t' ht' hs'
  · cases h1
theorem peak_none {u v : List Pt} {a t p : Nat} {ok : Bool} (hf : FindR u v a t ok) (hp : PeakR u v p false) : ok = false := by
  obtain ⟨h1, -⟩ | ⟨-, -, h3⟩ := hp
  · cases h1
  · rcases hf with ⟨rfl, p1, q1, r1, s1, m1, n1⟩ | ⟨rfl, -⟩
    · omega
    · rfl
theorem fl_four : Fl 4616189618054758400 4 := ⟨by decide, false, 50, by decide +kernel, fun h => absurd h (by decide), fun _ => rfl⟩
theorem fl_gt {a b : Nat} {m n : Int} (ha : Fl a m) (hb : Fl b n) : (FloatKind.f64.format.order a b == some .gt) = decide (n < m) := by
  show (Ieee.double.order a b == some .gt) = _
  rw [fl_order ha hb]
  rcases Int.lt_trichotomy m n with h | h | h
  · rw [Int.compare_eq_lt.2 h, decide_eq_false (by omega)]; rfl
  · rw [Int.compare_eq_eq.2 h, decide_eq_false (by omega)]; rfl
  · rw [Int.compare_eq_gt.2 h, decide_eq_true (by omega)]; rfl
theorem Cs.drop {w : World} {b o n c : Nat} {l : List Pt} (h : Cs w (some ⟨b, o, none⟩) n c l) (k : Nat) (hk : k ≤ n) : Cs w (some ⟨b, o + k, none⟩) (n - k) (c - k) (l.drop k) := by
  obtain ⟨h1, h2, h3, h4⟩ := h
  refine ⟨by simp; omega, by omega, by unfold maxLen at *; omega, fun hn => ?_⟩
  obtain ⟨b', o', vs, e, hb, hv, hc⟩ := h4 (by omega)
  cases e
  have hvl := hv.1
  refine ⟨b, o + k, vs.drop k, rfl, hb, ⟨by simp; omega, fun j hj hj' => ?_⟩, fun j hj => ?_⟩
  · simp at hj hj'
    obtain ⟨x, y, e1, e2, e3⟩ := hv.2 (k + j) (by omega) (by omega)
    exact ⟨x, y, by rw [List.getElem_drop]; exact e1, by rw [List.getElem_drop]; exact e2, by rw [List.getElem_drop]; exact e3⟩
  · simp at hj
    rw [List.getElem_drop, show o + k + j = o + (k + j) by omega]
    exact hc (k + j) (by omega)
theorem uni_sliced {l : List Pt} : ∀ p ∈ slicedB l, Uni p := by
  intro p hp
  obtain ⟨q, _, rfl⟩ := List.mem_map.1 hp
  exact sliceP_uni q
set_option maxHeartbeats 8000000 in
theorem walk_CorrPeaks (C : PhC) (D : CoC) (A : Option Addr) (n c : Nat) (l : List Pt) (B : Option Addr) (m d : Nat) (mark : List Pt) (w : World) (hP : Ps w A n c l) (hQ : Ps w B m d mark) :
    Calls Try.prog 6 #[.slice A n c, .slice B m d] w fun e w' => e = .returned (.bool true) ∧ Below w.heap.size w w' := by
  have HS1 := Lib.hid (small8_any A n c l w hP)
  have HS2 := Lib.hid (small8_any B m d mark w hQ)
  have HPP := Lib.hid hP
  have HQQ := Lib.hid hQ
  have HL := Lib.hid (And.intro hP.len hQ.len)
  clear hP hQ
  by_cases h1 : 100 < n
  · have d1 : decide ((100 : Int) < (n : Int)) = true := by simp; omega
    go_enter Try.func6, Try.ntmps6
    go_wp2_with (fail)
    refine HS1.out.mono ?_
    rintro e w1 ⟨r, rfl, hr, rfl⟩
    clear hr
    cases r with
    | false =>
      go_wp2_with (fail)
      refine (live08_any C D _).mono ?_
      rintro e w9 ⟨rfl, T9⟩
      go_wp2
      go_ret
      exact ⟨rfl, T9⟩
    | true =>
      go_wp2_with (fail)
      refine HS2.out.mono ?_
      rintro e w1 ⟨r, rfl, hr, rfl⟩
      clear hr
      cases r with
      | false =>
        go_wp2_with (fail)
        refine (live08_any C D _).mono ?_
        rintro e w9 ⟨rfl, T9⟩
        go_wp2
        go_ret
        exact ⟨rfl, T9⟩
      | true =>
        go_wp2_with (fail)
        refine (live08_any C D _).mono ?_
        rintro e w9 ⟨rfl, T9⟩
        go_wp2
        go_ret
        exact ⟨rfl, T9⟩
  · have d1 : decide ((100 : Int) < (n : Int)) = false := by simp; omega
    go_enter Try.func6, Try.ntmps6
    go_wp2_with (fail)
    refine HS1.out.mono ?_
    rintro e w1 ⟨r, rfl, hr, rfl⟩
    cases r with
    | false =>
      clear hr
      go_wp2_with (fail)
      refine (live08_any C D _).mono ?_
      rintro e w9 ⟨rfl, T9⟩
      go_wp2
      go_ret
      exact ⟨rfl, T9⟩
    | true =>
      have HN1 := Lib.hid (hr rfl)
      clear hr
      go_wp2_with (fail)
      refine HS2.out.mono ?_
      rintro e w1 ⟨r, rfl, hr, rfl⟩
      cases r with
      | false =>
        clear hr
        go_wp2_with (fail)
        refine (live08_any C D _).mono ?_
        rintro e w9 ⟨rfl, T9⟩
        go_wp2
        go_ret
        exact ⟨rfl, T9⟩
      | true =>
        have HN2 := Lib.hid (hr rfl)
        clear hr
        go_wp2_with (fail)
        refine (of_at C A n c l w HPP.out (Nat.le_trans HN1.out.1 (by decide)) HN1.out.2).mono ?_
        rintro e w1 ⟨A1, c1, rfl, hc1, T1⟩
        have HC1 := Lib.hid hc1
        clear hc1
        go_wp2_with (fail)
        refine (D.sliced A1 n c1 l w1 HC1.out HN1.out.1).mono ?_
        rintro e w2 ⟨v2, rfl, hO2, T2⟩
        obtain ⟨A2, c2, hv2, hc2⟩ := hO2.shape
        rw [slicedB_len, HL.out.1] at hv2 hc2
        subst hv2
        have HC2 := Lib.hid hc2
        have T2 := nxt T1 T2
        have HQ2 := Lib.hid (HQQ.out.below T2)
        clear hc2 hO2
        go_wp2_with (fail)
        refine (of_at C B m d mark w2 HQ2.out (Nat.le_trans HN2.out.1 (by decide)) HN2.out.2).mono ?_
        rintro e w3 ⟨A3, c3, rfl, hc3, T3⟩
        have HC3 := Lib.hid hc3
        have HX3 := Lib.hid (HC2.out.below T3)
        have T3 := nxt T2 T3
        clear hc3
        go_wp2_with (fail)
        refine (D.sliced A3 m c3 mark w3 HC3.out HN2.out.1).mono ?_
        rintro e w4 ⟨v4, rfl, hO4, T4⟩
        obtain ⟨A4, c4, hv4, hc4⟩ := hO4.shape
        rw [slicedB_len, HL.out.2] at hv4 hc4
        subst hv4
        have HM4 := Lib.hid hc4
        have HX4 := Lib.hid (HX3.out.below T4)
        have T4 := nxt T3 T4
        have HU := Lib.hid (And.intro (uni_sliced (l := l)) (uni_sliced (l := mark)))
        have HE := Lib.hid (And.intro ((slicedB_len l).trans HL.out.1) ((slicedB_len mark).trans HL.out.2))
        generalize slicedB l = u at *
        generalize slicedB mark = v at *
        have HNU := Lib.hid (And.intro (fun p hp => (HU.out.1 p hp).near) (fun p hp => (HU.out.2 p hp).near))
        clear hc4 hO4 HC1 HC2 HX3
        go_wp2_with (fail)
        refine (D.find A2 n c2 u A4 m c4 v w4 HX4.out HM4.out HNU.out.1 HNU.out.2 HN1.out.1 HN2.out.1).mono ?_
        rintro e w5 ⟨a, t, ok, rfl, hf, T5⟩
        have HF := Lib.hid hf
        have HX5 := Lib.hid (HX4.out.below T5)
        have HM5 := Lib.hid (HM4.out.below T5)
        have T5 := nxt T4 T5
        clear hf
        go_wp2_with (fail)
        refine (D.peak A2 n c2 u A4 m c4 v w5 HX5.out HM5.out HNU.out.1 HNU.out.2 HN1.out.1 HN2.out.1).mono ?_
        rintro e w6 ⟨p, has, rfl, hp, T6⟩
        have HX6 := Lib.hid (HX5.out.below T6)
        have HM6 := Lib.hid (HM5.out.below T6)
        have T6 := nxt T5 T6
        cases has with
        | false =>
          obtain rfl := peak_none HF.out hp
          clear hp HF
          go_wp2_with (fail)
          refine (live08_any C D _).mono ?_
          rintro e w9 ⟨rfl, T9⟩
          have T9 := nxt T6 T9
          go_wp2
          go_ret
          exact ⟨rfl, T9⟩
        | true =>
          obtain ⟨f1, f2, f3, f4, f5, f6⟩ := peak_fits HU.out.1 HU.out.2 HF.out hp
          have hun := HE.out.1
          have hvm := HE.out.2
          have hn4 := HN1.out.1
          have hm4 := HN2.out.1
          rw [hvm] at f1 f2 f4 f6
          rw [hun] at f4 f5
          have hXo : ∃ g o, A2 = some ⟨g, o, none⟩ := by
            obtain ⟨g, o, _, _, e, _⟩ := HX6.out.at_ 0 (by omega)
            exact ⟨g, o, e⟩
          obtain ⟨g, o, rfl⟩ := hXo
          have hnc := HX6.out.le
          have hcm := HX6.out.cap
          have hmm := mul_bound (B := 400) (a := (m : Int)) (b := (m : Int)) (by decide) (by omega) (by omega) (by omega) (by omega)
          have hMN := fl_int (m : Int) (by omega)
          obtain ⟨r1, g1, k1⟩ := fl_mul fl_four hMN (by omega)
          obtain ⟨r2, g2, k2⟩ := fl_mul k1 hMN (by rw [Int.mul_assoc]; omega)
          rw [Int.mul_assoc] at k2
          have q1 := fun W => run_float_arith (P := Try.prog) W .mul 34 .f64 _ _ r1 g1
          have q2 := fun W => run_float_arith (P := Try.prog) W .mul 34 .f64 _ _ r2 g2
          have HK2 := Lib.hid k2
          have HCD := Lib.hid (HX6.out.drop p (by omega))
          have hdn : ∀ q ∈ u.drop p, Near q := fun q hq => HNU.out.1 q (List.mem_of_mem_drop hq)
          have hdb := dot_near (u.drop p) v hdn HNU.out.2 (by omega)
          have HDT := Lib.hid (D.dot (some ⟨g, o + p, none⟩) (n - p) (c2 - p) (u.drop p) A4 m c4 v w6 HCD.out HM6.out hdn HNU.out.2 (by omega) hm4)
          have HSZ : Hid (∀ (x y : Nat) W, Fl x (dotP (u.drop p) v).1 → Fl y (dotP (u.drop p) v).2 → Calls Try.prog 13 #[.complex .f64 x y] W (GivesX W (fitI u v p))) := fun x y W h h' => D.size x y (dotP (u.drop p) v) W h h' (by omega)
          generalize fitI u v p = S at *
          generalize dotP (u.drop p) v = q at *
          have HG : Hid (∀ s, Fl s S → (FloatKind.f64.format.order s r2 == some .gt) = false ∧ (FloatKind.f64.format.order s r2 == some .eq) = ok) := fun s hs =>
            ⟨(fl_gt hs HK2.out).trans (decide_eq_false (by omega)), (fl_eq hs HK2.out).trans f2⟩
          have i1 : decide ((n : Int) < (p : Int)) = false := by simp; omega
          have i2 : decide ((n : Int) < (a : Int)) = false := by simp; omega
          have hpn : p ≤ n := by omega
          have F3 := Lib.hid f3
          clear hp HF f1 f2 f3 hmm hMN g1 g2 k1 k2 hdb hdn HC3 HM4 HX4 HM5 HX5 HU
          go_wp2_with (fail)
          refine HDT.out.mono ?_
          rintro e w7 ⟨x, y, rfl, hx, hy, T7⟩
          have T7 := nxt T6 T7
          have HZ := Lib.hid (fun W => HSZ.out x y W hx hy)
          clear hx hy
          go_wp2_with (fail)
          refine (HZ.out _).mono ?_
          rintro e w8 ⟨s, rfl, hs, T8⟩
          have T8 := nxt T7 T8
          obtain ⟨j1, j2⟩ := HG.out s hs
          clear hs HG
          cases ok with
          | false =>
            go_wp2_with (fail)
            refine (live08_any C D _).mono ?_
            rintro e w9 ⟨rfl, T9⟩
            have T9 := nxt T8 T9
            go_wp2
            go_ret
            exact ⟨rfl, T9⟩
          | true =>
            obtain rfl := F3.out rfl
            have j3 : ((a : Int) == (a : Int)) = true := by simp
            go_wp2_with (fail)
            refine (live08_any C D _).mono ?_
            rintro e w9 ⟨rfl, T9⟩
            have T9 := nxt T8 T9
            go_wp2
            go_ret
            exact ⟨rfl, T9⟩
end Go.Proofs.Ytmpelpmgpklidaa
