/- Joined: Rlin1 Rlin2. -/
import Derived.Test.YtkcpkfimmolkkaaDoorFacts
import Derived.Test.YtkcpkfimmolkkaaDoorOcts
import Derived.Test.YtkcpkfimmolkkaaDoorRscrs
import Derived.Test.YtkcpkfimmolkkaaDoorRhams
import Derived.Test.YtkcpkfimmolkkaaDoorRweas
import Derived.Test.YtkcpkfimmolkkaaDoorRcors
import Derived.Test.YtkcpkfimmolkkaaDoorRphs
import Derived.Test.YtkcpkfimmolkkaaDoorPtP
/- What kedgeref12's Mark, Long and Send answer. -/
namespace Go.Proofs.YtkcpkfimmolkkaaDoor
open Go.RowKit
set_option maxRecDepth 20000

theorem ownmark (W : World) (B : Nat) (hB : B ≤ W.heap.size) : (W.alloc (.cells #[.int .u8 26, .int .u8 207, .int .u8 252, .int .u8 29] 5)).ownsRow B 5 1 (.slice (some ⟨W.heap.size, 0, none⟩) 4 4) 4 (bvs markB) := by
  exact World.ownsRow_lit (base := B) (e := 5) (size := 1) W (bvs markB).toArray 4 hB (by unfold maxLen; omega) (by simp [bvs, markB])
theorem rmark_any (w : World) : Calls Tryd.prog 23 #[] w (GivesP w markP) := by
  have HB : Hid (∀ W : World, Bys (W.alloc (.cells #[.int .u8 26, .int .u8 207, .int .u8 252, .int .u8 29] 5)) (some ⟨W.heap.size, 0, none⟩) 4 4 markB) := fun W => Bys.lit W markB (by decide)
  have HP := Lib.hid (rpoints_any (some ⟨w.heap.size, 0, none⟩) 4 4 markB _ (HB.out w))
  go_enter Tryd.func23, Tryd.ntmps23
  go_wp2_with (fail)
  refine HP.out.mono ?_
  rintro e w1 ⟨v, rfl, hown, T1⟩
  have T := ((Below.refl w.heap.size w).alloc (Nat.le_refl _) (.cells #[.int .u8 26, .int .u8 207, .int .u8 252, .int .u8 29] 5)).trans (T1.mono (by simp))
  have HO := Lib.hid (hown.down (show w.heap.size ≤ _ by simp))
  clear hown
  go_wp2
  go_ret
  exact ⟨_, rfl, HO.out, T⟩
theorem rlong_any (n : Int) (w : World) (hn : -9223372036854775808 ≤ n ∧ n ≤ 9223372036854775807) :
    Calls Tryd.prog 13 #[.int .i64 n] w fun e w' => e = .returned (.int .i64 (longI n)) ∧ w = w' := by
  by_cases h1 : n < 0
  · have hd : decide (n < 0) = true := by simpa using h1
    have hm : longI n = 0 := by unfold longI; rw [if_pos (.inl h1)]
    rw [hm]
    go_enter Tryd.func13, Tryd.ntmps13
    go_wp2
    go_ret
    exact ⟨rfl, rfl⟩
  · have hd : decide (n < 0) = false := by simpa using h1
    by_cases h2 : 512 < n
    · have hd2 : decide (512 < n) = true := by simpa using h2
      have hm : longI n = 0 := by unfold longI; rw [if_pos (.inr h2)]
      rw [hm]
      go_enter Tryd.func13, Tryd.ntmps13
      go_wp2
      go_ret
      exact ⟨rfl, rfl⟩
    · have hd2 : decide (512 < n) = false := by simpa using h2
      have hm : longI n = 33 + 8 * n := by unfold longI; rw [if_neg (by omega)]
      rw [hm]
      go_enter Tryd.func13, Tryd.ntmps13
      go_wp2
      go_ret
      exact ⟨rfl, rfl⟩
theorem putOf_two (n : Nat) : putOf n 2 = put2 n := by
  unfold putOf
  rw [if_neg (by decide)]
  show putB n 2 = _
  simp [putB, put2]
/-- Send's end -/
def GivesSp (w : World) (r : List Pt × Nat) (e : Ending) (w' : World) : Prop := ∃ v, e = .returned (.tuple #[v, .int .i64 (r.2 : Int)]) ∧ OwnP w' w.heap.size v r.1 ∧ Below w.heap.size w w'
set_option maxHeartbeats 4000000 in
theorem rsend_any (A : Option Addr) (n c : Nat) (b : List UInt8) (w : World) (hB : Bys w A n c b) (hn : n ≤ 140737488351232) :
    Calls Tryd.prog 9 #[.slice A n c] w (GivesSp w (sendB b)) := by
  obtain rfl := hB.len
  by_cases h1 : 512 < b.length
  · have d1 : decide ((512 : Int) < (b.length : Int)) = true := by simp; omega
    have HS : Hid (sendB b = ([], 2)) := by show _ = _; unfold sendB; rw [if_pos h1]
    go_enter Tryd.func9, Tryd.ntmps9
    go_wp2
    go_ret2
    exact ⟨_, by rw [HS.out]; rfl, by rw [HS.out]; exact OwnP.nil _ _, Below.refl _ _⟩
  · have d1 : decide ((512 : Int) < (b.length : Int)) = false := by simp; omega
    have hcv : IntKind.u64.wrap (b.length : Int) = (b.length : Int) := IntWalk.u64_in _ (by omega)
    have HPU := Lib.hid (fun W => rput_any b.length 2 W (by omega))
    have HPK := Lib.hid (fun A n c l W (h : Bys W A n c l) => rpack_any A n c l W h)
    have HSC := Lib.hid (fun W (h : Bys W A b.length c b) => rscr_any 17217 A b.length c b W h (by omega))
    have HSB : Hid (sendB b = (pointsB (lineB b), 0)) := by show _ = _; unfold sendB; rw [if_neg h1]
    have hl1 : (packB (put2 b.length)).length = 4 := by rw [packB_len _ (by simp [put2])]; rfl
    have hl2 := body_len b (by omega)
    have hl3 : (weaveB (packB (scrB 17217 b)) 8).length = 2 * b.length := by rw [weaveB_len _ _ (body_ok b (by omega)), hl2]
    have HW := Lib.hid (fun A n c W (h : Bys W A n c (packB (scrB 17217 b))) => rweave_any A n c _ 8 W h (by have := h.len; omega))
    have HLB : Hid (bvs markB ++ bvs (packB (put2 b.length)) ++ bvs (weaveB (packB (scrB 17217 b)) 8) = bvs (lineB b)) := by show _ = _; rw [← bvs_append, ← bvs_append]; rfl
    have HPT := Lib.hid (fun A n c W (h : Bys W A n c (lineB b)) => rpoints_any A n c _ W h)
    rw [putOf_two] at HPU
    generalize lineB b = L at *
    generalize weaveB (packB (scrB 17217 b)) 8 = wv at *
    have HBB := Lib.hid hB
    clear hB
    go_enter Tryd.func9, Tryd.ntmps9
    go_wp2_with (fail)
    refine (HPU.out _).mono ?_
    rintro e w1 ⟨A1, n1, c1, rfl, B1, G⟩
    have T0 : Below w.heap.size w (w.alloc (.cells #[.int .u8 26, .int .u8 207, .int .u8 252, .int .u8 29] 5)) := (Below.refl _ w).alloc (Nat.le_refl _) _
    have O := own_below (ownmark w w.heap.size (Nat.le_refl _)) G
    have T := nxt T0 G
    clear G T0
    go_wp2_with (fail)
    refine (HPK.out _ _ _ _ _ B1).mono ?_
    rintro e w2 ⟨A2, n2, c2, rfl, B2, G⟩
    have O := own_below O G
    have T := nxt T G
    obtain rfl : n2 = 4 := by have := B2.len; omega
    have hts := T.size
    clear G B1
    go_wp2_with ((with_reducible refine app_bys _ rfl (.tmp 9) (.tmp 14) rfl w.heap.size (.slice (some ⟨w.heap.size, 0, none⟩) 4 4) 4 (bvs markB) rfl O A2 4 c2 (packB (put2 b.length)) rfl B2 ?_ ?_ ?_); (omega); (omega); intro v3 w3 hown3 hgrow3 hwhere3; have T3 := T.grown hgrow3 hts (by intro g hg; simp [Value.ownBlock] at hg; omega); have hts := T3.size; have O3 := Lib.hid (And.intro hown3 T3); clear B2 O hown3 hgrow3 hwhere3 T3)
    refine (HSC.out _ (HBB.out.below O3.out.2)).mono ?_
    rintro e w4 ⟨A4, n4, c4, rfl, B4, G⟩
    have O4 := Lib.hid (own_below O3.out.1 G)
    have T4 := nxt O3.out.2 G
    clear G
    go_wp2_with (fail)
    refine (HPK.out _ _ _ _ _ B4).mono ?_
    rintro e w5 ⟨A5, n5, c5, rfl, B5, G⟩
    have O5 := Lib.hid (own_below O4.out G)
    have T5 := nxt T4 G
    clear G B4
    go_wp2_with (fail)
    refine (HW.out _ _ _ _ B5).mono ?_
    rintro e w6 ⟨A6, n6, c6, rfl, B6, G⟩
    have O6 := Lib.hid (own_below O5.out G)
    have T6 := nxt T5 G
    have h6 : n6 ≤ 2000 := by have := B6.len; omega
    have hts6 := T6.size
    clear G B5
    go_wp2_with ((with_reducible refine app_bys _ rfl (.tmp 16) (.tmp 20) rfl w.heap.size v3 (4 + 4) (bvs markB ++ bvs (packB (put2 b.length))) rfl O6.out A6 n6 c6 wv rfl B6 ?_ ?_ ?_); (omega); (omega); intro v7 w7 hown7 hgrow7 hwhere7; have T7 := T6.grown hgrow7 hts6 (fun g hg => (O6.out.lt g hg).1); have O7 := Lib.hid (And.intro hown7 T7); clear B6 hown7 hgrow7 hwhere7 T7)
    have hO7 := O7.out.1
    rw [HLB.out] at hO7
    obtain ⟨A7, c7, rfl⟩ := own_shape hO7
    have hts7 := O7.out.2.size
    refine (HPT.out _ _ _ _ (Bys.of_own hO7)).mono ?_
    rintro e w8 ⟨v8, rfl, hown8, T8⟩
    have HO8 := Lib.hid (hown8.down hts7)
    have T8 := nxt O7.out.2 T8
    clear hown8 hO7
    go_wp2
    go_ret2
    exact ⟨_, by rw [HSB.out]; rfl, by rw [HSB.out]; exact HO8.out, T8⟩
end Go.Proofs.YtkcpkfimmolkkaaDoor

/- What kedgeref12's Hear answers. -/
namespace Go.Proofs.YtkcpkfimmolkkaaDoor
open Go.RowKit
set_option maxRecDepth 20000

theorem halfN_cnt (x : Nat) : (halfN x).2.1 ≤ 8 := (halfN_lt x).2.1
theorem unpL_cnt (k : Nat) : ∀ (l : List UInt8) (o : List UInt8) (n : Nat), l.length ≤ 2 * k + 1 → unpL l = some (o, n) → n ≤ 16 * k ∧ o.length ≤ k := by
  induction k with
  | zero =>
    intro l o n hl h
    match l, hl with
    | [], _ => simp [unpL] at h; obtain ⟨rfl, rfl⟩ := h; simp
    | [a], _ => simp [unpL] at h; obtain ⟨rfl, rfl⟩ := h; simp
  | succ k ih =>
    intro l o n hl h
    match l, hl with
    | [], _ => simp [unpL] at h; obtain ⟨rfl, rfl⟩ := h; simp
    | [a], _ => simp [unpL] at h; obtain ⟨rfl, rfl⟩ := h; simp
    | x :: y :: r, hl =>
      simp only [unpL] at h
      split at h
      · cases hr : unpL r with
        | none => rw [hr] at h; cases h
        | some p =>
          obtain ⟨o', n'⟩ := p
          rw [hr] at h
          simp only [Option.map_some, Option.some.injEq, Prod.mk.injEq] at h
          obtain ⟨rfl, rfl⟩ := h
          have := ih r o' n' (by simp at hl; omega) hr
          have h1 := halfN_cnt x.toNat
          have h2 := halfN_cnt y.toNat
          simp only [List.length_cons]
          omega
      · cases h
theorem unpack_cnt (l : List UInt8) : (unpackB l).2.1 ≤ 100000 ∧ (unpackB l).1.length ≤ 8192 ∧ (l.length ≤ 16 → (unpackB l).1.length ≤ 8) := by
  unfold unpackB
  split
  · simp
  · split
    · simp
    · cases h : unpL l with
      | none => simp
      | some p =>
        obtain ⟨o, n⟩ := p
        have h1 := unpL_cnt (l.length / 2) l o n (by omega) h
        simp only
        refine ⟨by omega, by omega, fun _ => by omega⟩
theorem pk_out (l : List Int) : ∀ s : Pk, (l.foldl pkStep s).out.length ≤ s.out.length + l.length := by
  induction l with
  | nil => intro s; simp
  | cons k r ih =>
    intro s
    have := ih (pkStep s k)
    have h2 : (pkStep s k).out.length ≤ s.out.length + 1 := by unfold pkStep; split <;> simp
    rw [List.foldl_cons, List.length_cons]
    omega
theorem bytesB_len (l : List Pt) : (bytesB l).1.length ≤ l.length := by
  unfold bytesB
  split
  · simp
  · split
    · simp
    · split
      · simp
      · have := pk_out (stepsP l) ⟨[], 0, 0⟩
        have h2 := stepsP_len l
        unfold pkRun
        simp only [List.length_nil] at this
        simp only
        omega
theorem Ps.take {w : World} {A : Option Addr} {n c : Nat} {l : List Pt} (h : Ps w A n c l) (m : Nat) (hm : m ≤ n) : Ps w A m c (l.take m) := by
  obtain ⟨h1, h2, h3, h4⟩ := h
  refine ⟨by simp; omega, by omega, h3, fun hn => ?_⟩
  obtain ⟨b, o, e, hb, hc⟩ := h4 (by omega)
  refine ⟨b, o, e, hb, fun j hj => ?_⟩
  have hj' : j < l.length := by simp at hj; omega
  rw [List.getElem_take]
  exact hc j hj'
/-- a call's end that tells what is heard -/
def GivesHr (w : World) (l : List Pt) (e : Ending) (w' : World) : Prop :=
  ∃ r A n c, HearR l r ∧ e = .returned (.tuple #[.slice A n c, .int .i64 (r.2.1 : Int), .int .i64 (r.2.2 : Int)]) ∧ Bys w' A n c r.1 ∧ Below w.heap.size w w'
theorem near_unit : ∀ p ∈ markP, Near p := fun p hp => (uni_points markB p hp).near
theorem mark_len : markP.length = 17 := by decide +kernel
set_option maxHeartbeats 8000000 in
theorem rhear_any (A : Option Addr) (n c : Nat) (l : List Pt) (w : World) (hP : Ps w A n c l) (hn : n ≤ 2000) :
    Calls Tryd.prog 17 #[.slice A n c] w (GivesHr w l) := by
  obtain rfl := hP.len
  have d1 : decide ((16384 : Int) < (l.length : Int)) = false := by simp; omega
  have HSL := Lib.hid (rsliced_any A l.length c l w hP (by omega))
  have HMK := Lib.hid (fun W => rmark_any W)
  have HFD := Lib.hid (fun A n c W B m d (h : Ps W A n c (slicedB l)) (k : Ps W B m d markP) => rfind_big A n c (slicedB l) B m d markP W h k near_unit (by have := k.len; have := mark_len; omega) (by have := h.len; have := sliced_len l; omega))
  have HLS : Hid ((slicedB l).length = l.length) := sliced_len l
  have HHR : Hid (∀ a t ok r, FindR (slicedB l) markP a t ok → (r = if ok = true then heardB (slicedB l) a else ([], 0, 120)) → HearR l r) := fun a t ok r h1 h2 => .inr ⟨by omega, a, t, ok, h1, h2⟩
  clear hP
  generalize slicedB l = x at *
  go_enter Tryd.func17, Tryd.ntmps17
  go_wp2_with (fail)
  refine HSL.out.mono ?_
  rintro e w1 ⟨v1, rfl, hown1, T1⟩
  obtain ⟨A1, c1, rfl, hp1⟩ := hown1.shape
  have HP1 := Lib.hid hp1
  clear hown1 hp1
  go_wp2_with (fail)
  refine (HMK.out _).mono ?_
  rintro e w2 ⟨v2, rfl, hown2, T2⟩
  obtain ⟨A2, c2, rfl, hp2⟩ := hown2.shape
  have HP1 := Lib.hid (HP1.out.below T2)
  have HP2 := Lib.hid hp2
  have T2 := nxt T1 T2
  clear hown2 hp2
  go_wp2_with (fail)
  refine (HFD.out _ _ _ _ _ _ _ HP1.out HP2.out).mono ?_
  rintro e w3 ⟨a, t, ok, rfl, hf, T3⟩
  have HP1 := Lib.hid (HP1.out.below T3)
  have T3 := nxt T2 T3
  cases ok with
  | false =>
    have HR := Lib.hid (HHR.out a t false ([], 0, 120) hf rfl)
    clear hf
    go_wp2
    go_ret3
    exact ⟨_, _, _, _, HR.out, rfl, Bys.nil _, T3⟩
  | true =>
    have hfa : a + 17 ≤ x.length := by
      have := mark_len
      rcases hf with ⟨_, _, h, _⟩ | ⟨h, _⟩
      · omega
      · cases h
    have HH : Hid (∀ r, r = heardB x a → HearR l r) := fun r h => HHR.out a t true r hf (by rw [if_pos rfl]; exact h)
    have hxn : x.length ≤ 2000 := by have := HLS.out; omega
    have hxc := HP1.out.le
    have hxm := HP1.out.cap
    clear hf
    by_cases e1 : x.length - a < 33
    · have d2 : decide ((x.length : Int) - (a : Int) < 33) = true := by simp; omega
      have HR := Lib.hid (HH.out _ (heard_e1 e1).symm)
      go_wp2
      go_ret3
      exact ⟨_, _, _, _, HR.out, rfl, Bys.nil _, T3⟩
    · have d2 : decide ((x.length : Int) - (a : Int) < 33) = false := by simp; omega
      obtain ⟨g, o, rfl, hg, -⟩ := HP1.out.at_ (by omega)
      have e33 : a + 33 ≤ x.length := by omega
      go_wp2_with (fail)
      have HB1 : Hid (Calls Tryd.prog 44 #[.slice (some ⟨g, o + (a + 16) * 2, none⟩) 17 (c1 - (a + 16))] w3 (GivesT w3 (hdH x a))) := rbytes_any _ _ _ _ w3 ((HP1.out.drop (a + 16) (by omega)).take 17 (by omega))
      refine HB1.out.mono ?_
      rintro e w4 ⟨A4, n4, c4, rfl, B4, T4⟩
      have HP1 := Lib.hid (HP1.out.below T4)
      have T4 := nxt T3 T4
      have HUN := Lib.hid (runpack_any A4 n4 c4 _ w4 B4)
      clear B4
      obtain ⟨q2, hq2⟩ : ∃ q, (hdH x a).2 = q := ⟨_, rfl⟩
      have HQ2 := Lib.hid hq2
      by_cases e2 : ¬ q2 = 0
      · have d3 : (q2 != 0) = true := by simpa using e2
        have HR := Lib.hid (HH.out _ (heard_e2 e1 (by rw [HQ2.out]; exact e2)).symm)
        clear e2
        rw [hq2]
        clear hq2
        go_wp2
        go_ret3
        exact ⟨_, _, _, _, HR.out, rfl, Bys.nil _, T4⟩
      · have HE2 : Hid (¬ (hdH x a).2 ≠ 0) := by show ¬ _; rw [HQ2.out]; exact e2
        obtain rfl : q2 = 0 := Classical.not_not.1 e2
        rw [hq2]
        clear hq2
        go_wp2_with (fail)
        refine HUN.out.mono ?_
        rintro e w5 ⟨A5, n5, c5, rfl, B5, T5⟩
        have T5' := T5
        have HP1 := Lib.hid (HP1.out.below T5)
        have T5 := nxt T4 T5
        have hcnt := unpack_cnt (hdH x a).1
        have hl5 := B5.len
        obtain ⟨u, hu⟩ : ∃ u, unpackB (hdH x a).1 = u := ⟨_, rfl⟩
        have HU : Hid (hdU x a = u) := hu
        rw [hu] at hcnt hl5 B5 ⊢
        obtain ⟨u1, um, ue⟩ := u
        simp only at hcnt hl5 B5 ⊢
        have HB5 := Lib.hid B5
        clear B5 hu T5' HUN
        have HN : Hid (hdN x a = numB u1) := by show _ = _; unfold hdN; rw [HU.out]; rfl
        have HNU := Lib.hid (fun W (h : Bys W A5 n5 c5 u1) => rnumber_any A5 n5 c5 u1 W h)
        by_cases e3 : ¬ ue = 0
        · have d3 : ((ue : Int) != 0) = true := by simp; omega
          have HR := Lib.hid (HH.out _ (heard_e3 e1 HE2.out (.inl (by rw [HU.out]; exact e3))).symm)
          clear e3
          go_wp2
          go_ret3
          exact ⟨_, _, _, _, HR.out, rfl, Bys.nil _, T5⟩
        · obtain rfl : ue = 0 := Classical.not_not.1 e3
          have d3 : (((0 : Nat) : Int) != 0) = false := rfl
          generalize numB u1 = N at *
          have HUB := Lib.hid hcnt
          have hum : um ≤ 100000 := hcnt.1
          clear e3 hcnt
          by_cases e3 : 512 < N
          · have d4 : decide ((512 : Int) < (N : Int)) = true := by simp; omega
            have HR := Lib.hid (HH.out _ (heard_e3 e1 HE2.out (.inr (by rw [HN.out]; exact e3))).symm)
            go_wp2_with (fail)
            refine (HNU.out _ HB5.out).mono ?_
            rintro e w6 ⟨rfl, hw⟩
            obtain rfl := hw
            go_wp2
            go_ret3
            exact ⟨_, _, _, _, HR.out, rfl, Bys.nil _, T5⟩
          · have d4 : decide ((512 : Int) < (N : Int)) = false := by simp; omega
            have HE3 : Hid (¬ ((hdU x a).2.2 ≠ 0 ∨ 512 < hdN x a)) := by show ¬ _; rw [HU.out, HN.out]; simp only; omega
            have hcv : IntKind.i64.wrap (N : Int) = (N : Int) := IntWalk.i64_in _ (by omega)
            have HLG : Hid (∀ W, Calls Tryd.prog 13 #[.int .i64 (N : Int)] W fun e w' => e = .returned (.int .i64 (33 + 8 * (N : Int))) ∧ W = w') := fun W => by
              have h := rlong_any (N : Int) W (by omega)
              rw [show longI (N : Int) = 33 + 8 * (N : Int) by unfold longI; rw [if_neg (by omega)]] at h
              exact h
            go_wp2_with (fail)
            refine (HNU.out _ HB5.out).mono ?_
            rintro e w6 ⟨rfl, hw⟩
            obtain rfl := hw
            go_wp2_with (fail)
            refine (HNU.out _ HB5.out).mono ?_
            rintro e w6 ⟨rfl, hw⟩
            obtain rfl := hw
            go_wp2_with (fail)
            refine (HLG.out _).mono ?_
            rintro e w6 ⟨rfl, rfl⟩
            by_cases e4 : x.length - a < 33 + 8 * N
            · have d5 : decide ((x.length : Int) - (a : Int) < 33 + 8 * (N : Int)) = true := by simp; omega
              have HR := Lib.hid (HH.out _ (heard_e4 e1 HE2.out HE3.out (by rw [HN.out]; exact e4)).symm)
              go_wp2
              go_ret3
              exact ⟨_, _, _, _, HR.out, rfl, Bys.nil _, T5⟩
            · have d5 : decide ((x.length : Int) - (a : Int) < 33 + 8 * (N : Int)) = false := by simp; omega
              have HE4 : Hid (¬ x.length - a < 33 + 8 * hdN x a) := by show ¬ _; rw [HN.out]; exact e4
              have e34 : a + 33 + 8 * N ≤ x.length := by omega
              go_wp2_with (fail)
              rw [show a + (33 + 8 * N) - (a + 32) = 8 * N + 1 by omega]
              have HB2 : Hid (Calls Tryd.prog 44 #[.slice (some ⟨g, o + (a + 32) * 2, none⟩) (8 * N + 1) (c1 - (a + 32))] w6 (GivesT w6 (hdC x a))) := by
                show Calls _ _ _ _ _
                unfold hdC
                rw [HN.out]
                exact rbytes_any _ _ _ _ w6 ((HP1.out.drop (a + 32) (by omega)).take (8 * N + 1) (by omega))
              have HCL : Hid ((hdC x a).1.length ≤ 5000) := by
                show _ ≤ _
                have := bytesB_len ((x.drop (a + 32)).take (8 * hdN x a + 1))
                have h2 := HN.out
                unfold hdC
                rw [List.length_take] at this
                omega
              refine HB2.out.mono ?_
              rintro e w7 ⟨A7, n7, c7, rfl, B7, T7⟩
              have T7 := nxt T5 T7
              have HB7 := Lib.hid B7
              have hn7 : n7 ≤ 5000 := by have := HCL.out; have := B7.len; omega
              clear B7
              obtain ⟨q7, hq7⟩ : ∃ q, (hdC x a).2 = q := ⟨_, rfl⟩
              have HQ7 := Lib.hid hq7
              rw [hq7]
              clear hq7
              by_cases e5 : ¬ q7 = 0
              · have d6 : (q7 != 0) = true := by simpa using e5
                have HR := Lib.hid (HH.out _ (heard_e5 e1 HE2.out HE3.out HE4.out (by rw [HQ7.out]; exact e5)).symm)
                clear e5
                go_wp2
                go_ret3
                exact ⟨_, _, _, _, HR.out, rfl, Bys.nil _, T7⟩
              · have HE5 : Hid (¬ (hdC x a).2 ≠ 0) := by show ¬ _; rw [HQ7.out]; exact e5
                obtain rfl : q7 = 0 := Classical.not_not.1 e5
                have HUW := Lib.hid (runweave_any A7 n7 c7 _ 8 w7 HB7.out (by omega))
                clear e5
                go_wp2_with (fail)
                refine HUW.out.mono ?_
                rintro e w8 ⟨A8, n8, c8, rfl, B8, T8⟩
                have T8 := nxt T7 T8
                have HUN2 := Lib.hid (runpack_any A8 n8 c8 _ w8 B8)
                clear B8
                go_wp2_with (fail)
                refine HUN2.out.mono ?_
                rintro e w9 ⟨A9, n9, c9, rfl, B9, T9⟩
                have T9 := nxt T8 T9
                have hcnt2 := unpack_cnt (unweaveB (hdC x a).1 8)
                obtain ⟨v, hv⟩ : ∃ v, unpackB (unweaveB (hdC x a).1 8) = v := ⟨_, rfl⟩
                have HV : Hid (hdV x a = v) := hv
                have hl9 := B9.len
                rw [hv] at hcnt2 B9 hl9 ⊢
                obtain ⟨v1, vm, ve⟩ := v
                simp only at hcnt2 B9 hl9 ⊢
                have HB9 := Lib.hid B9
                have hvm : vm ≤ 100000 := hcnt2.1
                have hn9 : n9 ≤ 8192 := by omega
                clear B9 hv HUN2 hcnt2 hl9
                by_cases e6 : ¬ ve = 0
                · have d7 : ((ve : Int) != 0) = true := by simp; omega
                  have HR := Lib.hid (HH.out _ (heard_e6 e1 HE2.out HE3.out HE4.out HE5.out (by rw [HV.out]; exact e6)).symm)
                  clear e6
                  go_wp2
                  go_ret3
                  exact ⟨_, _, _, _, HR.out, rfl, Bys.nil _, T9⟩
                · have HE6 : Hid (¬ (hdV x a).2.2 ≠ 0) := by show ¬ _; rw [HV.out]; exact e6
                  obtain rfl : ve = 0 := Classical.not_not.1 e6
                  have d7 : (((0 : Nat) : Int) != 0) = false := rfl
                  have HR := Lib.hid (HH.out _ (heard_ok e1 HE2.out HE3.out HE4.out HE5.out HE6.out).symm)
                  have HSC := Lib.hid (rscr_any 17217 A9 n9 c9 v1 w9 HB9.out (by omega))
                  clear e6
                  go_wp2_with (fail)
                  refine HSC.out.mono ?_
                  rintro e w10 ⟨A10, n10, c10, rfl, B10, T10⟩
                  have HB10 := Lib.hid B10
                  have T10 := nxt T9 T10
                  clear B10
                  go_wp2
                  go_ret3
                  have hr := HR.out
                  rw [HU.out, HV.out] at hr
                  exact ⟨_, _, _, _, hr, rfl, HB10.out, T10⟩
end Go.Proofs.YtkcpkfimmolkkaaDoor
