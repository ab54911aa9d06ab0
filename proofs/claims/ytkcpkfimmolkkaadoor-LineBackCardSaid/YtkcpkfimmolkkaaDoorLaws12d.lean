/- The walks of layer 12's statements, over the contracts of phase and line: Back. -/
import Derived.Test.YtkcpkfimmolkkaaDoorLaws12
import Derived.Test.YtkcpkfimmolkkaaDoorPhs
import Derived.Test.YtkcpkfimmolkkaaDoorPtP
import Derived.WalkLawsBesides
import Derived.Deep.QuietTactic
import Derived.BigQuiet
namespace Go.Proofs.YtkcpkfimmolkkaaDoor
open Go.RowKit
set_option maxRecDepth 20000

theorem uni_tame {l : List Pt} (h : ∀ p ∈ l, Uni p) : Tame l := fun p hp => by have := h p hp; unfold Uni at this; omega
/-- where the mark was sent it stands -/
theorem sent_stands (b : List UInt8) (noise : List Pt) (k : Int) (h : b.length ≤ 512) (a t : Nat) (ok : Bool) (hf : FindR (slicedB (noise ++ turnB (pointsB (lineB b)) k)) markP a t ok) : ok = true := by
  have hpl := line_points b h
  have hmk := mark_len
  have htl : (turnB (pointsB (lineB b)) k).length = 33 + 8 * b.length := by unfold turnB; rw [List.length_map, hpl]
  have hsl : slicedB (turnB (pointsB (lineB b)) k) = turnB (pointsB (lineB b)) k := sliced_uni _ (uni_turn _ _ (uni_points _))
  rcases hf with ⟨h1, _⟩ | ⟨_, _, _, h2⟩
  · exact h1
  · exfalso
    rcases h2 with h2 | h2
    · omega
    · refine h2 noise.length (by rw [sliced_len, List.length_append, htl]; omega) (rest4 k) (rest4_lt k) ?_
      unfold St
      rw [sliced_append, hsl, List.drop_left' (sliced_len noise), hmk]
      have e : (turnB (pointsB (lineB b)) k).take 17 = turnB markP k := by unfold turnB; rw [← List.map_take, line_mark b h]
      rw [e]
      exact turnB_mod _ _ _ (by rw [rest4_cast]; omega)
set_option maxHeartbeats 8000000 in
theorem walk_LineBack {Tab : World → Prop} (D : PhC) (C : LiC Tab) (A : Option Addr) (n c : Nat) (b : List UInt8) (A2 : Option Addr) (n2 c2 : Nat) (noise : List Pt) (A3 : Option Addr) (n3 c3 : Nat) (tail : List Pt) (k : Int) (w : World) (hT : Tab w)
    (hB : Bys w A n c b) (hP2 : Ps w A2 n2 c2 noise) (hP3 : Ps w A3 n3 c3 tail) (hk : In12 k) :
    Calls Tryd.prog 5 #[.agg #[.slice A n c, .slice A2 n2 c2, .slice A3 n3 c3, .int .i64 k]] w fun e w' => e = .returned (.bool true) ∧ Below w.heap.size w w' := by
  have HLV := Lib.hid (fun W (T : Below w.heap.size w W) => live12_any C W (C.keep _ _ hT T))
  have TB : Below w.heap.size w (w.alloc (.cells #[.slice A n c, .slice A2 n2 c2, .slice A3 n3 c3, .int .i64 k] 45)) := (Below.refl _ _).alloc (Nat.le_refl _) _
  by_cases h1 : 60 < n
  · have d1 : decide ((60 : Int) < (n : Int)) = true := by simp; omega
    go_enter Tryd.func5, Tryd.ntmps5
    go_wp2_with (fail)
    go_quiet (fail)
    have T0 := below_drewN' TB nq
    go_wp2_with (fail)
    refine (HLV.out _ T0).mono ?_
    rintro e w9 ⟨rfl, T9⟩
    have T9 := nxt T0 T9
    go_wp2
    go_ret
    exact ⟨rfl, T9⟩
  · have d1 : decide ((60 : Int) < (n : Int)) = false := by simp; omega
    by_cases h2 : 60 < n2
    · have d2 : decide ((60 : Int) < (n2 : Int)) = true := by simp; omega
      go_enter Tryd.func5, Tryd.ntmps5
      go_wp2_with (fail)
      go_quiet (fail)
      have T0 := below_drewN' TB nq
      go_wp2_with (fail)
      refine (HLV.out _ T0).mono ?_
      rintro e w9 ⟨rfl, T9⟩
      have T9 := nxt T0 T9
      go_wp2
      go_ret
      exact ⟨rfl, T9⟩
    · have d2 : decide ((60 : Int) < (n2 : Int)) = false := by simp; omega
      by_cases h3 : 60 < n3
      · have d3 : decide ((60 : Int) < (n3 : Int)) = true := by simp; omega
        go_enter Tryd.func5, Tryd.ntmps5
        go_wp2_with (fail)
        go_quiet (fail)
        have T0 := below_drewN' TB nq
        go_wp2_with (fail)
        refine (HLV.out _ T0).mono ?_
        rintro e w9 ⟨rfl, T9⟩
        have T9 := nxt T0 T9
        go_wp2
        go_ret
        exact ⟨rfl, T9⟩
      · have d3 : decide ((60 : Int) < (n3 : Int)) = false := by simp; omega
        have HSM2 := Lib.hid (fun W (T : Below w.heap.size w W) => small_any A2 n2 c2 noise W (hP2.below T))
        have HSM3 := Lib.hid (fun W (T : Below w.heap.size w W) => small_any A3 n3 c3 tail W (hP3.below T))
        have HS := Lib.hid (fun W (T : Below w.heap.size w W) => C.send A n c b W (hB.below T) (by omega) (C.keep _ _ hT T))
        have HRS := Lib.hid (fun W (T : Below w.heap.size w W) => rsend_any A n c b W (hB.below T) (by omega))
        have HOF2 := Lib.hid (fun W (T : Below w.heap.size w W) (hM : ∀ p ∈ noise, Low p) => lof_any D A2 n2 c2 noise W (hP2.below T) (by omega) (fun p hp => by have := hM p hp; unfold Low at this; unfold Mid; omega))
        have HOF3 := Lib.hid (fun W (T : Below w.heap.size w W) (hM : ∀ p ∈ tail, Low p) => lof_any D A3 n3 c3 tail W (hP3.below T) (by omega) (fun p hp => by have := hM p hp; unfold Low at this; unfold Mid; omega))
        have HHE := Lib.hid (fun A n c l W (T : Below w.heap.size w W) h k => C.hear A n c l W h k (C.keep _ _ hT T))
        have HNM := Lib.hid num12_any
        have HMK := Lib.hid rmark_any
        have HFD : Hid (∀ A n c W B m d (x : List Pt), Ps W A n c x → Ps W B m d markP → n ≤ 100000 → Calls Tryd.prog 20 #[.slice A n c, .slice B m d] W (GivesFd W x markP)) := fun A n c W B m d x h k h3 => rfind_big A n c x B m d markP W h k near_unit (by have := k.len; have := mark_len; omega) h3
        have hbl := hB.len
        have hpl := line_points b (by omega)
        have hs : sendB b = (pointsB (lineB b), 0) := by unfold sendB; rw [if_neg (by omega)]
        have HUN := Lib.hid (uni_points (lineB b))
        have HST := Lib.hid (fun a t ok => sent_stands b noise k (by omega) a t ok)
        have HLB := Lib.hid (fun t hl => line_back b (by omega) noise tail k t hl)
        have HTL : Hid ((turnB (pointsB (lineB b)) k).length = 33 + 8 * n) := by show _ = _; unfold turnB; rw [List.length_map, hpl, hbl]
        have HP2 := Lib.hid hP2
        have HP3 := Lib.hid hP3
        have HBB := Lib.hid hB
        have HK := Lib.hid hk
        have hl2 : noise.length ≤ 60 := by have := hP2.len; omega
        have hl3 : tail.length ≤ 60 := by have := hP3.len; omega
        have HL2 := Lib.hid hP2.len
        rw [hs] at HS HRS
        rw [hbl] at hpl
        generalize pointsB (lineB b) = L at *
        have HPL := Lib.hid hpl
        have hln : L.length ≤ 513 := by omega
        clear hs hpl hbl hB hP2 hP3 hk
        go_enter Tryd.func5, Tryd.ntmps5
        go_wp2_with (fail)
        go_quiet (fail)
        have T0 := below_drewN' TB nq
        generalize ((w.alloc (.cells #[.slice A n c, .slice A2 n2 c2, .slice A3 n3 c3, .int .i64 k] 45)).drewN nq) = w0 at *
        clear TB
        go_wp2_with (fail)
        refine (HSM2.out _ T0).mono ?_
        rintro e w1 ⟨r, rfl, hr, rfl⟩
        cases r with
        | false =>
          clear hr
          go_wp2_with (fail)
          refine (HLV.out _ T0).mono ?_
          rintro e w9 ⟨rfl, T9⟩
          have T9 := nxt T0 T9
          go_wp2
          go_ret
          exact ⟨rfl, T9⟩
        | true =>
          have HW2 := Lib.hid (hr rfl).2
          clear hr
          go_wp2_with (fail)
          refine (HSM3.out _ T0).mono ?_
          rintro e w1 ⟨r, rfl, hr, rfl⟩
          cases r with
          | false =>
            clear hr
            go_wp2_with (fail)
            refine (HLV.out _ T0).mono ?_
            rintro e w9 ⟨rfl, T9⟩
            have T9 := nxt T0 T9
            go_wp2
            go_ret
            exact ⟨rfl, T9⟩
          | true =>
            have HW3 := Lib.hid (hr rfl).2
            clear hr
            go_wp2_with (fail)
            refine (HS.out _ T0).mono ?_
            rintro e w1 ⟨v1, rfl, hown1, T1⟩
            obtain ⟨A1, c1, rfl, hcs1⟩ := hown1.shape
            have HC1 := Lib.hid hcs1
            have T1 := nxt T0 T1
            simp only
            clear hown1 hcs1
            go_wp2_with (fail)
            refine (HNM.out _ _).mono ?_
            rintro e w2 ⟨rfl, rfl⟩
            go_wp2_with (fail)
            refine (HOF2.out _ T1 HW2.out).mono ?_
            rintro e w2 ⟨v2, rfl, hown2, T2⟩
            have HO2 := Lib.hid (hown2.down T1.size)
            have HC1 := Lib.hid (HC1.out.below T2)
            have T2 := nxt T1 T2
            clear hown2
            go_wp2_with (fail)
            refine (D.turn A1 L.length c1 L k _ HC1.out (by omega) (fun p hp => uni_mid (HUN.out p hp)) HK.out).mono ?_
            rintro e w3 ⟨v3, rfl, hown3, T3⟩
            obtain ⟨A3', c3', rfl, hcs3⟩ := hown3.shape
            have HO2 := Lib.hid (HO2.out.below T3)
            have HC3 := Lib.hid hcs3
            have T3 := nxt T2 T3
            have htl3 : (turnB L k).length ≤ 600 := by have := HTL.out; omega
            have hts3 := T3.size
            clear hown3 hcs3
            go_wp2_with ((with_reducible refine app_cxs _ rfl (.tmp 59) (.tmp 62) rfl w.heap.size v2 noise rfl HO2.out A3' (turnB L k).length c3' (turnB L k) rfl HC3.out ?_ ?_ ?_); (omega); (omega); intro v4 w4 hown4 hgrow4 hwhere4; have T4 := T3.grown hgrow4 hts3 (fun g hg => (HO2.out.lt g hg).1); have HO4 := Lib.hid (And.intro hown4 T4); clear hown4 hgrow4 hwhere4 T4)
            have hts4 := HO4.out.2.size
            refine (HOF3.out _ HO4.out.2 HW3.out).mono ?_
            rintro e w5 ⟨v5, rfl, hown5, T5⟩
            obtain ⟨A5, c5, rfl, hcs5⟩ := hown5.shape
            have HO5 := Lib.hid (HO4.out.1.below T5)
            have HC5 := Lib.hid hcs5
            have T5 := nxt HO4.out.2 T5
            have hts5 := T5.size
            have hln5 : (noise ++ turnB L k).length ≤ 660 := by rw [List.length_append]; omega
            clear hown5 hcs5
            go_wp2_with ((with_reducible refine app_cxs _ rfl (.tmp 63) (.tmp 65) rfl w.heap.size v4 (noise ++ turnB L k) rfl HO5.out A5 tail.length c5 tail rfl HC5.out ?_ ?_ ?_); (omega); (omega); intro v6 w6 hown6 hgrow6 hwhere6; have T6 := T5.grown hgrow6 hts5 (fun g hg => (HO5.out.lt g hg).1); have HO6 := Lib.hid (And.intro hown6 T6); clear hown6 hgrow6 hwhere6 T6)
            refine (HRS.out _ HO6.out.2).mono ?_
            rintro e w7 ⟨v7, rfl, hown7, T7⟩
            obtain ⟨A7, c7, rfl, hps7⟩ := hown7.shape
            have HO6' := Lib.hid (HO6.out.1.below T7)
            have HP7 := Lib.hid hps7
            have T7 := nxt HO6.out.2 T7
            have hts7 := T7.size
            simp only
            clear hown7 hps7
            have HE7 := Lib.hid (OwnP.empty w7 w7.heap.size (Nat.le_refl _))
            have HN7 := Lib.hid (HP2.out.below (T7.alloc hts7 (.cells #[] 37)))
            go_wp2_with ((with_reducible refine app_pts _ rfl (.tmp 73) (.tmp 74) rfl w7.heap.size (.slice (some ⟨w7.heap.size, 0, none⟩) 0 0) [] rfl HE7.out A2 n2 c2 noise rfl HN7.out ?_ ?_ ?_); (simp; omega); (simp); intro v8 w8 hown8 hgrow8 hwhere8; have T78 := ((Below.refl w7.heap.size w7).alloc (Nat.le_refl _) (.cells #[] 37)).grown hgrow8 (by simp) (by intro g hg; simp [Value.ownBlock] at hg; omega); have HO8 := Lib.hid (And.intro hown8 T78); clear hown8 hgrow8 hwhere8 T78)
            have HP8 := Lib.hid (HP7.out.below HO8.out.2)
            refine (rturn_any A7 L.length c7 L k _ HP8.out (by omega) (uni_tame HUN.out)).mono ?_
            rintro e w9 ⟨v9, rfl, hown9, T9⟩
            obtain ⟨A9, c9, rfl, hps9⟩ := hown9.shape
            have HO9 := Lib.hid (HO8.out.1.below T9)
            have HP9 := Lib.hid hps9
            have K9 := nxt HO8.out.2 T9
            have hks9 := K9.size
            clear hown9 hps9 T9
            go_wp2_with ((with_reducible refine app_pts _ rfl (.tmp 75) (.tmp 78) rfl w7.heap.size v8 ([] ++ noise) rfl HO9.out A9 (turnB L k).length c9 (turnB L k) rfl HP9.out ?_ ?_ ?_); (simp; omega); (omega); intro v10 w10 hown10 hgrow10 hwhere10; have K10 := K9.grown hgrow10 hks9 (fun g hg => (HO9.out.lt g hg).1); have HO10 := Lib.hid (And.intro hown10 K10); clear hown10 hgrow10 hwhere10 K10)
            have hO10 := HO10.out.1
            rw [List.nil_append] at hO10
            obtain ⟨A10, c10, rfl, hps10⟩ := hO10.shape
            have HP10 := Lib.hid hps10
            have HA10 := Lib.hid (HO6'.out.below HO10.out.2)
            have T10 := nxt T7 HO10.out.2
            have hln10 : (noise ++ turnB L k).length ≤ 660 := by rw [List.length_append]; omega
            clear hO10 hps10 K9
            refine (rsliced_any A10 _ c10 _ _ HP10.out (by omega)).mono ?_
            rintro e w11 ⟨v11, rfl, hown11, T11⟩
            obtain ⟨A11, c11, rfl, hps11⟩ := hown11.shape
            obtain ⟨N, hN⟩ : ∃ N, (noise ++ turnB L k).length = N := ⟨_, rfl⟩
            have hNl : N ≤ 660 := by omega
            rw [sliced_len, hN] at hps11 ⊢
            clear hN
            have HP11 := Lib.hid hps11
            have HA11 := Lib.hid (HA10.out.below T11)
            have T11 := nxt T10 T11
            clear hown11 hps11
            go_wp2_with (fail)
            refine (HMK.out _).mono ?_
            rintro e w12 ⟨v12, rfl, hown12, T12⟩
            obtain ⟨A12, c12, rfl, hps12⟩ := hown12.shape
            have HP12 := Lib.hid hps12
            have HP11 := Lib.hid (HP11.out.below T12)
            have HA12 := Lib.hid (HA11.out.below T12)
            have T12 := nxt T11 T12
            clear hown12 hps12
            go_wp2_with (fail)
            refine (HFD.out A11 _ c11 _ A12 _ c12 _ HP11.out HP12.out (Nat.le_trans hNl (by decide))).mono ?_
            rintro e w13 ⟨a, t, ok, rfl, hf, T13⟩
            have HA13 := Lib.hid (HA12.out.below T13)
            have T13 := nxt T12 T13
            obtain rfl := HST.out a t ok hf
            have HF := Lib.hid hf
            clear hf
            by_cases hat : a = noise.length
            · subst hat
              have e1 : ((noise.length : Int) != (n2 : Int)) = false := by have := HL2.out; simp; omega
              have HH := Lib.hid (HLB.out t (by rw [List.length_append]; omega) HF.out)
              obtain ⟨A14, c14, hv, hcs14⟩ := HA13.out.shape
              subst hv
              obtain ⟨M, hM⟩ : ∃ M, (noise ++ turnB L k ++ tail).length = M := ⟨_, rfl⟩
              rw [hM] at hcs14 ⊢
              have HC14 := Lib.hid hcs14
              have hln14 : M ≤ 1000 := by rw [← hM, List.length_append]; omega
              clear hcs14 hM
              go_wp2_with (fail)
              refine (HHE.out _ _ _ _ _ T13 HC14.out hln14).mono ?_
              rintro e w15 ⟨r, A15, n15, c15, hr, rfl, hB15, T15⟩
              obtain rfl := hr.unique HH.out
              have HB15 := Lib.hid hB15
              have T15 := nxt T13 T15
              clear hr hB15
              go_wp2_with (fail)
              refine (HNM.out _ _).mono ?_
              rintro e w16 ⟨rfl, rfl⟩
              go_wp2_with (fail)
              refine (same_true A15 A n15 c15 n c b _ HB15.out (HBB.out.below T15)).mono ?_
              rintro e w17 ⟨rfl, T17⟩
              have T17 := nxt T15 T17
              go_wp2_with (fail)
              refine (HLV.out _ T17).mono ?_
              rintro e w18 ⟨rfl, T18⟩
              have T18 := nxt T17 T18
              go_wp2
              go_ret
              exact ⟨rfl, T18⟩
            · have e1 : ((a : Int) != (n2 : Int)) = true := by have := HL2.out; simp; omega
              go_wp2_with (fail)
              refine (HLV.out _ T13).mono ?_
              rintro e w18 ⟨rfl, T18⟩
              have T18 := nxt T13 T18
              go_wp2
              go_ret
              exact ⟨rfl, T18⟩
end Go.Proofs.YtkcpkfimmolkkaaDoor
