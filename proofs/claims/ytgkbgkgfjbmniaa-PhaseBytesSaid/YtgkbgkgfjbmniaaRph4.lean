/- What kedgeref07's Bytes answers. -/
import Derived.Test.YtgkbgkgfjbmniaaRph3
namespace Go.Proofs.Ytgkbgkgfjbmniaa
open Go.RowKit

/-- A call's end that makes a []byte and tells a number beside it. -/
def GivesT (w : World) (r : List UInt8 × Int) (e : Ending) (w' : World) : Prop :=
  ∃ A n c, e = .returned (.tuple #[.slice A n c, .int .i64 r.2]) ∧ Bys w' A n c r.1 ∧ Below w.heap.size w w'
theorem bytesB_long {l : List Pt} (h : 16385 < l.length) : bytesB l = ([], 2) := by unfold bytesB; rw [if_pos h]
theorem bytesB_form {l : List Pt} (h : ¬ 16385 < l.length) (h2 : l.length % 4 ≠ 1 ∨ kindI (l.getD 0 (0, 0)) < 0) : bytesB l = ([], 70) := by unfold bytesB; rw [if_neg h, if_pos h2]
theorem bytesB_step {l : List Pt} (h : ¬ 16385 < l.length) (h2 : ¬ (l.length % 4 ≠ 1 ∨ kindI (l.getD 0 (0, 0)) < 0)) (i : Nat) (h0 : 0 < i) (hi : i < l.length) (hs : stepI (l[i - 1]'(by omega)) l[i] < 0) : bytesB l = ([], 70) := by
  unfold bytesB
  rw [if_neg h, if_neg h2, if_pos]
  have e := stepsP_take l i h0 hi
  have hsub : ∀ k ∈ stepsP (l.take (i + 1)), k ∈ stepsP l := by
    have key : ∀ (l : List Pt) (m : Nat), ∀ k ∈ stepsP (l.take m), k ∈ stepsP l := by
      intro l
      induction l with
      | nil => intro m k hk; simpa using hk
      | cons a r ih =>
        intro m k hk
        match m, r with
        | 0, _ => simp [stepsP] at hk
        | m + 1, [] => simpa using hk
        | 1, b :: r => simp [stepsP] at hk
        | m + 2, b :: r =>
          simp only [List.take_succ_cons, stepsP, List.mem_cons] at hk ⊢
          rcases hk with hk | hk
          · exact .inl hk
          · exact .inr (ih (m + 1) k (by simpa using hk))
    exact key l (i + 1)
  exact ⟨_, hsub _ (by rw [e]; simp), hs⟩
theorem bytesB_ok {l : List Pt} (h : ¬ 16385 < l.length) (h2 : ¬ (l.length % 4 ≠ 1 ∨ kindI (l.getD 0 (0, 0)) < 0)) (h3 : ∀ k ∈ stepsP l, 0 ≤ k) : bytesB l = ((pkRun (stepsP l)).out, 0) := by
  unfold bytesB
  rw [if_neg h, if_neg h2, if_neg (by rintro ⟨k, hk, h4⟩; have := h3 k hk; omega)]
theorem stepsP_le (l : List Pt) : ∀ k ∈ stepsP l, k ≤ 3 := by
  induction l with
  | nil => intro k hk; simp [stepsP] at hk
  | cons a r ih =>
    match r with
    | [] => intro k hk; simp [stepsP] at hk
    | b :: r =>
      intro k hk
      simp only [stepsP, List.mem_cons] at hk
      rcases hk with rfl | hk
      · exact (stepI_range a b).2
      · exact ih k hk
theorem pk_len (l : List Int) : ∀ s : Pk, (l.foldl pkStep s).out.length ≤ s.out.length + l.length := by
  induction l with
  | nil => intro s; simp
  | cons k r ih =>
    intro s
    rw [List.foldl_cons]
    have h1 := ih (pkStep s k)
    have h2 : (pkStep s k).out.length ≤ s.out.length + 1 := by unfold pkStep; split <;> simp
    simp only [List.length_cons]
    omega
theorem tmod_nat (i : Nat) : (i : Int).tmod 4 = ((i % 4 : Nat) : Int) := by rw [Int.tmod_eq_emod_of_nonneg (by omega)]; omega

set_option maxHeartbeats 4000000 in
theorem rbytes_any (A : Option Addr) (n c : Nat) (l : List Pt) (w : World) (hP : Ps w A n c l) :
    Calls Try.prog 23 #[.slice A n c] w (GivesT w (bytesB l)) := by
  obtain ⟨hl, hnc, hcm, hcell⟩ := hP
  unfold maxLen at hcm
  subst hl
  have HC := Lib.hid hcell
  clear hcell
  by_cases hbig : 16385 < l.length
  · have d : decide ((16385 : Int) < (l.length : Int)) = true := by simp; omega
    have HR := Lib.hid (bytesB_long hbig)
    clear hbig HC
    go_enter Try.func23, Try.ntmps23
    go_wp2
    go_ret2
    exact ⟨_, _, _, by rw [HR.out]; rfl, by rw [HR.out]; exact Bys.nil _, Below.refl _ _⟩
  · have d : decide ((16385 : Int) < (l.length : Int)) = false := by simp; omega
    by_cases hm : l.length % 4 = 1
    · have e1 : (((l.length : Int) % 4) != 1) = false := by simp; omega
      have h0l : 0 < l.length := by omega
      obtain ⟨g, o, rfl, hg, hc⟩ := HC.out (by omega)
      obtain ⟨p1, p2⟩ := hc 0 (by omega)
      simp only [Nat.zero_mul, Nat.add_zero] at p1 p2
      have hg0 : l.getD 0 (0, 0) = l[0]'h0l := by simp [List.getD_eq_getElem?_getD, List.getElem?_eq_getElem (show 0 < l.length by omega)]
      have HK := Lib.hid (fun W => kind_any (l[0]'h0l) W)
      by_cases hk : kindI (l[0]'h0l) < 0
      · have d2 : decide (kindI (l[0]'h0l) < 0) = true := by simpa using hk
        have HR := Lib.hid (bytesB_form hbig (.inr (by rw [hg0]; exact hk)))
        generalize kindI (l[0]'h0l) = kk at *
        generalize (l[0]'h0l) = z at *
        obtain ⟨za, zb⟩ := z
        simp only at p1 p2
        clear hc HC hg0 hm hk
        go_enter Try.func23, Try.ntmps23
        go_wp2_with (fail)
        refine (HK.out _).mono ?_
        rintro e w1 ⟨rfl, T1⟩
        go_wp2
        go_ret2
        exact ⟨_, _, _, by rw [HR.out]; rfl, by rw [HR.out]; exact Bys.nil _, T1⟩
      · have d2 : decide (kindI (l[0]'h0l) < 0) = false := by simpa using hk
        have hform : ¬ (l.length % 4 ≠ 1 ∨ kindI (l.getD 0 (0, 0)) < 0) := by rw [hg0]; omega
        have HS : Hid (∀ (i : Nat) (hi : i + 1 < l.length), stepI (l[i]'(Nat.lt_of_succ_lt hi)) l[i + 1] < 0 → bytesB l = ([], 70)) := fun i hi hs => bytesB_step hbig hform (i + 1) (by omega) hi hs
        have HO : Hid ((∀ k ∈ stepsP l, 0 ≤ k) → bytesB l = ((pkRun (stepsP l)).out, 0)) := fun h => bytesB_ok hbig hform h
        have HC2 := Lib.hid hc
        generalize kindI (l[0]'h0l) = kk at *
        generalize (l[0]'h0l) = z at *
        obtain ⟨za, zb⟩ := z
        simp only at p1 p2
        clear hc hg0 hk hform
        have hn : l.length ≤ 16385 := by omega
        go_enter Try.func23, Try.ntmps23
        go_wp2_with (fail)
        refine (HK.out _).mono ?_
        rintro e w1 ⟨rfl, T1⟩
        clear p1 p2 HK
        go_wp2_with (fail)
        go_loopw [4, 5, 6] (fun v m i wr => ∃ j : Nat, j + 1 ≤ l.length ∧ i = .int .i64 ((j + 1 : Nat) : Int) ∧ ∃ x : Nat, m = .int .i64 (x : Int) ∧ x ≤ 63 ∧ Hid ((pkRun (stepsP (l.take (j + 1)))).n = x ∧ wr.ownsRow w.heap.size 5 1 v (pkRun (stepsP (l.take (j + 1)))).out.length (bvs (pkRun (stepsP (l.take (j + 1)))).out) ∧ (∀ k ∈ stepsP (l.take (j + 1)), 0 ≤ k)) ∧ Below w.heap.size w wr) (fun _ _ i _ => l.length - (intOf i).toNat)
        case atStart =>
          refine ⟨0, by omega, rfl, 0, rfl, by omega, ?_, T1⟩
          have e : stepsP (l.take (0 + 1)) = [] := by
            match l with
            | [] => rfl
            | [a] => rfl
            | a :: b :: r => rfl
          rw [e]
          exact ⟨rfl, ⟨rfl, .inl ⟨rfl, rfl⟩⟩, fun k hk => by cases hk⟩
        case round =>
          obtain ⟨j, hj, rfl, x, rfl, hx, HW, hbel⟩ := hrel
          by_cases hlt : j + 1 < l.length
          · obtain ⟨a1, a2⟩ := HC2.out j (by omega)
            obtain ⟨b1, b2⟩ := HC2.out (j + 1) hlt
            have a1 := (hbel.cell (p := ⟨g, o + j * 2, none⟩) hg).trans a1
            have a2 := (hbel.cell (p := ⟨g, o + j * 2 + 1, none⟩) hg).trans a2
            have b1 := (hbel.cell (p := ⟨g, o + (j + 1) * 2, none⟩) hg).trans b1
            have b2 := (hbel.cell (p := ⟨g, o + (j + 1) * 2 + 1, none⟩) hg).trans b2
            have hst := stepsP_take l (j + 1) (by omega) hlt
            simp only [Nat.add_sub_cancel] at hst
            have hsa := step_any (l[j]'(Nat.lt_of_succ_lt hlt)) l[j + 1]
            have hsb := HS.out j hlt
            have hsr := stepI_range (l[j]'(Nat.lt_of_succ_lt hlt)) l[j + 1]
            have hpc := pkRun_c (stepsP (l.take (j + 1))) (stepsP_le _)
            rw [stepsP_len] at hpc
            have hpn := pkRun_n (stepsP (l.take (j + 1))) (stepsP_le _)
            have hpl := pk_len (stepsP (l.take (j + 1))) ⟨[], 0, 0⟩
            rw [stepsP_len] at hpl
            have hps : pkRun (stepsP (l.take (j + 1 + 1))) = pkStep (pkRun (stepsP (l.take (j + 1)))) (stepI (l[j]'(Nat.lt_of_succ_lt hlt)) l[j + 1]) := by rw [hst, pkRun_snoc]
            have hnn : (0 ≤ stepI (l[j]'(Nat.lt_of_succ_lt hlt)) l[j + 1]) → ∀ k ∈ stepsP (l.take (j + 1 + 1)), 0 ≤ k := fun h k hk => by
              rw [hst] at hk
              rcases List.mem_append.1 hk with hk | hk
              · exact HW.out.2.2 k hk
              · obtain rfl := List.mem_singleton.1 hk
                exact h
            have hlen : (l.take (j + 1)).length = j + 1 := by simp; omega
            rw [hlen] at hpc hpl
            simp only [List.length_nil, Nat.zero_add, Nat.add_sub_cancel] at hpc hpl
            generalize stepI (l[j]'(Nat.lt_of_succ_lt hlt)) l[j + 1] = s at *
            generalize (l[j]'(Nat.lt_of_succ_lt hlt)) = z1 at *
            generalize l[j + 1] = z2 at *
            obtain ⟨z1a, z1b⟩ := z1
            obtain ⟨z2a, z2b⟩ := z2
            simp only at a1 a2 b1 b2 hsa
            have HSA := Lib.hid hsa
            have HSB := Lib.hid hsb
            have hown := HW.out.2.1
            have hxn := HW.out.1
            have hpk : (pkRun (stepsP (l.take (j + 1)))).out.length ≤ 20000 := by show (List.foldl pkStep ⟨[], 0, 0⟩ _).out.length ≤ _; omega
            have HPK := Lib.hid (And.intro hps (And.intro hnn (And.intro hown (And.intro hxn (And.intro hpc (And.intro hpn hpk))))))
            have hw1 : IntKind.i64.wrap (((j + 1 : Nat) : Int) - 1) = (j : Int) := by rw [show (((j + 1 : Nat) : Int) - 1) = (j : Int) by omega]; exact IntWalk.i64_in _ (by omega)
            have hw2 : IntKind.i64.wrap ((j : Int) + 1 - 1) = (j : Int) := by rw [Int.add_sub_cancel]; exact IntWalk.i64_in _ (by omega)
            have hw3 : IntKind.i64.wrap (j : Int) = (j : Int) := IntWalk.i64_in _ (by omega)
            have hj0 : j < l.length := by omega
            have hj1 : (j : Int) < (l.length : Int) := by omega
            have hj2 : (j : Int) + 1 < (l.length : Int) := by omega
            have hj3 : ((j : Int) + 1).toNat = j + 1 := by omega
            have hj4 : (0 : Int) ≤ (j : Int) + 1 := by omega
            clear hst hsa hsb hps hnn hown hxn hpc hpn hlen HW HS hpl hpk
            go_wp2_with (fail)
            go_region_held3 (fun w' => (w'.cell? ⟨g, o + j * 2, none⟩ = some (.int .i64 z1a) ∧ w'.cell? ⟨g, o + j * 2 + 1, none⟩ = some (.int .i64 z1b)) ∧ w'.cell? ⟨g, o + (j + 1) * 2, none⟩ = some (.int .i64 z2a) ∧ w'.cell? ⟨g, o + (j + 1) * 2 + 1, none⟩ = some (.int .i64 z2b))
              (first | exact ⟨⟨a1, a2⟩, b1, b2⟩ | exact q5)
              (first | (go_at_call 32; (refine (HSA.out _).mono ?_); rintro e w5 ⟨rfl, G5⟩; have K5 : Below wr.heap.size wr w5 := undrew G5; have hgz : g < wr.heap.size := (by have := hbel.size; omega); have q5 : (w5.cell? ⟨g, o + j * 2, none⟩ = some (.int .i64 z1a) ∧ w5.cell? ⟨g, o + j * 2 + 1, none⟩ = some (.int .i64 z1b)) ∧ w5.cell? ⟨g, o + (j + 1) * 2, none⟩ = some (.int .i64 z2a) ∧ w5.cell? ⟨g, o + (j + 1) * 2 + 1, none⟩ = some (.int .i64 z2b) := ⟨⟨(K5.cell (p := ⟨g, o + j * 2, none⟩) hgz).trans a1, (K5.cell (p := ⟨g, o + j * 2 + 1, none⟩) hgz).trans a2⟩, (K5.cell (p := ⟨g, o + (j + 1) * 2, none⟩) hgz).trans b1, (K5.cell (p := ⟨g, o + (j + 1) * 2 + 1, none⟩) hgz).trans b2⟩))
            have T5 := nxt hbel K5
            clear q5 a1 a2 b1 b2
            clear hw1 hw2 hw3 hj0 hj1 hj2 hj3 hj4
            by_cases hs0 : s < 0
            · have d3 : decide (s < 0) = true := by simpa using hs0
              have HR := Lib.hid (HSB.out hs0)
              clear hs0
              go_wp2
              go_ret2
              exact ⟨_, _, _, by rw [HR.out]; rfl, by rw [HR.out]; exact Bys.nil _, T5⟩
            · have d3 : decide (s < 0) = false := by simpa using hs0
              obtain ⟨k, rfl⟩ : ∃ k : Nat, s = k := ⟨s.toNat, by omega⟩
              obtain ⟨hps, hnn, hown, hxn, hpc, hpn, hpk⟩ := HPK.out
              have hnn := Lib.hid (hnn (by omega))
              rw [hxn, hpc] at hpn
              by_cases h3 : (j + 1) % 4 = 0
              · have e4 : ((((j : Int) + 1) % 4) == 0) = true := by simp; omega
                have hst : pkRun (stepsP (l.take (j + 1 + 1))) = ⟨(pkRun (stepsP (l.take (j + 1)))).out ++ [UInt8.ofNat (4 * x + k)], 0, 0⟩ := by
                  rw [hps]
                  unfold pkStep
                  rw [if_pos (by omega), hxn, Int.toNat_natCast]
                have hlt256 : 4 * x + k < 256 := by omega
                have hby : ∀ W : World, Bys (W.alloc (.cells #[.int .u8 (4 * (x : Int) + (k : Int))] 5)) (some ⟨W.heap.size, 0, none⟩) 1 1 [UInt8.ofNat (4 * x + k)] := by
                  intro W
                  have h := Bys.lit W [UInt8.ofNat (4 * x + k)] (by simp)
                  have e : bvs [UInt8.ofNat (4 * x + k)] = [.int .u8 (4 * (x : Int) + (k : Int))] := by
                    have e0 : ((UInt8.ofNat (4 * x + k)).toNat : Int) = 4 * (x : Int) + (k : Int) := by
                      rw [UInt8.toNat_ofNat', Nat.mod_eq_of_lt (by omega)]
                      omega
                    show [Value.int .u8 ((UInt8.ofNat (4 * x + k)).toNat : Int)] = _
                    rw [e0]
                  rw [e] at h
                  exact h
                have HBY := Lib.hid hby
                have HON := Lib.hid (own_below hown K5)
                have HST := Lib.hid hst
                clear hps hown hxn hpc hpn hst hby
                generalize (pkRun (stepsP (l.take (j + 1)))).out = ob at *
                have hz5 := T5.size
                go_wp2_with ((refine app_bys _ rfl (.tmp 47) (.tmp 50) rfl w.heap.size u4 ob.length (bvs ob) rfl ?_ (some ⟨w5.heap.size, 0, none⟩) 1 1 [UInt8.ofNat (4 * x + k)] rfl ?_ ?_ ?_ ?_); (exact own_below HON.out ((Below.refl _ _).alloc (Nat.le_refl _) _)); (exact HBY.out w5); (omega); (simp; omega); intro v6 w6 hown6 hgrow6 hwhere6; have HO6 := Lib.hid (And.intro hown6 hgrow6); clear hown6 hgrow6 hwhere6)
                go_roundw
                case rel =>
                  refine ⟨j + 1, by omega, by go_num, 0, rfl, by omega, ?_, ?_⟩
                  · rw [HST.out]
                    refine ⟨rfl, ?_, hnn.out⟩
                    show w6.ownsRow _ _ 1 _ (ob ++ [UInt8.ofNat (4 * x + k)]).length (bvs (ob ++ [UInt8.ofNat (4 * x + k)]))
                    rw [bvs_append, List.length_append]
                    exact HO6.out.1
                  · exact (T5.alloc hz5 _).grown HO6.out.2 (by simp; omega) (fun k' hk => (HON.out.lt k' hk).1)
                case measure => simp [intOf]; omega
              · have e4 : ((((j : Int) + 1) % 4) == 0) = false := by simp; omega
                have hst : pkRun (stepsP (l.take (j + 1 + 1))) = ⟨(pkRun (stepsP (l.take (j + 1)))).out, 4 * x + k, j % 4 + 1⟩ := by
                  rw [hps]
                  unfold pkStep
                  rw [if_neg (by omega), hxn, hpc, Int.toNat_natCast]
                have hx2 : 4 * x + k ≤ 63 := by
                  have : j % 4 = 0 ∨ j % 4 = 1 ∨ j % 4 = 2 := by omega
                  rcases this with h | h | h <;> rw [h] at hpn <;> omega
                have HON := Lib.hid (own_below hown K5)
                have HST := Lib.hid hst
                clear hps hown hxn hpc hpn hst
                go_wp2
                go_roundw
                case rel =>
                  refine ⟨j + 1, by omega, by go_num, 4 * x + k, by go_num, hx2, ?_, T5⟩
                  rw [HST.out]
                  exact ⟨rfl, HON.out, hnn.out⟩
                case measure => simp [intOf]; omega
          · have hje : j + 1 = l.length := by omega
            have hw := HW.out
            rw [hje, List.take_length] at hw
            have HF := Lib.hid (HO.out hw.2.2)
            obtain ⟨A5, d5, rfl⟩ := own_shape hw.2.1
            have HBY := Lib.hid (Bys.of_own hw.2.1)
            have d5 : decide (((j + 1 : Nat) : Int) < (l.length : Int)) = false := by simp; omega
            have d6 : decide ((j : Int) + 1 < (l.length : Int)) = false := by simp; omega
            clear hw HW HO HS
            generalize (pkRun (stepsP l)).out = ob at *
            generalize ob.length = m at *
            go_wp2
            go_ret2
            exact ⟨_, _, _, by rw [HF.out]; rfl, by rw [HF.out]; exact HBY.out, hbel⟩
    · have e1 : (((l.length : Int) % 4) != 1) = true := by simp; omega
      have HR := Lib.hid (bytesB_form hbig (.inl hm))
      clear HC hm
      go_enter Try.func23, Try.ntmps23
      go_wp2
      go_ret2
      exact ⟨_, _, _, by rw [HR.out]; rfl, by rw [HR.out]; exact Bys.nil _, Below.refl _ _⟩
end Go.Proofs.Ytgkbgkgfjbmniaa
