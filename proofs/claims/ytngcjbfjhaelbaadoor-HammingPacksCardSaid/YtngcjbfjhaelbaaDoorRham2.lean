/- What kedgeref10's Pack and Unpack answer. -/
import Derived.Test.YtngcjbfjhaelbaaDoorRham1
import Derived.Deep.RegionHeld3
import Derived.Deep.RegionLaw
namespace Go.Proofs.YtngcjbfjhaelbaaDoor
open Go.RowKit

set_option maxHeartbeats 4000000 in
theorem rpack_any (A : Option Addr) (n c : Nat) (b : List UInt8) (w : World) (hB : Bys w A n c b) :
    Calls Tryd.prog 19 #[.slice A n c] w (GivesB w (packB b)) := by
  have hl := hB.len
  have hnc := hB.le
  have hcm := hB.cap
  subst hl
  by_cases h1 : 4096 < b.length
  · have d1 : decide ((4096 : Int) < (b.length : Int)) = true := by simp; omega
    have HR : Hid (packB b = []) := by show _ = _; unfold packB; rw [if_pos h1]
    clear h1 hB
    go_enter Tryd.func19, Tryd.ntmps19
    go_wp2
    go_ret
    exact ⟨_, _, _, rfl, by rw [HR.out]; exact Bys.nil _, Below.refl _ _⟩
  · have d1 : decide ((4096 : Int) < (b.length : Int)) = false := by simp; omega
    have HR : Hid (packB b = packL b) := by show _ = _; unfold packB; rw [if_neg h1]
    have HC := Lib.hid hB.at_
    clear hB
    go_enter Tryd.func19, Tryd.ntmps19
    go_wp2_with (fail)
    go_loopw [3, 4] (fun v i wr => ∃ j : Nat, j ≤ b.length ∧ i = .int .i64 (j : Int) ∧ wr.ownsRow w.heap.size 5 1 v (2 * j) (bvs (packL (b.take j))) ∧ Below w.heap.size w wr) (fun _ i _ => b.length - (intOf i).toNat)
    case atStart => exact ⟨0, Nat.zero_le _, rfl, World.ownsRow_nil _ _ _ _, Below.refl _ _⟩
    case round =>
      obtain ⟨j, hj, rfl, hown, hbel⟩ := hrel
      by_cases hlt : j < b.length
      · have d2 : decide ((j : Int) < (b.length : Int)) = true := by simp; omega
        have hlt2 : (j : Int) < (b.length : Int) := by omega
        obtain ⟨g, o, rfl, hg, hc⟩ := HC.out (by omega)
        have c1 := (hbel.cell (p := ⟨g, o + j, none⟩) hg).trans (hc j hlt)
        have HC0 := Lib.hid (hc j hlt)
        have HT := Lib.hid (packL_take b j hlt)
        generalize b[j] = x at *
        have hx := x.toNat_lt
        obtain ⟨q, hq⟩ : ∃ q, x.toNat / 16 = q := ⟨_, rfl⟩
        obtain ⟨r, hr⟩ : ∃ r, x.toNat % 16 = r := ⟨_, rfl⟩
        have e1 : (x.toNat : Int) / 16 = (q : Int) := by omega
        have e2 : (x.toNat : Int) % 16 = (r : Int) := by omega
        rw [hq, hr] at HT
        have H1 : Hid (∀ (z : Int) W, z = (q : Int) → Calls Tryd.prog 9 #[.int .i64 z] W fun e w' => e = .returned (.int .i64 ((wordN q : Nat) : Int)) ∧ W = w') := fun z W e => by subst e; exact rword_any q W (by omega)
        have H2 : Hid (∀ (z : Int) W, z = (r : Int) → Calls Tryd.prog 9 #[.int .i64 z] W fun e w' => e = .returned (.int .i64 ((wordN r : Nat) : Int)) ∧ W = w') := fun z W e => by subst e; exact rword_any r W (by omega)
        have HE1 := Lib.hid e1
        have HE2 := Lib.hid e2
        have l1 := wordN_lt q
        have l2 := wordN_lt r
        have n1 := wordB_num q
        have n2 := wordB_num r
        have hnew : Hid (∀ (W : World) (y z : Int), y = ((wordN q : Nat) : Int) → z = ((wordN r : Nat) : Int) → Bys (W.alloc (.cells #[.int .u8 y, .int .u8 z] 5)) (some ⟨W.heap.size, 0, none⟩) 2 2 [wordB q, wordB r]) := fun W y z hy hz => by
          subst hy hz
          have h := Bys.lit W [wordB q, wordB r] (by simp)
          have e : bvs [wordB q, wordB r] = [.int .u8 ((wordN q : Nat) : Int), .int .u8 ((wordN r : Nat) : Int)] := by
            show [Value.int .u8 ((wordB q).toNat : Int), Value.int .u8 ((wordB r).toNat : Int)] = _
            rw [n1, n2]
          rw [e] at h
          exact h
        clear hc n1 n2 hq hr
        generalize wordN q = wq at *
        generalize wordN r = wr' at *
        have w1 : IntKind.u8.wrap (wq : Int) = (wq : Int) := IntWalk.u8_in _ (by omega)
        have w2 : IntKind.u8.wrap (wr' : Int) = (wr' : Int) := IntWalk.u8_in _ (by omega)
        have HC1 : Hid (IntKind.i64.wrap ((IntKind.i64.wrap (x.toNat : Int)).tdiv 16) = (q : Int)) := by
          show _ = _
          rw [IntWalk.i64_in (x.toNat : Int) (by omega), Int.tdiv_eq_ediv_of_nonneg (by omega), e1, IntWalk.i64_in _ (by omega)]
        have HC2 : Hid ((IntKind.i64.wrap (x.toNat : Int)).tmod 16 = (r : Int)) := by
          show _ = _
          rw [IntWalk.i64_in (x.toNat : Int) (by omega), Int.tmod_eq_emod_of_nonneg (by omega)]
          exact e2
        have HV1 := Lib.hid w1
        have HV2 := Lib.hid w2
        clear w1 w2
        have HON := Lib.hid hown
        have hz := hbel.size
        have HK : Hid (∀ ob, (wr.alloc ob).drew.cell? ⟨g, o + j, none⟩ = some (.int .u8 (x.toNat : Int))) := fun ob => ((hbel.alloc hz ob).drew.cell (p := ⟨g, o + j, none⟩) hg).trans HC0.out
        clear hown
        go_wp2_with (fail)
        go_region_held3 (fun w' => w'.cell? ⟨g, o + j, none⟩ = some (.int .u8 (x.toNat : Int))) (first | exact c1 | exact q5 | exact HK.out _)
          (first
            | (go_at_call 9; (with_reducible refine (H1.out _ _ ?_).mono ?_); (first | exact HC1.out | exact HE1.out | rfl); rintro e w3 ⟨rfl, rfl⟩)
            | (go_at_call 9; (with_reducible refine (H2.out _ _ ?_).mono ?_); (first | exact HC2.out | exact HE2.out | rfl); rintro e w4 ⟨rfl, rfl⟩)
            | ((refine step_bys _ rfl (.tmp 14) (.tmp 31) rfl w.heap.size u3 (2 * j) (bvs (packL (b.take j))) rfl ?_ (some ⟨wr.heap.size, 0, none⟩) 2 2 [wordB q, wordB r] rfl ?_ ?_ ?_ ?_); (exact HON.out.drew.alloc _); (first | exact hnew.out wr.drew _ _ HV1.out HV2.out | exact hnew.out wr.drew _ _ rfl rfl); (omega); (simp; omega); intro v2 w5 hown3 hgrow2 hwhere2; have T5 := (hbel.alloc hz _).drew.grown hgrow2 (by simp; omega) (fun g hg => (HON.out.lt g hg).1); have q5 := (T5.cell (p := ⟨g, o + j, none⟩) hg).trans HC0.out))
        all_goals
          rw [← bvs_append, ← HT.out] at hown3
          have HO3 := Lib.hid hown3
          clear hown3 hgrow2
          go_wp2
          go_roundw
          case rel => exact ⟨j + 1, by omega, by go_num, by rw [show 2 * (j + 1) = 2 * j + 2 by omega]; exact HO3.out, T5⟩
          case measure => simp [intOf]; omega
      · have d2 : decide ((j : Int) < (b.length : Int)) = false := by simp; omega
        obtain rfl : j = b.length := by omega
        rw [List.take_length, ← HR.out] at hown
        obtain ⟨A2, c2, rfl⟩ := own_shape hown
        have HBB := Lib.hid (Bys.of_own hown)
        clear hown
        go_wp2
        go_ret
        exact ⟨_, _, _, rfl, HBB.out, hbel⟩
/-- what Unpack's call tells -/
def GivesUn (w : World) (r : List UInt8 × Nat × Nat) (e : Ending) (w' : World) : Prop :=
  ∃ A n c, e = .returned (.tuple #[.slice A n c, .int .i64 (r.2.1 : Int), .int .i64 (r.2.2 : Int)]) ∧ Bys w' A n c r.1 ∧ Below w.heap.size w w'
theorem unpack_long {l : List UInt8} (h : 8192 < l.length) : unpackB l = ([], 0, 2) := by unfold unpackB; rw [if_pos h]
theorem unpack_odd {l : List UInt8} (h : ¬ 8192 < l.length) (h2 : l.length % 2 ≠ 0) : unpackB l = ([], 0, 1) := by unfold unpackB; rw [if_neg h, if_pos h2]
theorem unpack_bad {l : List UInt8} (h : ¬ 8192 < l.length) (h2 : ¬ l.length % 2 ≠ 0) (h3 : unpL l = none) : unpackB l = ([], 0, 100) := by unfold unpackB; rw [if_neg h, if_neg h2, h3]
theorem unpack_ok {l o : List UInt8} {n : Nat} (h : ¬ 8192 < l.length) (h2 : ¬ l.length % 2 ≠ 0) (h3 : unpL l = some (o, n)) : unpackB l = (o, n, 0) := by unfold unpackB; rw [if_neg h, if_neg h2, h3]
set_option maxHeartbeats 4000000 in
theorem runpack_any (A : Option Addr) (n c : Nat) (l : List UInt8) (w : World) (hB : Bys w A n c l) :
    Calls Tryd.prog 16 #[.slice A n c] w (GivesUn w (unpackB l)) := by
  have hl := hB.len
  have hnc := hB.le
  have hcm := hB.cap
  subst hl
  by_cases h1 : 8192 < l.length
  · have d1 : decide ((8192 : Int) < (l.length : Int)) = true := by simp; omega
    have HR := Lib.hid (unpack_long h1)
    clear h1 hB
    go_enter Tryd.func16, Tryd.ntmps16
    go_wp2
    go_ret3
    exact ⟨_, _, _, by rw [HR.out]; rfl, by rw [HR.out]; exact Bys.nil _, Below.refl _ _⟩
  · have d1 : decide ((8192 : Int) < (l.length : Int)) = false := by simp; omega
    by_cases h2 : l.length % 2 = 0
    · obtain ⟨N, hN⟩ : ∃ N, l.length = 2 * N := ⟨l.length / 2, by omega⟩
      have d2 : (((l.length : Int) % 2) != 0) = false := by simp; omega
      have HBAD := Lib.hid (fun h3 => unpack_bad h1 (by omega) (l := l) h3)
      have HOK := Lib.hid (fun o n h3 => unpack_ok h1 (by omega) (l := l) (o := o) (n := n) h3)
      have HC := Lib.hid hB.at_
      have hlN : l.length ≤ 2 * N := by omega
      have hlN2 : 2 * N ≤ l.length := by omega
      have hN8 : N ≤ 4096 := by omega
      have HLN := Lib.hid hN
      clear hB hN h1 h2
      go_enter Tryd.func16, Tryd.ntmps16
      go_wp2_with (fail)
      go_loopw [5, 6, 7] (fun v s i wr => ∃ (j m : Nat) (o : List UInt8), j ≤ N ∧ s = .int .i64 (m : Int) ∧ i = .int .i64 (2 * (j : Int)) ∧ Hid (unpL (l.take (2 * j)) = some (o, m)) ∧ m ≤ 16 * j ∧ wr.ownsRow w.heap.size 5 1 v j (bvs o) ∧ Below w.heap.size w wr) (fun _ _ i _ => 2 * N - (intOf i).toNat)
      case atStart => exact ⟨0, 0, [], Nat.zero_le _, rfl, rfl, rfl, by decide, World.ownsRow_nil _ _ _ _, Below.refl _ _⟩
      case round =>
        obtain ⟨j, m, o, hj, rfl, rfl, HU, hm, hown, hbel⟩ := hrel
        by_cases hlt : j < N
        · have d3 : decide (2 * (j : Int) < (l.length : Int)) = true := by simp; omega
          obtain ⟨g, ao, rfl, hg, hc⟩ := HC.out (by omega)
          have c1 := (hbel.cell (p := ⟨g, ao + 2 * j, none⟩) hg).trans (hc (2 * j) (by omega))
          have c2 := (hbel.cell (p := ⟨g, ao + (2 * j + 1), none⟩) hg).trans (hc (2 * j + 1) (by omega))
          have hsn := unpL_snoc j (l.take (2 * j)) (l[2 * j]'(by omega)) (l[2 * j + 1]'(by omega)) (by simp; omega) o m HU.out
          have htk : l.take (2 * j) ++ [l[2 * j]'(by omega), l[2 * j + 1]'(by omega)] = l.take (2 * (j + 1)) := by
            rw [show 2 * (j + 1) = 2 * j + 1 + 1 by omega, List.take_succ_eq_append_getElem (show 2 * j + 1 < l.length by omega), List.take_succ_eq_append_getElem (show 2 * j < l.length by omega), List.append_assoc]
            rfl
          rw [htk] at hsn
          have hbad := unpL_bad j (l.take (2 * j)) (l[2 * j]'(by omega)) (l[2 * j + 1]'(by omega)) (l.drop (2 * j + 1 + 1)) (by simp; omega)
          have hall : l.take (2 * j) ++ l[2 * j]'(by omega) :: l[2 * j + 1]'(by omega) :: l.drop (2 * j + 1 + 1) = l := by
            rw [← List.drop_eq_getElem_cons (show 2 * j + 1 < l.length by omega), ← List.drop_eq_getElem_cons (show 2 * j < l.length by omega), List.take_append_drop]
          rw [hall] at hbad
          clear htk hall hc
          generalize l[2 * j]'(by omega) = x at *
          generalize l[2 * j + 1]'(by omega) = y at *
          have hx := x.toNat_lt
          have hy := y.toNat_lt
          have H1 := Lib.hid (fun W => rhalf_any x.toNat W (by omega))
          have H2 := Lib.hid (fun W => rhalf_any y.toNat W (by omega))
          have k1 := halfN_lt x.toNat
          have k2 := halfN_lt y.toNat
          generalize halfN x.toNat = r1 at *
          generalize halfN y.toNat = r2 at *
          obtain ⟨h1, n1, e1⟩ := r1
          obtain ⟨h2, n2, e2⟩ := r2
          simp only at hsn hbad k1 k2
          have HON := Lib.hid hown
          have hz := hbel.size
          clear hown
          by_cases hok : e1 = 0 ∧ e2 = 0
          · obtain ⟨rfl, rfl⟩ := hok
            rw [if_pos ⟨rfl, rfl⟩] at hsn
            obtain ⟨z, hz16⟩ : ∃ z, 16 * h1 + h2 = z := ⟨_, rfl⟩
            rw [hz16] at hsn
            have hzz : 16 * (h1 : Int) + (h2 : Int) = (z : Int) := by omega
            have hz256 : z < 256 := by omega
            have hzm : (z : Int) % 256 = (z : Int) := by omega
            have HSN := Lib.hid hsn
            have hnew : Hid (∀ W : World, Bys (W.alloc (.cells #[.int .u8 (z : Int)] 5)) (some ⟨W.heap.size, 0, none⟩) 1 1 [UInt8.ofNat z]) := fun W => by
              have h := Bys.lit W [UInt8.ofNat z] (by simp)
              have e : bvs [UInt8.ofNat z] = [.int .u8 (z : Int)] := by
                show [Value.int .u8 ((UInt8.ofNat z).toNat : Int)] = _
                rw [UInt8.toNat_ofNat', Nat.mod_eq_of_lt (by omega)]
              rw [e] at h
              exact h
            clear hsn hbad hz16 HBAD
            go_wp2_with (fail)
            refine (H1.out _).mono ?_
            rintro e w1 ⟨rfl, rfl⟩
            go_wp2_with (fail)
            refine (H2.out _).mono ?_
            rintro e w2 ⟨rfl, rfl⟩
            go_wp2_with ((with_reducible refine app_bys _ rfl (.tmp 54) (.tmp 60) rfl w.heap.size u5 j (bvs o) rfl ?_ (some ⟨wr.heap.size, 0, none⟩) 1 1 [UInt8.ofNat z] rfl ?_ ?_ ?_ ?_); (exact HON.out.alloc _); (exact hnew.out wr); (omega); (simp; omega); intro v3 w3 hown3 hgrow3 hwhere3)
            go_roundw
            case rel =>
              rw [← bvs_append] at hown3
              exact ⟨j + 1, m + n1 + n2, o ++ [UInt8.ofNat z], by omega, by go_num, by go_num, HSN.out, by omega, hown3, (hbel.alloc hz _).grown hgrow3 (by simp; omega) (fun g hg => (HON.out.lt g hg).1)⟩
            case measure => simp [intOf]; omega
          · have HR := Lib.hid (HBAD.out (hbad (by omega)))
            clear hsn hbad HOK HBAD
            by_cases he1 : e1 = 0
            · subst he1
              have he2 : e2 = 100 := by omega
              subst he2
              go_wp2_with (fail)
              refine (H1.out _).mono ?_
              rintro e w1 ⟨rfl, rfl⟩
              go_wp2_with (fail)
              refine (H2.out _).mono ?_
              rintro e w2 ⟨rfl, rfl⟩
              go_wp2
              go_ret3
              exact ⟨_, _, _, by rw [HR.out]; rfl, by rw [HR.out]; exact Bys.nil _, hbel⟩
            · have he2 : e1 = 100 := by omega
              subst he2
              go_wp2_with (fail)
              refine (H1.out _).mono ?_
              rintro e w1 ⟨rfl, rfl⟩
              go_wp2_with (fail)
              refine (H2.out _).mono ?_
              rintro e w2 ⟨rfl, rfl⟩
              go_wp2
              go_ret3
              exact ⟨_, _, _, by rw [HR.out]; rfl, by rw [HR.out]; exact Bys.nil _, hbel⟩
        · have d3 : decide (2 * (j : Int) < (l.length : Int)) = false := by simp; omega
          have hu := HU.out
          rw [show 2 * j = l.length by omega, List.take_length] at hu
          have HR := Lib.hid (HOK.out o m hu)
          obtain ⟨A2, c2, rfl⟩ := own_shape hown
          have HBB := Lib.hid (Bys.of_own hown)
          clear hown hu HBAD HOK
          go_wp2
          go_ret3
          exact ⟨_, _, _, by rw [HR.out]; rfl, by rw [HR.out]; exact HBB.out, hbel⟩
    · have d2 : (((l.length : Int) % 2) != 0) = true := by simp; omega
      have HR := Lib.hid (unpack_odd h1 h2)
      clear hB h1 h2
      go_enter Tryd.func16, Tryd.ntmps16
      go_wp2
      go_ret3
      exact ⟨_, _, _, by rw [HR.out]; rfl, by rw [HR.out]; exact Bys.nil _, Below.refl _ _⟩
end Go.Proofs.YtngcjbfjhaelbaaDoor
