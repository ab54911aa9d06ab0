/- Joined: Rcor1 Rcor2 Rcor3. -/
import Derived.Test.YtkcpkfimmolkkaaDoorPtV
import Derived.Test.YtkcpkfimmolkkaaDoorRphs
import Derived.Test.YtkcpkfimmolkkaaDoorFacts
import Derived.StillTailTactics
import Derived.Deep.RegionHeld3
/- What kedgeref08's Size, Dot, stands and Sliced answer. -/
namespace Go.Proofs.YtkcpkfimmolkkaaDoor
open Go.RowKit
set_option maxRecDepth 20000

theorem mul_bound {a b B : Int} (hB : 0 ≤ B) (h1 : -B ≤ a) (h2 : a ≤ B) (h3 : -B ≤ b) (h4 : b ≤ B) : -(B * B) ≤ a * b ∧ a * b ≤ B * B := by
  have h : (a * b).natAbs ≤ (B * B).natAbs := by
    rw [Int.natAbs_mul, Int.natAbs_mul]
    exact Nat.mul_le_mul (by omega) (by omega)
  have hb : 0 ≤ B * B := Int.mul_nonneg hB hB
  omega
end Go.Proofs.YtkcpkfimmolkkaaDoor

/- What kedgeref08's stands and Sliced answer. -/
namespace Go.Proofs.YtkcpkfimmolkkaaDoor
open Go.RowKit
set_option maxRecDepth 20000

theorem getD_at (l : List Pt) (i : Nat) (h : i < l.length) : l.getD i (0, 0) = l[i] := by simp [List.getD_eq_getElem?_getD, List.getElem?_eq_getElem h]
theorem St_iff (l mark : List Pt) (a t : Nat) (h : a + mark.length ≤ l.length) : St l mark a t ↔ ∀ i, i < mark.length → l.getD (a + i) (0, 0) = rotK (t : Int) (mark.getD i (0, 0)) := by
  have hlen : ((l.drop a).take mark.length).length = mark.length := by simp; omega
  unfold St turnB
  constructor
  · intro he i hi
    have h1 : ((l.drop a).take mark.length)[i]'(by omega) = (mark.map (rotK t))[i]'(by simpa using hi) := by congr 1
    rw [List.getElem_take, List.getElem_drop, List.getElem_map] at h1
    rw [getD_at l _ (by omega), getD_at mark i hi]
    exact h1
  · intro hall
    refine List.ext_getElem (by simp; omega) (fun i h1 h2 => ?_)
    have hi : i < mark.length := by simpa using h2
    have := hall i hi
    rw [getD_at l _ (by omega), getD_at mark i hi] at this
    rw [List.getElem_take, List.getElem_drop, List.getElem_map]
    exact this
theorem near_tame {p : Pt} (h : Near p) : -4611686018427387904 ≤ p.1 ∧ p.1 ≤ 4611686018427387904 ∧ -4611686018427387904 ≤ p.2 ∧ p.2 ≤ 4611686018427387904 := by unfold Near at h; omega

set_option maxHeartbeats 2000000 in
theorem rsliced_any (A : Option Addr) (n c : Nat) (l : List Pt) (w : World) (hP : Ps w A n c l) (hn : n ≤ 1000000) :
    Calls Tryd.prog 21 #[.slice A n c] w (GivesP w (slicedB l)) := by
  obtain ⟨hl, hnc, hcm, hcell⟩ := hP
  unfold maxLen at hcm
  subst hl
  have HC := Lib.hid hcell
  clear hcell
  go_enter Tryd.func21, Tryd.ntmps21
  go_wp2_with (fail)
  go_loopw [3, 4] (fun v i wr => ∃ j : Nat, j ≤ l.length ∧ i = .int .i64 (j : Int) ∧ OwnP wr w.heap.size v (slicedB (l.take j)) ∧ Below w.heap.size w wr) (fun _ i _ => l.length - (intOf i).toNat)
  case atStart => exact ⟨0, Nat.zero_le _, rfl, OwnP.nil _ _, Below.refl _ _⟩
  case round =>
    obtain ⟨j, hj, rfl, hown, hbel⟩ := hrel
    by_cases hlt : j < l.length
    · obtain ⟨g, o, rfl, hg, hc⟩ := HC.out (by omega)
      obtain ⟨c1, c2⟩ := hc j hlt
      have c1 := (hbel.cell (p := ⟨g, o + j * 2, none⟩) hg).trans c1
      have c2 := (hbel.cell (p := ⟨g, o + j * 2 + 1, none⟩) hg).trans c2
      have hst : slicedB (l.take (j + 1)) = slicedB (l.take j) ++ [sliceP l[j]] := by
        unfold slicedB
        rw [List.take_succ_eq_append_getElem hlt, List.map_append]
        rfl
      have hTM := rslice_any l[j] wr
      have hlen : (slicedB (l.take j)).length ≤ 1000000 := by unfold slicedB; simp; omega
      generalize sliceP l[j] = q at *
      generalize slicedB (l.take j) = cur at *
      generalize l[j] = x at *
      obtain ⟨xa, xb⟩ := x
      simp only at c1 c2
      have HTM := Lib.hid hTM
      have HST := Lib.hid hst
      have HON := Lib.hid hown
      clear hTM hst hown hc
      obtain ⟨qa, qb⟩ := q
      go_wp2_with (fail)
      refine HTM.out.mono ?_
      rintro e w2 ⟨rfl, T2⟩
      have hbel2 := nxt hbel T2
      have hz := hbel2.size
      have HO2 := Lib.hid (HON.out.below T2)
      go_wp2_with ((refine app_pt _ rfl (.tmp 11) (.tmp 17) rfl w.heap.size u3 cur rfl ?_ w2.heap.size (qa, qb) rfl ?_ ?_ ?_ ?_); (exact HO2.out.below ((Below.refl _ _).alloc (Nat.le_refl _) _)); (exact heap_alloc_new w2 _); (omega); (simp; omega); intro v3 w3 hown3 hgrow3 hwhere3; have HO3 := Lib.hid (And.intro hown3 hgrow3); clear hown3 hgrow3 hwhere3)
      go_roundw
      case rel =>
        refine ⟨j + 1, by omega, by go_num, ?_, ?_⟩
        · rw [HST.out]
          exact HO3.out.1
        · exact (hbel2.alloc hz _).grown HO3.out.2 (by simp; omega) (fun k' hk => (HO2.out.lt k' hk).1)
      case measure => simp [intOf]; omega
    · obtain rfl : j = l.length := by omega
      rw [List.take_length] at hown
      have HON := Lib.hid hown
      clear hown
      go_wp2
      go_ret
      exact ⟨_, rfl, HON.out, hbel⟩

/-- a call's end that tells whether the mark stands there -/
def TellsSt (w : World) (l mark : List Pt) (a t : Nat) (e : Ending) (w' : World) : Prop := ∃ r, e = .returned (.bool r) ∧ (r = true ↔ St l mark a t) ∧ Below w.heap.size w w'
set_option maxHeartbeats 4000000 in
theorem rstands_any (A : Option Addr) (n c : Nat) (l : List Pt) (B : Option Addr) (m d : Nat) (mark : List Pt) (a t : Nat) (w : World) (hP : Ps w A n c l) (hQ : Ps w B m d mark) (hr : ∀ p ∈ mark, Near p) (ha : a + m ≤ n) (hm : m ≤ 400) (hn : n ≤ 100000) :
    Calls Tryd.prog 50 #[.slice A n c, .slice B m d, .int .i64 (a : Int), .int .i64 (t : Int)] w (TellsSt w l mark a t) := by
  obtain ⟨hl1, hnc, hcm, hcell⟩ := hP
  obtain ⟨hl2, hmd, hdm, hcell2⟩ := hQ
  unfold maxLen at hcm hdm
  subst hl1 hl2
  have HI := Lib.hid (St_iff l mark a t ha)
  have HC := Lib.hid hcell
  have HD := Lib.hid hcell2
  have HR := Lib.hid hr
  clear hcell hcell2 hr
  go_enter Tryd.func50, Tryd.ntmps50
  go_wp2_with (fail)
  go_loopw [9] (fun i wr => ∃ j : Nat, j ≤ mark.length ∧ i = .int .i64 (j : Int) ∧ Hid (∀ i, i < j → l.getD (a + i) (0, 0) = rotK (t : Int) (mark.getD i (0, 0))) ∧ Below w.heap.size w wr) (fun i _ => mark.length - (intOf i).toNat)
  case atStart => exact ⟨0, Nat.zero_le _, rfl, fun i hi => absurd hi (by omega), Below.refl _ _⟩
  case round =>
    obtain ⟨j, hj, rfl, HS, hbel⟩ := hrel
    by_cases hlt : j < mark.length
    · obtain ⟨g, o, rfl, hg, hc⟩ := HC.out (by omega)
      obtain ⟨c1, c2⟩ := hc (a + j) (by omega)
      obtain ⟨g2, o2, rfl, hg2, hd⟩ := HD.out (by omega)
      obtain ⟨d3, d4⟩ := hd j hlt
      have c1 := (hbel.cell (p := ⟨g, o + (a + j) * 2, none⟩) hg).trans c1
      have c2 := (hbel.cell (p := ⟨g, o + (a + j) * 2 + 1, none⟩) hg).trans c2
      have d3 := (hbel.cell (p := ⟨g2, o2 + j * 2, none⟩) hg2).trans d3
      have d4 := (hbel.cell (p := ⟨g2, o2 + j * 2 + 1, none⟩) hg2).trans d4
      have hT := fun W => times_any mark[j] (t : Int) W (near_tame (HR.out _ (List.getElem_mem hlt)))
      have e1 := getD_at l (a + j) (by omega)
      have e2 := getD_at mark j hlt
      rw [← e2] at hT d3 d4
      rw [← e1] at c1 c2
      have hnext : l.getD (a + j) (0, 0) = rotK (t : Int) (mark.getD j (0, 0)) → ∀ i, i < j + 1 → l.getD (a + i) (0, 0) = rotK (t : Int) (mark.getD i (0, 0)) := fun h i hi => by
        by_cases h2 : i < j
        · exact HS.out i h2
        · obtain rfl : i = j := by omega
          exact h
      have hno : l.getD (a + j) (0, 0) ≠ rotK (t : Int) (mark.getD j (0, 0)) → ¬ St l mark a t := fun h hs => h (HI.out.1 hs j hlt)
      clear e1 e2 hc hd
      generalize rotK (t : Int) (mark.getD j (0, 0)) = q at *
      generalize mark.getD j (0, 0) = p at *
      generalize l.getD (a + j) (0, 0) = z at *
      obtain ⟨qa, qb⟩ := q
      obtain ⟨pa, pb⟩ := p
      obtain ⟨za, zb⟩ := z
      simp only at c1 c2 d3 d4 hT
      have HT := Lib.hid hT
      have HN := Lib.hid hnext
      have HNO := Lib.hid hno
      have hgz : g < wr.heap.size := by have := hbel.size; omega
      have hg2z : g2 < wr.heap.size := by have := hbel.size; omega
      have s1 : IntKind.i64.wrap ((a : Int) + (j : Int)) = (a : Int) + (j : Int) := IntWalk.i64_in _ (by omega)
      have s2 : (0 : Int) ≤ (a : Int) + (j : Int) := by omega
      have s3 : ((a : Int) + (j : Int)).toNat = a + j := by omega
      have s4 : (a : Int) + (j : Int) < (l.length : Int) := by omega
      have s5 : (j : Int) < (mark.length : Int) := by omega
      have hlt3 : a + j < l.length := by omega
      clear hT hnext hno HS
      by_cases hx : za = qa
      · have b1 : (za == qa) = true := by simpa using hx
        by_cases hy : zb = qb
        · have b2 : (zb == qb) = true := by simpa using hy
          have HF := Lib.hid (HN.out (by rw [hx, hy]))
          clear hx hy HN HNO
          go_wp2_with (fail)
          go_region_held3 (fun w' => (w'.cell? ⟨g, o + (a + j) * 2, none⟩ = some (.int .i64 za) ∧ w'.cell? ⟨g, o + (a + j) * 2 + 1, none⟩ = some (.int .i64 zb)) ∧ w'.cell? ⟨g2, o2 + j * 2, none⟩ = some (.int .i64 pa) ∧ w'.cell? ⟨g2, o2 + j * 2 + 1, none⟩ = some (.int .i64 pb)) (first | exact ⟨⟨c1, c2⟩, d3, d4⟩ | exact q5)
            (first | (go_at_call 24; (refine (HT.out _).mono ?_); rintro e w5 ⟨rfl, G⟩; have K5 : Below wr.heap.size wr w5 := undrew G; have q5 : (w5.cell? ⟨g, o + (a + j) * 2, none⟩ = some (.int .i64 za) ∧ w5.cell? ⟨g, o + (a + j) * 2 + 1, none⟩ = some (.int .i64 zb)) ∧ w5.cell? ⟨g2, o2 + j * 2, none⟩ = some (.int .i64 pa) ∧ w5.cell? ⟨g2, o2 + j * 2 + 1, none⟩ = some (.int .i64 pb) := ⟨⟨(K5.cell (p := ⟨g, o + (a + j) * 2, none⟩) hgz).trans c1, (K5.cell (p := ⟨g, o + (a + j) * 2 + 1, none⟩) hgz).trans c2⟩, (K5.cell (p := ⟨g2, o2 + j * 2, none⟩) hg2z).trans d3, (K5.cell (p := ⟨g2, o2 + j * 2 + 1, none⟩) hg2z).trans d4⟩))
          have T5 := nxt hbel K5
          clear s1 s2 s3
          go_wp2
          go_roundw
          case rel => exact ⟨j + 1, by omega, by go_num, HF.out, T5⟩
          case measure => simp [intOf]; omega
        · have b2 : (zb == qb) = false := by simpa using hy
          have HF := Lib.hid (HNO.out (fun e => hy (by injection e)))
          clear hx hy HN HNO
          go_wp2_with (fail)
          go_region_held3 (fun w' => (w'.cell? ⟨g, o + (a + j) * 2, none⟩ = some (.int .i64 za) ∧ w'.cell? ⟨g, o + (a + j) * 2 + 1, none⟩ = some (.int .i64 zb)) ∧ w'.cell? ⟨g2, o2 + j * 2, none⟩ = some (.int .i64 pa) ∧ w'.cell? ⟨g2, o2 + j * 2 + 1, none⟩ = some (.int .i64 pb)) (first | exact ⟨⟨c1, c2⟩, d3, d4⟩ | exact q5)
            (first | (go_at_call 24; (refine (HT.out _).mono ?_); rintro e w5 ⟨rfl, G⟩; have K5 : Below wr.heap.size wr w5 := undrew G; have q5 : (w5.cell? ⟨g, o + (a + j) * 2, none⟩ = some (.int .i64 za) ∧ w5.cell? ⟨g, o + (a + j) * 2 + 1, none⟩ = some (.int .i64 zb)) ∧ w5.cell? ⟨g2, o2 + j * 2, none⟩ = some (.int .i64 pa) ∧ w5.cell? ⟨g2, o2 + j * 2 + 1, none⟩ = some (.int .i64 pb) := ⟨⟨(K5.cell (p := ⟨g, o + (a + j) * 2, none⟩) hgz).trans c1, (K5.cell (p := ⟨g, o + (a + j) * 2 + 1, none⟩) hgz).trans c2⟩, (K5.cell (p := ⟨g2, o2 + j * 2, none⟩) hg2z).trans d3, (K5.cell (p := ⟨g2, o2 + j * 2 + 1, none⟩) hg2z).trans d4⟩))
          have T5 := nxt hbel K5
          clear s1 s2 s3
          go_wp2
          go_ret
          exact ⟨false, rfl, ⟨fun h => (by cases h), fun h => absurd h HF.out⟩, T5⟩
      · have b1 : (za == qa) = false := by simpa using hx
        have HF := Lib.hid (HNO.out (fun e => hx (by injection e)))
        clear hx HN HNO
        go_wp2_with (fail)
        go_region_held3 (fun w' => (w'.cell? ⟨g, o + (a + j) * 2, none⟩ = some (.int .i64 za) ∧ w'.cell? ⟨g, o + (a + j) * 2 + 1, none⟩ = some (.int .i64 zb)) ∧ w'.cell? ⟨g2, o2 + j * 2, none⟩ = some (.int .i64 pa) ∧ w'.cell? ⟨g2, o2 + j * 2 + 1, none⟩ = some (.int .i64 pb)) (first | exact ⟨⟨c1, c2⟩, d3, d4⟩ | exact q5)
          (first | (go_at_call 24; (refine (HT.out _).mono ?_); rintro e w5 ⟨rfl, G⟩; have K5 : Below wr.heap.size wr w5 := undrew G; have q5 : (w5.cell? ⟨g, o + (a + j) * 2, none⟩ = some (.int .i64 za) ∧ w5.cell? ⟨g, o + (a + j) * 2 + 1, none⟩ = some (.int .i64 zb)) ∧ w5.cell? ⟨g2, o2 + j * 2, none⟩ = some (.int .i64 pa) ∧ w5.cell? ⟨g2, o2 + j * 2 + 1, none⟩ = some (.int .i64 pb) := ⟨⟨(K5.cell (p := ⟨g, o + (a + j) * 2, none⟩) hgz).trans c1, (K5.cell (p := ⟨g, o + (a + j) * 2 + 1, none⟩) hgz).trans c2⟩, (K5.cell (p := ⟨g2, o2 + j * 2, none⟩) hg2z).trans d3, (K5.cell (p := ⟨g2, o2 + j * 2 + 1, none⟩) hg2z).trans d4⟩))
        have T5 := nxt hbel K5
        clear s1 s2 s3
        go_wp2
        go_ret
        exact ⟨false, rfl, ⟨fun h => (by cases h), fun h => absurd h HF.out⟩, T5⟩
    · obtain rfl : j = mark.length := by omega
      have HF := Lib.hid (HI.out.2 HS.out)
      go_wp2
      go_ret
      exact ⟨true, rfl, ⟨fun _ => HF.out, fun _ => rfl⟩, hbel⟩
end Go.Proofs.YtkcpkfimmolkkaaDoor

/- What kedgeref08's Find and Peak answer. -/
namespace Go.Proofs.YtkcpkfimmolkkaaDoor
open Go.RowKit
set_option maxRecDepth 20000

/-- what a call of Find tells; of Peak -/
def GivesFd (w : World) (l mark : List Pt) (e : Ending) (w' : World) : Prop := ∃ a t ok, e = .returned (.tuple #[.int .i64 (a : Nat), .int .i64 (t : Nat), .bool ok]) ∧ FindR l mark a t ok ∧ Below w.heap.size w w'
def GivesPk (w : World) (l mark : List Pt) (e : Ending) (w' : World) : Prop := ∃ a ok, e = .returned (.tuple #[.int .i64 (a : Nat), .bool ok]) ∧ PeakR l mark a ok ∧ Below w.heap.size w w'
set_option maxHeartbeats 4000000 in
theorem rfind_big (A : Option Addr) (n c : Nat) (l : List Pt) (B : Option Addr) (m d : Nat) (mark : List Pt) (w : World) (hP : Ps w A n c l) (hQ : Ps w B m d mark) (hr : ∀ p ∈ mark, Near p) (hm : m ≤ 400) (hn : n ≤ 100000) :
    Calls Tryd.prog 20 #[.slice A n c, .slice B m d] w (GivesFd w l mark) := by
  have HST := Lib.hid (fun (a t : Nat) W (k : Below w.heap.size w W) (ha : a + m ≤ n) => rstands_any A n c l B m d mark a t W (hP.below k) (hQ.below k) hr ha hm hn)
  have hl1 := hP.len
  have hl2 := hQ.len
  subst hl1 hl2
  clear hP hQ hr
  by_cases h0 : mark.length = 0
  · have HF : Hid (FindR l mark 0 0 false) := .inr ⟨rfl, rfl, rfl, .inl h0⟩
    clear HST
    generalize mark.length = m at *
    subst h0
    go_enter Tryd.func20, Tryd.ntmps20
    go_wp2_with (fail)
    go_loopw [7] (fun i wr => i = .int .i64 0 ∧ w = wr) (fun _ _ => 0)
    case atStart => exact ⟨rfl, rfl⟩
    case round =>
      obtain ⟨rfl, rfl⟩ := hrel
      go_wp2
      go_ret3
      exact ⟨0, 0, false, rfl, HF.out, Below.refl _ _⟩
  · have hpos : 0 < mark.length := by omega
    have d0 : decide ((0 : Int) < (mark.length : Int)) = true := by simp; omega
    go_enter Tryd.func20, Tryd.ntmps20
    go_wp2_with (fail)
    go_loopw [7] (fun i wr => ∃ k : Nat, i = .int .i64 (k : Int) ∧ (k = 0 ∨ k + mark.length ≤ l.length + 1) ∧ Hid (∀ b, b < k → ∀ u, u < 4 → ¬ St l mark b u) ∧ Below w.heap.size w wr) (fun i _ => l.length + 1 - (intOf i).toNat)
    case atStart => exact ⟨0, rfl, .inl rfl, fun b hb => absurd hb (by omega), Below.refl _ _⟩
    case round =>
      obtain ⟨k, rfl, hk, HN, hbel⟩ := hrel
      by_cases h1 : k + mark.length ≤ l.length
      · have d1 : decide ((k : Int) ≤ (l.length : Int) - (mark.length : Int)) = true := by simp; omega
        go_wp2_with (fail)
        go_loopw [8] (fun i wr => ∃ t : Nat, i = .int .i64 (t : Int) ∧ t ≤ 4 ∧ Hid (∀ u, u < t → ¬ St l mark k u) ∧ Below w.heap.size w wr) (fun i _ => 4 - (intOf i).toNat)
        case atStart => exact ⟨0, rfl, by decide, fun b hb => absurd hb (by omega), hbel⟩
        case round =>
          obtain ⟨t, rfl, ht, HM, hbel2⟩ := hrel
          by_cases h2 : t < 4
          · go_wp2_with (fail)
            refine (HST.out k t _ hbel2 h1).mono ?_
            rintro e w2 ⟨r, rfl, hr, T2⟩
            have T2 := nxt hbel2 T2
            cases r with
            | true =>
              have HF : Hid (FindR l mark k t true) := .inl ⟨rfl, hpos, h1, h2, hr.1 rfl, HM.out, HN.out⟩
              clear hr
              go_wp2
              go_ret3
              exact ⟨k, t, true, rfl, HF.out, T2⟩
            | false =>
              have HF : Hid (∀ u, u < t + 1 → ¬ St l mark k u) := fun u hu hs => by
                by_cases h3 : u < t
                · exact HM.out u h3 hs
                · obtain rfl : u = t := by omega
                  exact absurd (hr.2 hs) (by decide)
              clear hr
              go_wp2
              go_roundw
              case rel => exact ⟨t + 1, by go_num, by omega, HF.out, T2⟩
              case measure => simp [intOf]; omega
          · obtain rfl : t = 4 := by omega
            have HF : Hid (∀ b, b < k + 1 → ∀ u, u < 4 → ¬ St l mark b u) := fun b hb u hu hs => by
              by_cases h3 : b < k
              · exact HN.out b h3 u hu hs
              · obtain rfl : b = k := by omega
                exact HM.out u hu hs
            go_wp2
            go_roundw
            case rel => exact ⟨k + 1, by go_num, .inr (by omega), HF.out, hbel2⟩
            case measure => simp [intOf]; omega
      · have d1 : decide ((k : Int) ≤ (l.length : Int) - (mark.length : Int)) = false := by simp; omega
        have HF : Hid (FindR l mark 0 0 false) := .inr ⟨rfl, rfl, rfl, .inr (fun b hb => HN.out b (by omega))⟩
        go_wp2
        go_ret3
        exact ⟨0, 0, false, rfl, HF.out, hbel⟩

theorem rfind_any (A : Option Addr) (n c : Nat) (l : List Pt) (B : Option Addr) (m d : Nat) (mark : List Pt) (w : World) (hP : Ps w A n c l) (hQ : Ps w B m d mark) (hr : ∀ p ∈ mark, Near p) (hm : m ≤ 400) (hn : n ≤ 400) :
    Calls Tryd.prog 20 #[.slice A n c, .slice B m d] w (GivesFd w l mark) := rfind_big A n c l B m d mark w hP hQ hr hm (by omega)
theorem Ps.drop {w : World} {b o n c : Nat} {l : List Pt} (h : Ps w (some ⟨b, o, none⟩) n c l) (k : Nat) (hk : k ≤ n) : Ps w (some ⟨b, o + k * 2, none⟩) (n - k) (c - k) (l.drop k) := by
  obtain ⟨h1, h2, h3, h4⟩ := h
  refine ⟨by simp; omega, by omega, by omega, fun hn => ?_⟩
  obtain ⟨b', o', e, hb, hc⟩ := h4 (by omega)
  cases e
  refine ⟨b, o + k * 2, rfl, hb, fun j hj => ?_⟩
  have hj' : k + j < l.length := by simp at hj; omega
  obtain ⟨c1, c2⟩ := hc (k + j) hj'
  rw [List.getElem_drop]
  rw [show o + k * 2 + j * 2 = o + (k + j) * 2 by omega]
  exact ⟨c1, c2⟩
end Go.Proofs.YtkcpkfimmolkkaaDoor
