/- What kedgeref07's Turn and Points answer. -/
import Derived.Test.YtgkbgkgfjbmniaaRph1
import Derived.Test.YtgkbgkgfjbmniaaPtV
namespace Go.Proofs.Ytgkbgkgfjbmniaa
open Go.RowKit

/-- parts that a turn may negate -/
def Tame (l : List Pt) : Prop := ∀ p ∈ l, -4611686018427387904 ≤ p.1 ∧ p.1 ≤ 4611686018427387904 ∧ -4611686018427387904 ≤ p.2 ∧ p.2 ≤ 4611686018427387904

set_option maxHeartbeats 2000000 in
theorem rturn_any (A : Option Addr) (n c : Nat) (l : List Pt) (k : Int) (w : World) (hP : Ps w A n c l) (hn : n ≤ 1000000) (hT : Tame l) :
    Calls Try.prog 19 #[.slice A n c, .int .i64 k] w (GivesP w (turnB l k)) := by
  obtain ⟨hl, hnc, hcm, hcell⟩ := hP
  unfold maxLen at hcm
  subst hl
  have HC := Lib.hid hcell
  have HT := Lib.hid hT
  clear hcell hT
  go_enter Try.func19, Try.ntmps19
  go_wp2_with (fail)
  go_loopw [5, 6] (fun v i wr => ∃ j : Nat, j ≤ l.length ∧ i = .int .i64 (j : Int) ∧ OwnP wr w.heap.size v (turnB (l.take j) k) ∧ Below w.heap.size w wr) (fun _ i _ => l.length - (intOf i).toNat)
  case atStart => exact ⟨0, Nat.zero_le _, rfl, OwnP.nil _ _, Below.refl _ _⟩
  case round =>
    obtain ⟨j, hj, rfl, hown, hbel⟩ := hrel
    by_cases hlt : j < l.length
    · obtain ⟨g, o, rfl, hg, hc⟩ := HC.out (by omega)
      obtain ⟨c1, c2⟩ := hc j hlt
      have c1 := (hbel.cell (p := ⟨g, o + j * 2, none⟩) hg).trans c1
      have c2 := (hbel.cell (p := ⟨g, o + j * 2 + 1, none⟩) hg).trans c2
      have hta := HT.out l[j] (List.getElem_mem hlt)
      have hst : turnB (l.take (j + 1)) k = turnB (l.take j) k ++ [rotK k l[j]] := by
        unfold turnB
        rw [List.take_succ_eq_append_getElem hlt, List.map_append]
        rfl
      have hTM := times_any l[j] k wr hta
      have hlen : (turnB (l.take j) k).length ≤ 1000000 := by unfold turnB; simp; omega
      generalize rotK k l[j] = q at *
      generalize turnB (l.take j) k = cur at *
      generalize l[j] = x at *
      obtain ⟨xa, xb⟩ := x
      simp only at c1 c2
      have HTM := Lib.hid hTM
      have HST := Lib.hid hst
      have HON := Lib.hid hown
      clear hTM hst hown hc hta
      obtain ⟨qa, qb⟩ := q
      go_wp2_with (fail)
      refine HTM.out.mono ?_
      rintro e w2 ⟨rfl, T2⟩
      have hbel2 := nxt hbel T2
      have hz := hbel2.size
      have HO2 := Lib.hid (HON.out.below T2)
      go_wp2_with ((refine app_pt _ rfl (.tmp 13) (.tmp 20) rfl w.heap.size u5 cur rfl ?_ w2.heap.size (qa, qb) rfl ?_ ?_ ?_ ?_); (exact HO2.out.below ((Below.refl _ _).alloc (Nat.le_refl _) _)); (exact heap_alloc_new w2 _); (omega); (simp; omega); intro v3 w3 hown3 hgrow3 hwhere3; have HO3 := Lib.hid (And.intro hown3 hgrow3); clear hown3 hgrow3 hwhere3)
      go_roundw
      case rel =>
        refine ⟨j + 1, by omega, by go_num, ?_, ?_⟩
        · rw [HST.out]
          exact HO3.out.1
        · exact (hbel2.alloc hz _).grown HO3.out.2 (by simp; omega) (fun k' hk => (HO2.out.lt k' hk).1)
      case measure => simp [intOf]; omega
    · obtain rfl : j = l.length := by omega
      rw [List.take_length] at hown
      have HON := Lib.hid hown
      clear hown
      go_wp2
      go_ret
      exact ⟨_, rfl, HON.out, hbel⟩
end Go.Proofs.Ytgkbgkgfjbmniaa
