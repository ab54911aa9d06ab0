/- Package phase: slices.Clone of points; Turn. -/
import Derived.Test.YtmpelpmgpklidaaPh2
import Derived.Test.YtmpelpmgpklidaaPtW
import Derived.Lib.SliceRun
namespace Go.Proofs.Ytmpelpmgpklidaa
open Go.RowKit

set_option maxHeartbeats 1000000 in
theorem pclone_any (A : Option Addr) (n c : Nat) (l : List Pt) (w : World) (hP : Cs w A n c l) (hn : n ≤ 1000000) :
    Calls Try.prog 31 #[.slice A n c] w (GivesC w l) := by
  have q22 : ∀ (w : World) (a : Option Addr) (n c n' c' : Nat), (binOp .eql 27 (.slice a n c) (.slice none n' c')).run Try.prog w = .ok (.bool a.isNone) w := fun w a n c n' c' => Lib.run_eql_slice_nil w _ _ a n c n' c' Try.underlying27
  have hlen := Lib.hid hP.len
  rcases A with _ | ad
  · have h0 : n = 0 := by
      rcases Nat.eq_zero_or_pos n with h | h
      · exact h
      · obtain ⟨b, o, x, y, e, _⟩ := hP.at_ 0 h
        cases e
    have hl : l = [] := List.eq_nil_of_length_eq_zero (by rw [hP.len, h0])
    subst h0
    subst hl
    clear hP
    go_enter Try.func31, Try.ntmps31
    go_wp2
    go_ret
    exact ⟨_, rfl, OwnC.nil _ _, Below.refl _ _⟩
  · have HB := Lib.hid (hP.below ((Below.refl _ _).alloc (Nat.le_refl _) (.cells #[] 25)))
    have HE := Lib.hid (OwnC.empty w)
    clear hP
    go_enter Try.func31, Try.ntmps31
    go_wp2_with ((with_reducible refine app_cxs _ rfl (.tmp 5) (.tmp 6) rfl w.heap.size (.slice (some ⟨w.heap.size, 0, none⟩) 0 0) [] rfl ?_ (some ad) n c l rfl ?_ ?_ ?_ ?_); (exact HE.out); (exact HB.out); (simp; omega); (simp); intro v1 w1 hown1 hgrow1 hwhere1)
    go_ret
    simp only [List.nil_append] at hown1
    exact ⟨_, rfl, hown1, ((Below.refl _ w).alloc (Nat.le_refl _) _).grown hgrow1 (by simp) (by intro k hk; simp [Value.ownBlock] at hk; omega)⟩

set_option maxHeartbeats 2000000 in
theorem turn_any (A : Option Addr) (n c : Nat) (l : List Pt) (k : Int) (w : World) (hP : Cs w A n c l) (hn : n ≤ 1000000) :
    Calls Try.prog 22 #[.slice A n c, .int .i64 k] w (GivesC w (turnB l k)) := by
  have hl := hP.len
  have HCL := Lib.hid (pclone_any A n c l w hP hn)
  clear hP
  by_cases h0 : l.length = 0
  · have hl0 : l = [] := List.eq_nil_of_length_eq_zero h0
    subst hl0
    go_enter Try.func22, Try.ntmps22
    go_wp2_with (fail)
    refine HCL.out.mono ?_
    rintro e w1 ⟨v, rfl, hown, T1⟩
    obtain ⟨A1, c1, hv, -⟩ := hown.shape
    obtain rfl : v = .slice A1 0 c1 := hv
    have HON := Lib.hid hown
    clear hown
    go_wp2_with (fail)
    go_loopw [12] (fun i wr => i = .int .i64 0 ∧ w1 = wr) (fun _ _ => 0)
    case atStart => exact ⟨rfl, rfl⟩
    case round =>
      obtain ⟨rfl, rfl⟩ := hrel
      go_wp2
      go_ret
      exact ⟨_, rfl, HON.out, T1⟩
  · have hpos : 0 < l.length := by omega
    subst hl
    go_enter Try.func22, Try.ntmps22
    go_wp2_with (fail)
    refine HCL.out.mono ?_
    rintro e w1 ⟨v, rfl, hown, T1⟩
    obtain ⟨g, c1, rfl, hg1, hg2, hc1, hc2⟩ := hown.form hpos
    have HON := Lib.hid hown
    clear hown
    go_wp2_with (fail)
    go_loopw [12] (fun i wr => ∃ j : Nat, j ≤ l.length ∧ i = .int .i64 (j : Int) ∧ OwnC wr w.heap.size (.slice (some ⟨g, 0, none⟩) l.length c1) (turnB (l.take j) k ++ l.drop j) ∧ Below w.heap.size w wr) (fun i _ => l.length - (intOf i).toNat)
    case atStart => exact ⟨0, Nat.zero_le _, rfl, HON.out, T1⟩
    case round =>
      obtain ⟨j, hj, rfl, hown, hbel⟩ := hrel
      by_cases hlt : j < l.length
      · have d : decide ((j : Int) < (l.length : Int)) = true := by simp; omega
        have htl : (turnB (l.take j) k).length = j := by unfold turnB; simp; omega
        have hcl : (turnB (l.take j) k ++ l.drop j).length = l.length := by simp [htl]; omega
        obtain ⟨x, y, hc, hf, hx, hy⟩ := hown.cell j (by omega)
        have hat : (turnB (l.take j) k ++ l.drop j)[j]'(by omega) = l[j] := by
          rw [List.getElem_append_right (by omega)]
          simp [htl]
        rw [hat] at hx hy
        have hst : turnB (l.take (j + 1)) k ++ l.drop (j + 1) = (turnB (l.take j) k ++ l.drop j).set j (rotK k l[j]) := by
          rw [List.set_append_right _ _ (by omega), htl, Nat.sub_self, List.drop_eq_getElem_cons hlt, List.set_cons_zero, List.take_succ_eq_append_getElem hlt]
          unfold turnB
          rw [List.map_append, List.append_assoc]
          rfl
        have hTM := turned_any x y l[j] k wr hx hy
        clear hx hy hat htl hcl
        generalize rotK k l[j] = q at *
        generalize turnB (l.take j) k ++ l.drop j = cur at *
        have HTM := Lib.hid hTM
        have HST := Lib.hid hst
        have HOW := Lib.hid hown
        clear hTM hst hown
        go_wp2_with (fail)
        refine HTM.out.mono ?_
        rintro e w2 ⟨c3, d3, rfl, f1, f2, rfl⟩
        have HS := Lib.hid (HOW.out.stored j f1 f2)
        have s1 := fun (W : World) (m : Mode) => run_store Try.prog W ⟨g, j, none⟩ (.complex .f64 c3 d3) m rfl
        clear f1 f2
        go_wp2
        go_roundw
        case rel =>
          refine ⟨j + 1, by omega, by go_num, ?_, ?_⟩
          · rw [HST.out]
            exact HS.out.1
          · exact hbel.setCell hg1 _
        case measure => simp [intOf]; omega
      · obtain rfl : j = l.length := by omega
        have d : decide ((l.length : Int) < (l.length : Int)) = false := by simp
        rw [List.take_length, List.drop_length, List.append_nil] at hown
        have HOW := Lib.hid hown
        clear hown
        go_wp2
        go_ret
        exact ⟨_, rfl, HOW.out, hbel⟩
end Go.Proofs.Ytmpelpmgpklidaa
