/- Package timer, as landed: Tick. -/
import Derived.Test.YtdkebneiikdohaaTmK2
namespace Go.Proofs.Ytdkebneiikdohaa
open Go.RowKit Go.Maps
set_option maxRecDepth 20000

/-- timers of which the first k have ticked -/
def tmMid (most : Int) (l : List Tmr) (k : Nat) : List Tmr := tmTick most (l.take k) ++ l.drop k
theorem tmStep_key (most : Int) (t : Tmr) : (tmStep most t).1 = t.1 := by unfold tmStep; split <;> rfl
theorem tmKeys_tick (most : Int) (l : List Tmr) : tmKeys (tmTick most l) = tmKeys l := by
  unfold tmKeys tmTick
  rw [List.map_map]
  exact List.map_congr_left (fun t _ => tmStep_key most t)
theorem tmKeys_mid (most : Int) (l : List Tmr) (k : Nat) : tmKeys (tmMid most l k) = tmKeys l := by
  unfold tmMid
  rw [show tmKeys (tmTick most (l.take k) ++ l.drop k) = tmKeys (tmTick most (l.take k)) ++ tmKeys (l.drop k) by simp [tmKeys], tmKeys_tick]
  rw [show tmKeys (l.take k) ++ tmKeys (l.drop k) = tmKeys (l.take k ++ l.drop k) by simp [tmKeys], List.take_append_drop]
theorem tmMid_get {most : Int} {l : List Tmr} (hs : (tmKeys l).Pairwise (· < ·)) (k : Nat) (hk : k < l.length) : tmGet (tmMid most l k) l[k].1 = some l[k].2 := by
  obtain ⟨h1, h2⟩ := tmTick_mid most l k hk
  have h3 : k < (tmMid most l k).length := by unfold tmMid; omega
  have h4 : (tmMid most l k)[k] = l[k] := by
    have := List.getElem?_eq_some_iff.1 h2
    exact this.2
  have := tmGet_at (l := tmMid most l k) (by rw [tmKeys_mid]; exact hs) k h3
  rw [h4] at this
  exact this
theorem tmMid_next {most : Int} {l : List Tmr} (hs : (tmKeys l).Pairwise (· < ·)) (k : Nat) (hk : k < l.length) (j : Int) : tmGet (tmMid most l (k + 1)) j = if j = l[k].1 then some (tmStep most l[k]).2 else tmGet (tmMid most l k) j := by
  obtain ⟨h1, h2⟩ := tmTick_mid most l k hk
  have h3 : k < (tmMid most l k).length := by unfold tmMid; omega
  have h4 : (tmMid most l k)[k] = l[k] := (List.getElem?_eq_some_iff.1 h2).2
  have h5 := tmTick_step most l k hk
  have h6 := tmGet_change (l := tmMid most l k) (by rw [tmKeys_mid]; exact hs) k h3 (tmStep most l[k]).2 j
  rw [h4] at h6
  rw [← h6]
  unfold tmMid at h5 ⊢
  rw [← h5]
  congr 2
  exact Prod.ext (tmStep_key most l[k]) rfl
theorem tmMid_len (most : Int) (l : List Tmr) (k : Nat) (hk : k ≤ l.length) : (tmMid most l k).length = l.length := by
  simp [tmMid, tmTick]
  omega
def GivesTk (g m : Nat) (most : Int) (l : List Tmr) (w : World) (e : Ending) (w' : World) : Prop := ∃ v, e = .returned v ∧ OwnZ w' w.heap.size v (tmDue l) ∧ TmI g m most (tmTick most l) w' ∧ Off (· = m) w w'
set_option maxHeartbeats 4000000 in
theorem tmtick_i (g m : Nat) (most : Int) (l : List Tmr) (w : World) (hI : TmI g m most l w) (hok : TmOk most l) (hl : l.length ≤ 1000) :
    Calls Try.prog 21 #[.pointer (some ⟨g, 0, none⟩)] w (GivesTk g m most l w) := by
  have hs := hok.2.1
  have H1 := Lib.hid (tmkeys_any g m most l w hI hs (by omega))
  have HOK := Lib.hid hok
  have HI := Lib.hid hI
  have hmw := hI.map.lt
  have hgw := hI.cells.2.2
  have hgm : g ≠ m := fun e => hI.ne e.symm
  clear hI hok
  go_enter Try.func21, Try.ntmps21
  go_wp2_with (fail)
  refine H1.out.mono ?_
  rintro e w1 ⟨v, rfl, hv, T1⟩
  obtain ⟨A, c, rfl, hz, -, hb0⟩ := hv.shape
  have HB := Lib.hid (fun k hk => hv.lt k hk)
  have HZ := Lib.hid hz
  have HI1 := Lib.hid (HI.out.below T1)
  have hln : (tmKeys l).length = l.length := by simp [tmKeys]
  simp only [hln] at hb0 ⊢
  clear hv hz H1 HI
  go_wp2_with (fail)
  go_loopw [3, 10] (fun v i wr => ∃ k : Nat, k ≤ l.length ∧ i = .int .i64 (k : Int) ∧ Hid (OwnZ wr w1.heap.size v (tmDue (l.take k))) ∧ Hid (TmI g m most (tmMid most l k) wr) ∧ Hid (Off (· = m) w1 wr)) (fun _ i _ => l.length - (intOf i).toNat)
  case atStart => exact ⟨0, Nat.zero_le _, rfl, OwnZ.nil _ _, by rw [show tmMid most l 0 = l by simp [tmMid, tmTick]]; exact HI1.out, Off.refl _ _⟩
  case round =>
    obtain ⟨k, hk, rfl, HO, HT, HF⟩ := hrel
    by_cases hlt : k < l.length
    · have d1 : (k : Int) < (l.length : Int) := by omega
      obtain ⟨b, rfl, hbo⟩ := hb0 (by omega)
      obtain ⟨b', o', e', hbw, hcl⟩ := HZ.out.cell (by omega)
      injection e' with e'
      injection e' with e1 e2
      subst e1 e2
      have hwb := (HB.out b hbo).1
      have c2 := (HF.out.cell (p := ⟨b, 0 + k, none⟩) hbw (by intro h; have h : b = m := h; omega)).trans (hcl k (by omega))
      have hkey : (tmKeys l)[k]'(by omega) = l[k].1 := by simp [tmKeys]
      rw [hkey, Nat.zero_add] at c2
      obtain ⟨hr1, hr2, hr3⟩ := HOK.out.2.2 l[k] (List.getElem_mem _)
      obtain ⟨c0, c1, hgr⟩ := HT.out.cells
      have hlook := HT.out.map.look l[k].1 hr1 false
      rw [tmMid_get hs k hlt] at hlook
      simp only [Bool.false_eq_true, if_false, Option.getD_some, waitV] at hlook
      have HNX := Lib.hid (tmMid_next (most := most) hs k hlt)
      have HDU := Lib.hid (tmDue_step l k hlt)
      have hm1 := HOK.out.1
      have hmr := HT.out.map.lt
      clear hkey hcl hbo
      obtain ⟨t, ht⟩ : ∃ t, l[k] = t := ⟨_, rfl⟩
      rw [ht] at c2 hr1 hr2 hr3 hlook HNX HDU
      obtain ⟨key, x, y⟩ := t
      simp only at c2 hr1 hr2 hr3 hlook HNX HDU
      obtain ⟨k0, k1⟩ := two_new wr (.int .i64 x) (.int .i64 y) 83
      have hqm : m ≠ wr.heap.size := by omega
      have hqg : g ≠ wr.heap.size := by omega
      by_cases hx : x = 1
      · subst hx
        rw [if_neg (show ¬ 0 < (1 : Int) - 1 by omega)] at HDU
        have hu3 : ∀ j, u3.ownBlock = some j → w1.heap.size ≤ j ∧ j < wr.heap.size := fun j hj => HO.out.lt j hj
        have hdl := tmDue_len (l.take k)
        have hdl2 : (tmDue (l.take k)).length ≤ k := by simp at hdl; omega
        have U1 : Below wr.heap.size wr (wr.alloc (.cells #[.int .i64 0, .int .i64 y] 83)) := (Below.refl _ _).alloc (Nat.le_refl _) _
        have hlit := Zs.lit1 (wr.alloc (.cells #[.int .i64 0, .int .i64 y] 83)) key
        rw [show (wr.alloc (.cells #[.int .i64 0, .int .i64 y] 83)).heap.size = wr.heap.size + 1 by simp] at hlit
        have HLIT := Lib.hid hlit
        have U2 : Below wr.heap.size wr ((wr.alloc (.cells #[.int .i64 0, .int .i64 y] 83)).alloc (.cells #[.int .i64 key] 3)) := U1.alloc (by simp) _
        have HO4 := Lib.hid (HO.out.below U2)
        have HU2 := Lib.hid U2
        have hbase : w1.heap.size ≤ ((wr.alloc (.cells #[.int .i64 0, .int .i64 y] 83)).alloc (.cells #[.int .i64 key] 3)).heap.size := Nat.le_trans HF.out.size U2.size
        have HBA := Lib.hid hbase
        obtain ⟨j0, j1⟩ := two_new wr (.int .i64 0) (.int .i64 y) 83
        have f0 : (wr.alloc (.cells #[.int .i64 0, .int .i64 y] 83)).frozen? ⟨wr.heap.size, 0, none⟩ = false := frozen_of_row _ _ _ _ _ (heap_alloc_new wr _)
        have U3 : Below (wr.alloc (.cells #[.int .i64 0, .int .i64 y] 83)).heap.size (wr.alloc (.cells #[.int .i64 0, .int .i64 y] 83)) ((wr.alloc (.cells #[.int .i64 0, .int .i64 y] 83)).alloc (.cells #[.int .i64 key] 3)) := (Below.refl _ _).alloc (Nat.le_refl _) _
        have HJ := Lib.hid (And.intro j0 j1)
        have HU3 := Lib.hid U3
        clear U1 U2 hbase hdl j0 j1 U3 f0 hlit
        go_wp2_with (at_builtin; ((refine app_z _ rfl (.tmp 27) (.tmp 29) rfl w1.heap.size u3 (tmDue (l.take k)) rfl ?_ _ _ _ [key] rfl ?_ ?_ ?_ ?_); (exact HO4.out); (exact HLIT.out); (omega); (exact HBA.out); intro v5 w5 hown5 hgrow5 hwhere5))
        have O5 := (Off.refl (fun j => u3.ownBlock = some j) _).grown hgrow5 (fun j hj => .inl hj)
        have hne : ∀ j, j < w1.heap.size → ¬ u3.ownBlock = some j := fun j hj e => by have := (hu3 j e).1; omega
        have hneq : ¬ u3.ownBlock = some wr.heap.size := fun e => by have := (hu3 _ e).2; omega
        have hs1 : (wr.alloc (.cells #[.int .i64 0, .int .i64 y] 83)).heap.size = wr.heap.size + 1 := by simp
        have hs2 := HU2.out.size
        have hqlt : wr.heap.size < ((wr.alloc (.cells #[.int .i64 0, .int .i64 y] 83)).alloc (.cells #[.int .i64 key] 3)).heap.size := by simp; omega
        have hw1s := HF.out.size
        have hT1s := T1.size
        have y0 := (O5.cell (p := ⟨wr.heap.size, 0, none⟩) hqlt hneq).trans ((HU3.out.cell (p := ⟨wr.heap.size, 0, none⟩) (by rw [hs1]; exact Nat.lt_succ_self _)).trans HJ.out.1)
        have y1 := (O5.cell (p := ⟨wr.heap.size, 1, none⟩) hqlt hneq).trans ((HU3.out.cell (p := ⟨wr.heap.size, 1, none⟩) (by rw [hs1]; exact Nat.lt_succ_self _)).trans HJ.out.2)
        have hbq := (O5.block wr.heap.size hqlt hneq).trans ((HU3.out.block wr.heap.size (by rw [hs1]; exact Nat.lt_succ_self _)).trans (heap_alloc_new wr _))
        have hfq : ∀ r, w5.frozen? ⟨wr.heap.size, r, none⟩ = false := fun r => frozen_of_row w5 _ _ _ _ hbq
        have f0 := hfq 0
        have f1 := hfq 1
        have HT5 := Lib.hid ((HT.out.below HU2.out).off O5 (hne g (by omega)) (hne m (by omega)))
        have C0 := HT5.out.cells.1
        have C1 := HT5.out.cells.2.1
        have HF5 := Lib.hid ((HF.out.trans (Off.of_below HU2.out)).thru O5 (fun i hi e => absurd e (hne i hi)))
        have HO5 : Hid (OwnZ w5 w1.heap.size v5 (tmDue (l.take (k + 1)))) := by rw [HDU.out]; exact hown5
        have hq5 : wr.heap.size < w5.heap.size := Nat.lt_of_lt_of_le hqlt O5.size
        have hv5 : ∀ j, v5.ownBlock = some j → j ≠ wr.heap.size := fun j hj e => by
          rcases hwhere5 with h | h
          · exact hneq (by rw [← h, hj, e])
          · rw [h] at hj; injection hj with hj; rw [e] at hj; omega
        have HV5 := Lib.hid hv5
        have HBQ := Lib.hid hbq
        clear hown5 hgrow5 hwhere5 O5 hfq hbq k0 k1 c0 c1 c2 hlook HJ HU3 HLIT HO4 HU2 HBA HT HF HO hu3 hne hneq hv5 HDU
        obtain ⟨q, hq⟩ : ∃ q, wr.heap.size = q := ⟨_, rfl⟩
        simp only [hq] at *
        go_region
        obtain ⟨s, hsm⟩ : ∃ s, min (2 * y) most = s := ⟨_, rfl⟩
        have HSM := Lib.hid hsm
        simp only [hsm]
        go_wp2_with (fail)
        have h2 := heap_setCell_same w5 q 1 _ _ (.int .i64 s) HBQ.out
        have h3 : ((w5.setCell ⟨q, 1, none⟩ (.int .i64 s)).setCell ⟨q, 0, none⟩ (.int .i64 s)).drew.heap[q]? = some (.cells #[.int .i64 s, .int .i64 s] 83 (0, 0)) := heap_setCell_same _ q 0 _ _ (.int .i64 s) h2
        have OW : Off (· = q) w5 ((w5.setCell ⟨q, 1, none⟩ (.int .i64 s)).setCell ⟨q, 0, none⟩ (.int .i64 s)).drew := (((Off.refl (· = q) w5).one 1 _).one 0 _).drew
        have j0 := cell_of_row _ _ 0 _ _ _ h3
        have j1 := cell_of_row _ _ 1 _ _ _ h3
        have HTW := Lib.hid (HT5.out.off OW (by omega) (by omega))
        have HOW := Lib.hid (HO5.out.off OW (fun j hj => HV5.out j hj))
        have HFW := Lib.hid (HF5.out.thru OW (fun i hi e => by omega))
        have C2 := HTW.out.cells.2.1
        have hst : tmStep most (key, 1, y) = (key, s, s) := by
          unfold tmStep
          rw [if_neg (by simp)]
          have : (if most < 2 * y then most else 2 * y) = s := by rw [← HSM.out]; split <;> omega
          simp only [this]
        rw [hst] at HNX
        clear h2 h3 OW y0 y1 f0 f1 C0 C1 HT5 HO5 HF5 HV5 HBQ hsm
        generalize ((w5.setCell ⟨q, 1, none⟩ (.int .i64 s)).setCell ⟨q, 0, none⟩ (.int .i64 s)).drew = W at *
        have hMd : MapW W.drew m (tmMid most l k) := HTW.out.map.below (Below.refl _ _).drew
        obtain ⟨w2, hrun, hM2, hg2⟩ := hMd.put (by rw [tmKeys_mid]; exact hs) (by rw [tmMid_len _ _ _ hk]; omega) key hr1 (s, s) (tmMid most l (k + 1)) HNX.out
        unfold waitV at hrun
        simp only at hrun
        have HE : Hid (OwnZ w2 w1.heap.size v5 (tmDue (l.take (k + 1))) ∧ TmI g m most (tmMid most l (k + 1)) w2 ∧ Off (· = m) w1 w2) := by
          have O : Off (· = m) W w2 := ((Off.refl (· = m) W).drew).grown hg2 (fun j hj => .inl (by injection hj with hj; exact hj.symm))
          exact ⟨HOW.out.off O (fun j hj e => by have := (HOW.out.lt j hj).1; omega), ⟨(O.block g (lt_of_block HTW.out.row) hgm).trans HTW.out.row, HTW.out.ne, hM2⟩, HFW.out.trans O⟩
        clear hMd hM2 hg2 HTW HOW HFW HNX
        go_region
        go_wp2_with (fail)
        go_roundw
        case rel => exact ⟨k + 1, by omega, by go_num, HE.out.1, HE.out.2.1, HE.out.2.2⟩
        case measure => simp [intOf]; omega
      · have n1 : (x - 1 == 0) = false := by simp; omega
        have n2 : ¬ x - 1 = 0 := by omega
        have hst : tmStep most (key, x, y) = (key, x - 1, y) := by unfold tmStep; rw [if_pos (show 0 < x - 1 by omega)]
        rw [hst] at HNX
        rw [if_pos (show 0 < x - 1 by omega), List.append_nil] at HDU
        go_wp2_with (fail)
        obtain ⟨j0, j1⟩ := two_new wr (.int .i64 (x - 1)) (.int .i64 y) 83
        have U : Below wr.heap.size wr (wr.alloc (.cells #[.int .i64 (x - 1), .int .i64 y] 83)) := (Below.refl _ _).alloc (Nat.le_refl _) _
        have C1 := (U.cell (p := ⟨g, 1, none⟩) hgr).trans c1
        have HTW := Lib.hid (HT.out.below U)
        have HOW := Lib.hid (HO.out.below U)
        have HFW := Lib.hid (HF.out.trans (Off.of_below U))
        clear k0 k1 c0 c1 c2 hlook U HT HO HF
        generalize wr.alloc (.cells #[.int .i64 (x - 1), .int .i64 y] 83) = W at *
        have hMd : MapW W.drew m (tmMid most l k) := HTW.out.map.below (Below.refl _ _).drew
        obtain ⟨w2, hrun, hM2, hg2⟩ := hMd.put (by rw [tmKeys_mid]; exact hs) (by rw [tmMid_len _ _ _ hk]; omega) key hr1 (x - 1, y) (tmMid most l (k + 1)) HNX.out
        unfold waitV at hrun
        simp only at hrun
        have HE : Hid (OwnZ w2 w1.heap.size u3 (tmDue (l.take (k + 1))) ∧ TmI g m most (tmMid most l (k + 1)) w2 ∧ Off (· = m) w1 w2) := by
          have O : Off (· = m) W w2 := ((Off.refl (· = m) W).drew).grown hg2 (fun j hj => .inl (by injection hj with hj; exact hj.symm))
          refine ⟨?_, ⟨(O.block g (lt_of_block HTW.out.row) hgm).trans HTW.out.row, HTW.out.ne, hM2⟩, HFW.out.trans O⟩
          rw [HDU.out]
          exact HOW.out.off O (fun j hj e => by have := (HOW.out.lt j hj).1; omega)
        clear hMd hM2 hg2 HTW HOW HFW HNX HDU
        go_region
        go_wp2_with (fail)
        go_roundw
        case rel => exact ⟨k + 1, by omega, by go_num, HE.out.1, HE.out.2.1, HE.out.2.2⟩
        case measure => simp [intOf]; omega
    · have d1 : ¬ ((k : Int) < (l.length : Int)) := by omega
      obtain rfl : k = l.length := by omega
      have HE : Hid (OwnZ wr w.heap.size u3 (tmDue l) ∧ TmI g m most (tmTick most l) wr ∧ Off (· = m) w wr) := by
        have h1 := HO.out
        have h2 := HT.out
        rw [List.take_length] at h1
        rw [show tmMid most l l.length = tmTick most l by simp [tmMid]] at h2
        exact ⟨h1.down T1.size, h2, (Off.of_below T1).trans HF.out⟩
      clear HO HT HF
      go_wp2
      go_ret
      exact ⟨_, rfl, HE.out⟩
end Go.Proofs.Ytdkebneiikdohaa
