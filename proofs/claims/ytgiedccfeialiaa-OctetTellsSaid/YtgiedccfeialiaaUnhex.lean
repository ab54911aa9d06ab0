/- What octet.Unhex and kedgeref01.Unhex answer. -/
import Derived.Test.YtgiedccfeialiaaHexD
import Derived.Test.YtgiedccfeialiaaWords
import Derived.Laws.BitsAllLaws
namespace Go.Proofs.Ytgiedccfeialiaa
open Go.RowKit

def pairOf (a b : UInt8) : Option UInt8 :=
  match digOf a, digOf b with
  | some x, some y => some (UInt8.ofNat (16 * x + y))
  | _, _ => none
def pairAt (l : List UInt8) (k : Nat) : Option UInt8 := pairOf (l.getD (2 * k) 0) (l.getD (2 * k + 1) 0)
def unhexL (l : List UInt8) : Nat → Option (List UInt8)
  | 0 => some []
  | k + 1 => (unhexL l k).bind fun t => (pairAt l k).map fun x => t ++ [x]
def unhexB (l : List UInt8) : Option (List UInt8) := if l.length % 2 = 0 then unhexL l (l.length / 2) else none
theorem unhexL_none (l : List UInt8) (k : Nat) (h : pairAt l k = none) : ∀ m, k < m → unhexL l m = none := by
  intro m
  induction m with
  | zero => intro h0; omega
  | succ m ih =>
    intro hm
    by_cases e : k = m
    · subst e; simp [unhexL, h]
    · simp [unhexL, ih (by omega)]
theorem unhexL_length (l : List UInt8) : ∀ k t, unhexL l k = some t → t.length = k := by
  intro k
  induction k with
  | zero => intro t h; simp [unhexL] at h; subst h; rfl
  | succ k ih =>
    intro t h
    simp only [unhexL] at h
    rcases hu : unhexL l k with _ | t0
    · simp [hu] at h
    · rcases hp : pairAt l k with _ | x
      · simp [hu, hp] at h
      · simp [hu, hp] at h
        subst h
        simp [ih t0 hu]
theorem pair_byte (a b : UInt8) (x y : Nat) (hx : x < 16) (hy : y < 16) (h1 : digOf a = some x) (h2 : digOf b = some y) : pairOf a b = some (UInt8.ofNat (16 * x + y)) ∧ (UInt8.ofNat (16 * x + y)).toNat = 16 * x + y := by
  refine ⟨by simp [pairOf, h1, h2], ?_⟩
  rw [UInt8.toNat_ofNat']
  omega
theorem u8_join (x y : Nat) (z : UInt8) (hx : x < 16) (hy : y < 16) (hz : z.toNat = 16 * x + y) : bits BinOp.or IntKind.u8 ((x : Int) * 16) (y : Int) = (z.toNat : Int) := by
  have e : ((x : Int) * 16) = ((x * 16 : Nat) : Int) := by omega
  rw [e, u8_or_nat _ _ (by omega) (by omega), nat_join 4 (x * 16) y (by omega) (by omega), hz]
  congr 1; omega
theorem row_set (t : List UInt8) (h k : Nat) (x : UInt8) (ht : t.length = k) (hk : k < h) : (bvs t ++ List.replicate (h - k) (Value.int .u8 0)).set k (.int .u8 (x.toNat : Int)) = bvs (t ++ [x]) ++ List.replicate (h - (k + 1)) (Value.int .u8 0) := by
  have e : h - k = (h - (k + 1)) + 1 := by omega
  rw [e, List.replicate_succ, List.set_append_right _ _ (by simp [bvs]; omega)]
  have : k - (bvs t).length = 0 := by simp [bvs, ht]
  rw [this]
  simp [bvs, bv]
theorem size_list (s : ByteArray) : s.data.toList.length = s.size := rfl
theorem getD_get (s : ByteArray) (i : Nat) (h : i < s.size) : s.data.toList.getD i 0 = s[i] := by
  rw [List.getD_eq_getElem?_getD, List.getElem?_eq_getElem (by simpa using h)]
  rfl

set_option maxRecDepth 20000 in
set_option maxHeartbeats 2000000 in
theorem unhex_any (s : ByteArray) (w : World) (hn : s.size ≤ 281474976710656) :
    Calls Try.prog 5 #[.string s] w (GivesU w (unhexB s.data.toList)) := by
  by_cases hev : s.size % 2 = 0
  · obtain ⟨h, hh⟩ : ∃ h, s.size = 2 * h := ⟨s.size / 2, by omega⟩
    have hU : unhexB s.data.toList = unhexL s.data.toList h := by
      unfold unhexB
      rw [if_pos (by rw [size_list]; exact hev), size_list, hh]
      congr 1; omega
    rw [hU]
    clear hU
    have e1 : (s.size : Int) / 2 = (h : Int) := by omega
    have e2 : (s.size : Int) % 2 = 0 := by omega
    have hle : 2 * h ≤ s.size := by omega
    have hle2 : s.size ≤ 2 * h := by omega
    clear hev
    have HH := Lib.hid hh; clear hh
    obtain ⟨i0, hi, hz0, hz1, hz2⟩ := info_parts Try.info5
    go_enter Try.func5, Try.ntmps5
    go_wp2_with (at_make; refine wpList_make_full _ rfl _ _ 22 rfl w.heap.size 5 i0 (.int .u8 0) 1 Try.underlying22 hi hz0 hz1 .i64 .i64 _ _ h rfl rfl rfl rfl (by rw [hz2]; omega) (by unfold maxLen; omega) (Nat.le_refl _) ?_; intro w1 hown hgrow)
    go_loopw [20] (fun i wr => ∃ k : Nat, k ≤ h ∧ i = .int .i64 k ∧ ∃ t, unhexL s.data.toList k = some t ∧ wr.ownsRow w.heap.size 5 1 (.slice (some ⟨w.heap.size, 0, none⟩) h h) h (bvs t ++ List.replicate (h - k) (.int .u8 0)) ∧ Below w.heap.size w wr) (fun i _ => h - (intOf i).toNat)
    case atStart => exact ⟨0, Nat.zero_le _, rfl, [], rfl, by simpa [toList_madeCells_one, Value.cells, bvs] using hown, (Below.refl _ _).grown hgrow (Nat.le_refl _) (by simp)⟩
    case round =>
      obtain ⟨k, hk, rfl, t, hut, hown2, hbel⟩ := hrel
      have HTL := Lib.hid (unhexL_length _ k t hut)
      have HU := Lib.hid hut; clear hut
      by_cases hlt : k < h
      · have hPA : pairAt s.data.toList k = pairOf (s[2 * k]'(by omega)) (s[2 * k + 1]'(by omega)) := by
          unfold pairAt
          rw [getD_get s (2 * k) (by omega), getD_get s (2 * k + 1) (by omega)]
        obtain ⟨a, hga⟩ : ∃ a, s[2 * k]'(by omega) = a := ⟨_, rfl⟩
        obtain ⟨b, hgb⟩ : ∃ b, s[2 * k + 1]'(by omega) = b := ⟨_, rfl⟩
        rw [hga, hgb] at hPA
        have HP := Lib.hid hPA; clear hPA
        have c1 : wr.cell? ⟨w.heap.size, k, none⟩ = some (.int .u8 0) := by
          have htl := HTL.out
          rw [hown2.cellAt _ (by omega), List.getElem?_append_right (by simp [bvs]; omega), List.getElem?_replicate, if_pos (by simp [bvs]; omega)]
        have f1 := hown2.frozenAt k
        have hst := fun u => hown2.stored k u
        have HST := Lib.hid hst; clear hst
        clear hown2
        rcases hda : digOf a with _ | x
        · have ok1 : digOk a = false := by simp [digOk, hda]
          have HN : Hid (pairAt s.data.toList k = none) := by rw [HP.out]; simp [Hid, pairOf, hda]
          clear hda
          go_wp2_with (go_at_call 10; refine (digit_any _ _).mono ?_; rintro e w' ⟨rfl, rfl⟩)
          go_ret2
          have hN := unhexL_none _ k HN.out h hlt
          rw [hN]
          exact ⟨_, _, _, rfl, Bys.nil _, hbel⟩
        · have ok1 : digOk a = true := by simp [digOk, hda]
          have hx : x < 16 := by have := digV_lt a; simpa [digV, hda] using this
          have v1 : digV a = x := by simp [digV, hda]
          rcases hdb : digOf b with _ | y
          · have ok2 : digOk b = false := by simp [digOk, hdb]
            have HN : Hid (pairAt s.data.toList k = none) := by rw [HP.out]; simp [Hid, pairOf, hda, hdb]
            clear hda hdb
            go_wp2_with (go_at_call 10; refine (digit_any _ _).mono ?_; rintro e w' ⟨rfl, rfl⟩)
            go_ret2
            have hN := unhexL_none _ k HN.out h hlt
            rw [hN]
            exact ⟨_, _, _, rfl, Bys.nil _, hbel⟩
          · have ok2 : digOk b = true := by simp [digOk, hdb]
            have hy : y < 16 := by have := digV_lt b; simpa [digV, hdb] using this
            have v2 : digV b = y := by simp [digV, hdb]
            obtain ⟨hz, hzn⟩ := pair_byte a b x y hx hy hda hdb
            have HZ := Lib.hid (HP.out.trans hz)
            generalize UInt8.ofNat (16 * x + y) = z at *
            have hj := u8_join x y z hx hy hzn
            clear hda hdb hz hzn
            go_wp2_with (go_at_call 10; refine (digit_any _ _).mono ?_; rintro e w' ⟨rfl, rfl⟩)
            go_roundw
            case rel =>
              refine ⟨k + 1, by omega, by go_num, t ++ [z], by simp [unhexL, HU.out, HZ.out], ?_, hbel.setCell (Nat.le_refl _) _⟩
              rw [← row_set t h k z HTL.out hlt]
              exact (HST.out _).1
            case measure => simp [intOf]; omega
      · go_wp2
        go_ret2
        obtain rfl : k = h := by omega
        rw [HU.out]
        exact ⟨_, _, _, rfl, Bys.of_own (by simpa using hown2), hbel⟩
  · have hU : unhexB s.data.toList = none := by
      unfold unhexB
      rw [if_neg (by rw [size_list]; exact hev)]
    rw [hU]
    clear hU
    have e2 : (s.size : Int) % 2 = 1 := by omega
    clear hev
    go_enter Try.func5, Try.ntmps5
    go_wp2
    go_ret2
    exact ⟨_, _, _, rfl, Bys.nil _, Below.refl _ _⟩

set_option maxRecDepth 20000 in
set_option maxHeartbeats 2000000 in
theorem runhex_any (s : ByteArray) (w : World) (hn : s.size ≤ 140737488355328) :
    Calls Try.prog 6 #[.string s] w (GivesU w (unhexB s.data.toList)) := by
  by_cases hev : s.size % 2 = 0
  · obtain ⟨h, hh⟩ : ∃ h, s.size = 2 * h := ⟨s.size / 2, by omega⟩
    have hU : unhexB s.data.toList = unhexL s.data.toList h := by
      unfold unhexB
      rw [if_pos (by rw [size_list]; exact hev), size_list, hh]
      congr 1; omega
    rw [hU]
    clear hU
    have e2 : (s.size : Int) % 2 = 0 := by omega
    have hle : 2 * h ≤ s.size := by omega
    have hle2 : s.size ≤ 2 * h := by omega
    clear hev
    have HH := Lib.hid hh; clear hh
    go_enter Try.func6, Try.ntmps6
    go_wp2
    clear e2
    go_loopw [4, 5] (fun v i wr => ∃ k : Nat, k ≤ h ∧ i = .int .i64 (2 * (k : Int)) ∧ ∃ t, unhexL s.data.toList k = some t ∧ wr.ownsRow w.heap.size 5 1 v k (bvs t) ∧ Below w.heap.size w wr) (fun _ i _ => 2 * h - (intOf i).toNat)
    case atStart => exact ⟨0, Nat.zero_le _, rfl, [], rfl, World.ownsRow_nil _ _ _ _, Below.refl _ _⟩
    case round =>
      obtain ⟨k, hk, rfl, t, hut, hown2, hbel⟩ := hrel
      have HTL := Lib.hid (unhexL_length _ k t hut)
      have HU := Lib.hid hut; clear hut
      by_cases hlt : k < h
      · have hPA : pairAt s.data.toList k = pairOf (s[2 * k]'(by omega)) (s[2 * k + 1]'(by omega)) := by
          unfold pairAt
          rw [getD_get s (2 * k) (by omega), getD_get s (2 * k + 1) (by omega)]
        obtain ⟨a, hga⟩ : ∃ a, s[2 * k]'(by omega) = a := ⟨_, rfl⟩
        obtain ⟨b, hgb⟩ : ∃ b, s[2 * k + 1]'(by omega) = b := ⟨_, rfl⟩
        rw [hga, hgb] at hPA
        have HP := Lib.hid hPA; clear hPA
        have hi0 : (0 : Int) ≤ 2 * (k : Int) := by omega
        have hi1 : 2 * (k : Int) < (s.size : Int) := by omega
        have hi2 : (0 : Int) ≤ 2 * (k : Int) + 1 := by omega
        have hi3 : 2 * (k : Int) + 1 < (s.size : Int) := by omega
        have ht1 : (2 * (k : Int)).toNat = 2 * k := by omega
        have ht2 : (2 * (k : Int) + 1).toNat = 2 * k + 1 := by omega
        have hw1 : IntKind.i64.wrap (2 * (k : Int) + 1) = 2 * (k : Int) + 1 := IntWalk.i64_in _ (by omega)
        rcases hda : digOf a with _ | x
        · have ok1 : rdig a = -1 := rdig_no a hda
          have HN : Hid (pairAt s.data.toList k = none) := by rw [HP.out]; simp [Hid, pairOf, hda]
          clear hda
          go_wp2
          go_quiet ((go_at_call 11; exact Calls.quiet_of_same (rdigit_any _ _)))
          clear ht1 ht2 hw1
          go_wp2
          go_ret2
          have hN := unhexL_none _ k HN.out h hlt
          rw [hN]
          exact ⟨_, _, _, rfl, Bys.nil _, below_drewN' hbel _⟩
        · have hx : x < 16 := by have := digV_lt a; simpa [digV, hda] using this
          have v1 : rdig a = x := rdig_of a x hda
          rcases hdb : digOf b with _ | y
          · have ok2 : rdig b = -1 := rdig_no b hdb
            have HN : Hid (pairAt s.data.toList k = none) := by rw [HP.out]; simp [Hid, pairOf, hda, hdb]
            clear hda hdb
            go_wp2
            go_quiet ((go_at_call 11; exact Calls.quiet_of_same (rdigit_any _ _)))
            clear ht1 ht2 hw1
            go_wp2
            go_ret2
            have hN := unhexL_none _ k HN.out h hlt
            rw [hN]
            exact ⟨_, _, _, rfl, Bys.nil _, below_drewN' hbel _⟩
          · have hy : y < 16 := by have := digV_lt b; simpa [digV, hdb] using this
            have v2 : rdig b = y := rdig_of b y hdb
            obtain ⟨hz, hzn⟩ := pair_byte a b x y hx hy hda hdb
            have HZ := Lib.hid (HP.out.trans hz)
            generalize UInt8.ofNat (16 * x + y) = z at *
            have hj : 16 * (x : Int) + (y : Int) = (z.toNat : Int) := by omega
            have hzl := lt256 z
            clear hda hdb hz hzn
            go_wp2
            go_quiet ((go_at_call 11; exact Calls.quiet_of_same (rdigit_any _ _)))
            clear ht1 ht2 hw1
            simp only [v1, v2]
            clear v1 v2
            have hnew : Hid (∀ W : World, Bys (W.alloc (.cells #[.int .u8 (z.toNat : Int)] 5)) (some ⟨W.heap.size, 0, none⟩) 1 1 [z]) := fun W => Bys.lit W [z] (by simp)
            go_wp2_with ((with_reducible refine app_bys _ rfl (.tmp 33) (.tmp 39) rfl w.heap.size u4 k (bvs t) rfl ?_ (some ⟨wr.heap.size, 0, none⟩) 1 1 [z] rfl ?_ ?_ ?_ ?_); (exact hown2.alloc _); (exact hnew.out wr); (omega); (have := hbel.size; simp; omega); intro v1 w1 hown1 hgrow1 hwhere1)
            go_roundw
            case rel =>
              rw [← bvs_append] at hown1
              refine ⟨k + 1, by omega, by go_num, t ++ [z], by simp [unhexL, HU.out, HZ.out], hown1, ?_⟩
              refine Below.grown (w := wr.alloc (.cells #[.int .u8 (z.toNat : Int)] 5)) (hbel.alloc hbel.size _) ?_ (by have := hbel.size; simp; omega) (fun g hg => (hown2.lt g hg).1)
              exact ⟨hgrow1.os, hgrow1.tape, hgrow1.output, hgrow1.size, hgrow1.block⟩
            case measure => simp [intOf]; omega
      · go_wp2
        go_ret2
        obtain rfl : k = h := by omega
        obtain ⟨A, c, rfl⟩ := own_shape hown2
        rw [HU.out]
        exact ⟨_, _, _, rfl, Bys.of_own hown2, hbel⟩
  · have hU : unhexB s.data.toList = none := by
      unfold unhexB
      rw [if_neg (by rw [size_list]; exact hev)]
    rw [hU]
    clear hU
    have e2 : (s.size : Int) % 2 = 1 := by omega
    clear hev
    go_enter Try.func6, Try.ntmps6
    go_wp2
    go_ret2
    exact ⟨_, _, _, rfl, Bys.nil _, Below.refl _ _⟩
end Go.Proofs.Ytgiedccfeialiaa
