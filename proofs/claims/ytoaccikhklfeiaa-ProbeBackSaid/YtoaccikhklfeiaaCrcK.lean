/- Package crc as it landed: its contracts, up to New and More. -/
import Derived.Test.YtoaccikhklfeiaaCrcC
import Derived.Laws.Rows
namespace Go.Proofs.Ytoaccikhklfeiaa
open Go.RowKit

/-- a table that New made lies at a: 256 rows, row i is what eight steps make of i -/
def Tab (w : World) (a : Addr) : Prop := ∃ g, a = ⟨g, 0, none⟩ ∧ g < w.heap.size ∧ ∀ i, i < 256 → w.cell? ⟨g, i, none⟩ = some (.int .u32 (csteps i 8 : Int))
theorem Tab.below {w w' : World} {a : Addr} (h : Tab w a) (hb : Below w.heap.size w w') : Tab w' a := by
  obtain ⟨g, rfl, h1, h2⟩ := h
  exact ⟨g, rfl, by have := hb.size; omega, fun i hi => (hb.cell (p := ⟨g, i, none⟩) h1).trans (h2 i hi)⟩
theorem csteps1 : csteps 1 8 = 1996959894 := by decide +kernel

set_option maxHeartbeats 1000000 in
theorem made_nil (w : World) : Calls Try.prog 30 #[.pointer none] w fun e w' => e = .returned (.bool false) ∧ w = w' := by
  go_enter Try.func30, Try.ntmps30
  go_wp2
  go_ret
  exact ⟨rfl, rfl⟩
set_option maxHeartbeats 1000000 in
theorem made_tab (a : Addr) (w : World) (h : Tab w a) : Calls Try.prog 30 #[.pointer (some a)] w fun e w' => e = .returned (.bool true) ∧ w = w' := by
  obtain ⟨g, rfl, _, hc⟩ := h
  have c1 := hc 1 (by omega)
  rw [csteps1] at c1
  clear hc
  go_enter Try.func30, Try.ntmps30
  go_wp2
  go_ret
  exact ⟨rfl, rfl⟩

set_option maxRecDepth 20000 in
set_option maxHeartbeats 2000000 in
theorem eight_any (x : Nat) (w : World) (hx : x < 4294967296) : Calls Try.prog 27 #[.int .u32 x] w fun e w' => e = .returned (.int .u32 (csteps x 8 : Int)) ∧ w = w' := by
  go_enter Try.func27, Try.ntmps27
  go_wp2
  go_loop [0, 3] (fun t j => ∃ m : Nat, m ≤ 8 ∧ j = .int .i64 m ∧ t = .int .u32 (csteps x m : Int)) (fun _ j => 8 - (intOf j).toNat)
  case atStart => exact ⟨0, Nat.zero_le _, rfl, rfl⟩
  case round =>
    obtain ⟨m, hm, rfl, rfl⟩ := hrel
    by_cases h8 : m < 8
    · have HS := Lib.hid (csteps_succ x m)
      have hv := csteps_lt m x hx
      generalize csteps x m = v at *
      have hh : (v : Int) / 2 = ((v / 2 : Nat) : Int) := by omega
      have hhl : v / 2 < 4294967296 := by omega
      rcases Nat.mod_two_eq_zero_or_one v with hp | hp
      · have HS2 : Hid (csteps x (m + 1) = v / 2) := by rw [HS.out]; simp [Hid, cstep, hp]
        have hpi : (v : Int) % 2 = 0 := by omega
        clear HS hp
        generalize v / 2 = q at *
        go_wp2
        go_round
        case rel => exact ⟨m + 1, by omega, by go_num, by rw [HS2.out]⟩
        case measure => simp [intOf]; omega
      · have HS2 : Hid (csteps x (m + 1) = v / 2 ^^^ 3988292384) := by rw [HS.out]; simp [Hid, cstep, hp]
        have hpi : (v : Int) % 2 = 1 := by omega
        have hpo := u32_poly (v / 2) hhl
        clear HS hp
        generalize v / 2 = q at *
        generalize q ^^^ 3988292384 = r at *
        go_wp2
        go_round
        case rel => exact ⟨m + 1, by omega, by go_num, by rw [HS2.out]⟩
        case measure => simp [intOf]; omega
    · obtain rfl : m = 8 := by omega
      go_wp2
      go_ret
      exact ⟨rfl, rfl⟩

set_option maxRecDepth 100000 in
set_option maxHeartbeats 2000000 in
theorem new_any (w : World) : Calls Try.prog 16 #[] w fun e w' => ∃ a, e = .returned (.pointer (some a)) ∧ Tab w' a ∧ Below w.heap.size w w' := by
  obtain ⟨Z, hZ, hZs, hZ0⟩ : ∃ Z : Array Value, (∀ w, (zeroValue 55).run Try.prog w = .ok (.agg Z) w) ∧ Z.size = 256 ∧ ∀ i, i < 256 → Z[i]? = some (.int .u32 0) :=
    ⟨(List.replicate 256 (Value.int .u32 0)).toArray, fun w => by kernel_rfl, by simp, fun i hi => by
      rw [List.getElem?_toArray, List.getElem?_replicate, if_pos hi]⟩
  have HZ0 := Lib.hid hZ0; clear hZ0
  have HZS := Lib.hid hZs; clear hZs
  have E := Lib.hid (fun x W => eight_any x W)
  go_enter Try.func16, Try.ntmps16
  go_wp2_with (fail)
  go_loopw [5] (fun i wr => ∃ k : Nat, k ≤ 256 ∧ i = .int .i64 k ∧ (∃ cs : Array Value, wr.heap[w.heap.size]? = some (.cells cs 55 (0, 0)) ∧ cs.size = 256 ∧ (∀ i, i < k → cs[i]? = some (.int .u32 (csteps i 8 : Int))) ∧ (∀ i, k ≤ i → i < 256 → cs[i]? = some (.int .u32 0))) ∧ Below w.heap.size w wr) (fun i _ => 256 - (intOf i).toNat)
  case atStart => exact ⟨0, Nat.zero_le _, rfl, ⟨Z, heap_alloc_new w _, HZS.out, fun i hi => by omega, fun i _ hi => HZ0.out i hi⟩, (Below.refl _ _).alloc (Nat.le_refl _) _⟩
  case round =>
    obtain ⟨k, hk, rfl, ⟨cs, hh, hs, hlo, hhi⟩, hbel⟩ := hrel
    have HH := Lib.hid hh
    have HS := Lib.hid hs; clear hs
    have HLO := Lib.hid hlo; clear hlo
    have HHI := Lib.hid hhi; clear hhi
    by_cases hlt : k < 256
    · have c1 : wr.cell? ⟨w.heap.size, k, none⟩ = some (.int .u32 0) := by rw [cell_of_row wr _ k cs _ _ hh]; exact HHI.out k (Nat.le_refl _) hlt
      have f1 : wr.frozen? ⟨w.heap.size, k, none⟩ = false := frozen_of_row wr _ k cs _ hh
      clear hh
      have hkz : (k : Int) < 256 := by omega
      have hwr : IntKind.u32.wrap (k : Int) = (k : Int) := IntWalk.u32_in _ (by omega)
      go_wp2_with (fail)
      go_region_with ((go_at_call 27; with_reducible refine (E.out k _ (by omega)).mono ?_; rintro e w1 ⟨rfl, rfl⟩))
      clear hwr
      go_wp2
      go_roundw
      case rel =>
        refine ⟨k + 1, by omega, by go_num, ⟨cs.setIfInBounds k (.int .u32 (csteps k 8 : Int)), heap_setCell_same wr.drew _ k cs _ _ HH.out, by simpa using HS.out, fun i hi => ?_, fun i hi hi2 => ?_⟩, (below_drewN' hbel 1).setCell (Nat.le_refl _) _⟩
        · by_cases e : i = k
          · subst e
            rw [Array.getElem?_setIfInBounds_self_of_lt (by have := HS.out; omega)]
          · rw [Array.getElem?_setIfInBounds_ne (by omega)]
            exact HLO.out i (by omega)
        · rw [Array.getElem?_setIfInBounds_ne (by omega)]
          exact HHI.out i (by omega) hi2
      case measure => simp [intOf]; omega
    · obtain rfl : k = 256 := by omega
      clear hh
      go_wp2
      go_ret
      exact ⟨_, rfl, ⟨_, rfl, lt_of_block HH.out, fun i hi => by rw [cell_of_row wr _ i cs _ _ HH.out]; exact HLO.out i hi⟩, hbel⟩

set_option maxHeartbeats 1000000 in
theorem more_nil (x : Int) (A : Option Addr) (n c : Nat) (w : World) : Calls Try.prog 36 #[.pointer none, .int .u32 x, .slice A n c] w fun e w' => e = .returned (.int .u32 0) ∧ w = w' := by
  have M := Lib.hid (made_nil w)
  go_enter Try.func36, Try.ntmps36
  go_wp2_with (fail)
  refine M.out.mono ?_
  rintro e w1 ⟨rfl, rfl⟩
  go_wp2
  go_ret
  exact ⟨rfl, rfl⟩

theorem cbyte_low (x : Nat) (b : UInt8) : cbyte x b = csteps (x % 256 ^^^ b.toNat) 8 ^^^ x / 256 := by
  have hb := b.toNat_lt
  have h := cbyte_table x b
  have e : (x ^^^ b.toNat) % 256 = x % 256 ^^^ b.toNat := by
    have h2 := Nat.xor_mod_two_pow (a := x) (b := b.toNat) (n := 8)
    simp only [Nat.reducePow] at h2
    rw [h2, Nat.mod_eq_of_lt (a := b.toNat) hb]
  rw [h, e]
theorem feed_low (x : Nat) (l : List UInt8) (k : Nat) (h : k < l.length) : feed x (l.take (k + 1)) = csteps (feed x (l.take k) % 256 ^^^ l[k].toNat) 8 ^^^ feed x (l.take k) / 256 := by
  rw [List.take_succ_eq_append_getElem h, feed_snoc, cbyte_low]
theorem u32_not (a : Nat) (ha : a < 4294967296) : bits BinOp.xor IntKind.u32 IntKind.u32.max (a : Int) = ((a ^^^ 4294967295 : Nat) : Int) := by
  have h : IntKind.u32.max = ((4294967295 : Nat) : Int) := by decide
  rw [h, u32_xor_nat _ a (by decide) ha, Nat.xor_comm]

set_option maxRecDepth 20000 in
set_option maxHeartbeats 2000000 in
theorem more_any (a : Addr) (x : Nat) (A : Option Addr) (n c : Nat) (l : List UInt8) (w : World) (ht : Tab w a) (hx : x < 4294967296) (h : Bys w A n c l) :
    Calls Try.prog 36 #[.pointer (some a), .int .u32 x, .slice A n c] w fun e w' => e = .returned (.int .u32 (crcMore x l : Int)) ∧ w = w' := by
  have M := Lib.hid (made_tab a w ht)
  obtain ⟨hl, hnc, hcm, hcell⟩ := h
  unfold maxLen at hcm
  subst hl
  have HC := Lib.hid hcell; clear hcell
  obtain ⟨g, rfl, _, hrow⟩ := ht
  have HR := Lib.hid hrow; clear hrow
  go_enter Try.func36, Try.ntmps36
  go_wp2_with (fail)
  refine M.out.mono ?_
  rintro e w1 ⟨rfl, rfl⟩
  have hno := u32_not x hx
  have hz := xor_lt x 4294967295 hx (by decide)
  have HM : Hid (crcMore x l = feed (x ^^^ 4294967295) l ^^^ 4294967295) := rfl
  generalize x ^^^ 4294967295 = z at *
  go_wp2_with (fail)
  clear hno
  go_loop [7, 17] (fun t i => ∃ k : Nat, k ≤ l.length ∧ i = .int .i64 k ∧ t = .int .u32 (feed z (l.take k) : Int)) (fun _ i => l.length - (intOf i).toNat)
  case atStart => exact ⟨0, Nat.zero_le _, rfl, by simp [feed]⟩
  case round =>
    obtain ⟨k, hk, rfl, rfl⟩ := hrel
    by_cases hlt : k < l.length
    · obtain ⟨b, o, rfl, hb, hc⟩ := HC.out (by omega)
      have c1 := hc k hlt
      clear hc
      have HF := Lib.hid (feed_low z l k hlt)
      have hy := feed_lt (l.take k) z hz
      generalize feed z (l.take k) = y at *
      have hb2 := l[k].toNat_lt
      generalize l[k].toNat = v at *
      have hv2 : v < 256 := hb2
      clear hb2
      have hr2 : y % 256 < 256 := Nat.mod_lt _ (by decide)
      have hq2 : y / 256 < 4294967296 := by omega
      have hr : (y : Int) % 256 = ((y % 256 : Nat) : Int) := by omega
      have hq : (y : Int) / 256 = ((y / 256 : Nat) : Int) := by omega
      generalize y % 256 = r at *
      generalize y / 256 = q at *
      have hx8 := u8_xor_nat r v hr2 hv2
      have hj := Nat.xor_lt_two_pow (n := 8) hr2 hv2
      have hj : r ^^^ v < 256 := hj
      generalize r ^^^ v = j at *
      have c2 := HR.out j hj
      have hs := csteps_lt 8 j (by omega)
      have hx32 := u32_xor_nat (csteps j 8) q hs hq2
      generalize csteps j 8 = s at *
      generalize s ^^^ q = z2 at *
      have hj2 : (j : Int) < 256 := by omega
      go_wp2
      go_round
      case rel => exact ⟨k + 1, by omega, by go_num, by rw [HF.out]⟩
      case measure => simp [intOf]; omega
    · have hy := feed_lt (l.take k) z hz
      have HE : Hid (feed z (l.take k) = feed z l) := by
        show feed z (l.take k) = feed z l
        rw [List.take_of_length_le (by omega)]
      generalize feed z (l.take k) = y at *
      have hno := u32_not y hy
      have HN : Hid (y ^^^ 4294967295 = crcMore x l) := by
        show _ = _
        rw [HM.out, HE.out]
      generalize y ^^^ 4294967295 = y2 at *
      go_wp2
      go_ret
      exact ⟨ret_int (by rw [HN.out]), rfl⟩
end Go.Proofs.Ytoaccikhklfeiaa
