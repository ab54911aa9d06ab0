/- What octet.Hex and kedgeref01.Hex answer. -/
import Derived.Test.YtgiedccfeialiaaHexD
import Derived.Test.YtgiedccfeialiaaRoom
import Derived.Test.YtgiedccfeialiaaWords
import Derived.Laws.BitsAllLaws
import Derived.Lib.UnsafeStr
import Derived.Laws.BytesArg
namespace Go.Proofs.Ytgiedccfeialiaa
open Go.RowKit

def hexB (l : List UInt8) : List UInt8 := l.flatMap fun b => [hexChar (b.toNat / 16), hexChar (b.toNat % 16)]
theorem hexB_snoc (l : List UInt8) (b : UInt8) : hexB (l ++ [b]) = hexB l ++ [hexChar (b.toNat / 16), hexChar (b.toNat % 16)] := by simp [hexB]
theorem hexB_length (l : List UInt8) : (hexB l).length = 2 * l.length := by
  induction l with
  | nil => rfl
  | cons a l ih => simp only [hexB, List.flatMap_cons, List.length_append] at ih ⊢; rw [ih]; simp; omega
theorem hexB_take (l : List UInt8) (k : Nat) (h : k < l.length) : hexB (l.take (k + 1)) = hexB (l.take k) ++ [hexChar (l[k].toNat / 16), hexChar (l[k].toNat % 16)] := by
  rw [← hexB_snoc, List.take_succ_eq_append_getElem h]

set_option maxRecDepth 20000 in
set_option maxHeartbeats 1000000 in
theorem hex_any (A : Option Addr) (n c : Nat) (l : List UInt8) (w : World) (h : Bys w A n c l) (hn : n ≤ 140737488355328) :
    Calls Try.prog 4 #[.slice A n c] w (Gives w (.string ⟨(hexB l).toArray⟩)) := by
  obtain ⟨hl, hnc, hcm, hcell⟩ := h
  unfold maxLen at hcm
  subst hl
  have HC := Lib.hid hcell; clear hcell
  obtain ⟨i0, hi, hz0, hz1, hz2⟩ := info_parts Try.info5
  go_enter Try.func4, Try.ntmps4
  go_wp2_with (at_make; refine wpList_make_own _ rfl _ _ 22 rfl w.heap.size 5 i0 (.int .u8 0) 1 Try.underlying22 hi hz0 hz1 .i64 .i64 _ (2 * l.length) rfl rfl (by omega) (by rw [hz2]; omega) (by unfold maxLen; omega) (Nat.le_refl _) ?_; intro w1 hown hgrow)
  go_loopw [3, 12] (fun v i wr => ∃ k : Nat, k ≤ l.length ∧ i = .int .i64 k ∧ v = .slice (some ⟨w.heap.size, 0, none⟩) (2 * k) (2 * l.length) ∧ wr.ownsRow w.heap.size 5 1 (.slice (some ⟨w.heap.size, 0, none⟩) (2 * k) (2 * l.length)) (2 * k) (bvs (hexB (l.take k))) ∧ Below w.heap.size w wr) (fun _ i _ => l.length - (intOf i).toNat)
  case atStart => exact ⟨0, Nat.zero_le _, rfl, rfl, by simpa [hexB, bvs] using hown, (Below.refl _ _).grown hgrow (Nat.le_refl _) (by simp)⟩
  case round =>
    obtain ⟨k, hk, rfl, rfl, hown2, hbel⟩ := hrel
    by_cases hlt : k < l.length
    · obtain ⟨b, o, rfl, hb, hc⟩ := HC.out (by omega)
      have c1 := (hbel.cell (p := ⟨b, o + k, none⟩) hb).trans (hc k hlt)
      clear hc
      have HT := Lib.hid (hexB_take l k hlt)
      have hb2 := lt256 l[k]
      generalize l[k] = x at *
      go_wp2
      have hq : (x.toNat : Int) / 16 = ((x.toNat / 16 : Nat) : Int) := by omega
      have hr : bits BinOp.and IntKind.u8 (x.toNat : Int) 15 = ((x.toNat % 16 : Nat) : Int) := by
        have e := u8_and (x.toNat : Int) 15 (by omega) (by omega) (by omega) (by omega)
        rw [e, Int.toNat_natCast]
        show ((x.toNat &&& 15 : Nat) : Int) = _
        rw [nat_mask4]
      have hq2 : x.toNat / 16 < 16 := by omega
      have hr2 : x.toNat % 16 < 16 := by omega
      generalize x.toNat / 16 = q at *
      generalize x.toNat % 16 = r at *
      have hq3 : (q : Int) < 16 := by omega
      have hr3 : (r : Int) < 16 := by omega
      have hl1 : (⟨#[48, 49, 50, 51, 52, 53, 54, 55, 56, 57, 97, 98, 99, 100, 101, 102]⟩ : ByteArray)[q]'hq2 = hexChar q := hex_lit q hq2 hq2
      have hl2 : (⟨#[48, 49, 50, 51, 52, 53, 54, 55, 56, 57, 97, 98, 99, 100, 101, 102]⟩ : ByteArray)[r]'hr2 = hexChar r := hex_lit r hr2 hr2
      have hnew : Hid (∀ W : World, Bys (W.alloc (.cells #[.int .u8 ((hexChar q).toNat : Int), .int .u8 ((hexChar r).toNat : Int)] 5)) (some ⟨W.heap.size, 0, none⟩) 2 2 [hexChar q, hexChar r]) := fun W => Bys.lit W [hexChar q, hexChar r] (by simp)
      go_region_law ((with_reducible refine step_room _ rfl (.tmp 16) (.tmp 23) rfl w.heap.size w.heap.size (2 * l.length) (2 * k) (bvs (hexB (l.take k))) rfl ?_ (some ⟨wr.heap.size, 0, none⟩) 2 2 [hexChar q, hexChar r] rfl ?_ ?_ ?_ ?_); (exact (hown2.alloc _)); (exact hnew.out wr); (omega); (omega); intro w1 hown1 hgrow1)
      all_goals
        go_wp2
        go_roundw
        case rel =>
          rw [← bvs_append, ← HT.out] at hown1
          refine ⟨k + 1, by omega, by go_num, ?_, by rw [show 2 * (k + 1) = 2 * k + 2 from by omega]; exact hown1, ?_⟩
          · rw [show 2 * (k + 1) = 2 * k + 2 from by omega]
          · exact ((hbel.alloc hbel.size _).drew).grown hgrow1 (by have := hbel.size; simp; omega) (by intro g' hg'; injection hg' with hg'; omega)
        case measure => simp [intOf]; omega
    · have kc := conv_bys (Bys.of_own hown2)
      go_wp2
      go_ret
      obtain rfl : k = l.length := by omega
      exact ⟨ret_str (by rw [List.take_length]), hbel⟩

theorem hex_cut (q : Nat) (h : q < 16) : (⟨#[48, 49, 50, 51, 52, 53, 54, 55, 56, 57, 97, 98, 99, 100, 101, 102]⟩ : ByteArray).extract q (q + 1) = ⟨#[hexChar q]⟩ := by
  apply ByteArray.ext
  have : ∀ q : Fin 16, ((⟨#[48, 49, 50, 51, 52, 53, 54, 55, 56, 57, 97, 98, 99, 100, 101, 102]⟩ : ByteArray).extract q.val (q.val + 1)).data.toList = [hexChar q.val] := by decide +kernel
  have := this ⟨q, h⟩
  apply Array.toList_inj.1
  rw [this]
theorem hex_add (s : ByteArray) (l : List UInt8) (q r : Nat) (hs : s = ⟨l.toArray⟩) (h : q < 16) (h2 : r < 16) :
    s ++ (⟨#[48, 49, 50, 51, 52, 53, 54, 55, 56, 57, 97, 98, 99, 100, 101, 102]⟩ : ByteArray).extract q (q + 1) ++ (⟨#[48, 49, 50, 51, 52, 53, 54, 55, 56, 57, 97, 98, 99, 100, 101, 102]⟩ : ByteArray).extract r (r + 1) = ⟨(l ++ [hexChar q, hexChar r]).toArray⟩ := by
  rw [hex_cut q h, hex_cut r h2, hs]
  apply ByteArray.ext
  simp

set_option maxRecDepth 20000 in
set_option maxHeartbeats 1000000 in
theorem rhex_any (A : Option Addr) (n c : Nat) (l : List UInt8) (w : World) (h : Bys w A n c l) (hn : n ≤ 140737488355328) :
    Calls Try.prog 7 #[.slice A n c] w (Gives w (.string ⟨(hexB l).toArray⟩)) := by
  obtain ⟨hl, hnc, hcm, hcell⟩ := h
  unfold maxLen at hcm
  subst hl
  have HC := Lib.hid hcell; clear hcell
  go_enter Try.func7, Try.ntmps7
  go_wp2
  go_loopw [3, 4] (fun v i wr => ∃ k : Nat, k ≤ l.length ∧ i = .int .i64 k ∧ ∃ s : ByteArray, v = .string s ∧ s = ⟨(hexB (l.take k)).toArray⟩ ∧ ∃ nd, wr = w.drewN nd) (fun _ i _ => l.length - (intOf i).toNat)
  case atStart => exact ⟨0, Nat.zero_le _, rfl, _, rfl, by simp [hexB], 0, rfl⟩
  case round =>
    obtain ⟨k, hk, rfl, s, rfl, hs, nd, rfl⟩ := hrel
    have hsz : s.size = 2 * k := by
      rw [hs]
      show (hexB (l.take k)).toArray.size = _
      simp [hexB_length]; omega
    have hsz1 : s.size ≤ 281474976710656 := by omega
    have HS := Lib.hid hs; clear hs
    clear hsz
    by_cases hlt : k < l.length
    · obtain ⟨b, o, rfl, hb, hc⟩ := HC.out (by omega)
      have c1 := hc k hlt
      clear hc
      have HT := Lib.hid (hexB_take l k hlt)
      have hb2 := lt256 l[k]
      generalize l[k] = x at *
      have hq : (x.toNat : Int) / 16 = ((x.toNat / 16 : Nat) : Int) := by omega
      have hr : (x.toNat : Int) % 16 = ((x.toNat % 16 : Nat) : Int) := by omega
      have hq2 : x.toNat / 16 < 16 := by omega
      have hr2 : x.toNat % 16 < 16 := by omega
      generalize x.toNat / 16 = q at *
      generalize x.toNat % 16 = r at *
      go_wp2
      go_quiet (fail)
      simp only [hr]
      clear hq hr hb2
      have hq3 : (q : Int) < 16 := by omega
      have hr3 : (r : Int) < 16 := by omega
      go_wp2
      go_quiet (fail)
      go_wp2
      go_roundw
      case rel => exact ⟨k + 1, by omega, by go_num, _, rfl, by rw [hex_add s _ q r HS.out hq2 hr2, HT.out], _, rfl⟩
      case measure => simp [intOf]; omega
    · go_wp2
      go_ret
      obtain rfl : k = l.length := by omega
      have hs := HS.out
      rw [List.take_length] at hs
      exact ⟨ret_str hs, below_drewN' (Below.refl _ _) _⟩
end Go.Proofs.Ytgiedccfeialiaa
