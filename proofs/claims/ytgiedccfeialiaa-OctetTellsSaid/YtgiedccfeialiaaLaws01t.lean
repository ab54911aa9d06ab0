/- The walk of the statement OctetTells: the law answers true and leaves what was there as it was. -/
import Derived.Test.YtgiedccfeialiaaLive01
namespace Go.Proofs.Ytgiedccfeialiaa
open Go.RowKit

theorem hexB_get : ∀ (l : List UInt8) (k : Nat) (h : k < l.length), (hexB l).getD (2 * k) 0 = hexChar (l[k].toNat / 16) ∧ (hexB l).getD (2 * k + 1) 0 = hexChar (l[k].toNat % 16)
  | [], k, h => by simp at h
  | b :: l, 0, h => by simp [hexB]
  | b :: l, k + 1, h => by
    have := hexB_get l k (by simpa using h)
    have e : hexB (b :: l) = hexChar (b.toNat / 16) :: hexChar (b.toNat % 16) :: hexB l := by simp [hexB]
    rw [e, show 2 * (k + 1) = 2 * k + 1 + 1 from by omega]
    simpa using this
theorem pair_hex (b : UInt8) : pairOf (hexChar (b.toNat / 16)) (hexChar (b.toNat % 16)) = some b := by
  have hb := b.toNat_lt
  obtain ⟨h1, h2⟩ := pair_byte _ _ (b.toNat / 16) (b.toNat % 16) (by omega) (by omega) (digOf_hexChar (b.toNat / 16) (by omega)) (digOf_hexChar (b.toNat % 16) (by omega))
  rw [h1]
  congr 1
  apply UInt8.toNat_inj.1
  rw [h2]; omega
theorem unhexL_hex (l : List UInt8) : ∀ k, k ≤ l.length → unhexL (hexB l) k = some (l.take k) := by
  intro k
  induction k with
  | zero => intro _; simp [unhexL]
  | succ k ih =>
    intro h
    obtain ⟨h1, h2⟩ := hexB_get l k (by omega)
    simp only [unhexL, ih (by omega), pairAt, h1, h2, pair_hex, Option.bind_some, Option.map_some]
    rw [List.take_succ_eq_append_getElem (by omega)]
theorem unhex_hex (l : List UInt8) : unhexB (hexB l) = some l := by
  rw [unhexB, hexB_length, if_pos (by omega), show 2 * l.length / 2 = l.length from by omega, unhexL_hex l l.length (Nat.le_refl _), List.take_length]

set_option maxRecDepth 20000 in
set_option maxHeartbeats 2000000 in
theorem walk_OctetTells (A : Option Addr) (n c : Nat) (l : List UInt8) (s : ByteArray) (w : World) (hB : Bys w A n c l) (hn : n ≤ 140737488351232) (hs : s.size ≤ 140737488355328) :
    Calls Try.prog 3 #[.slice A n c, .string s] w fun e w' => e = .returned (.bool true) ∧ Below w.heap.size w w' := by
  have U1 := fun W => unhex_any ⟨(hexB l).toArray⟩ W (by
    show (hexB l).toArray.size ≤ _
    have := hB.len
    simp [hexB_length]; omega)
  have e1 : unhexB (⟨(hexB l).toArray⟩ : ByteArray).data.toList = some l := by simpa using unhex_hex l
  simp only [e1] at U1
  clear e1
  have U2 := fun W => unhex_any s W (by omega)
  have U3 := fun W => runhex_any s W hs
  generalize unhexB s.data.toList = r at *
  have U1 := Lib.hid U1
  have U2 := Lib.hid U2
  have U3 := Lib.hid U3
  have H1 := fun W h => hex_any A n c l W h (by omega)
  have H2 := fun W h => rhex_any A n c l W h (by omega)
  generalize (⟨(hexB l).toArray⟩ : ByteArray) = t at *
  have H1 := Lib.hid H1
  have H2 := Lib.hid H2
  go_enter Try.func3, Try.ntmps3
  go_wp2_with (fail)
  refine (H1.out w hB).mono ?_
  rintro e w1 ⟨rfl, T⟩
  have B0 := hB.below T
  clear hB
  go_wp2_with (fail)
  refine (U1.out _).mono ?_
  rintro e w2 ⟨A1, n1, c1, rfl, B1, G⟩
  have T := nxt T G
  have B0 := B0.below G
  clear G
  go_wp2_with (fail)
  refine (U2.out _).mono ?_
  rintro e w3 ⟨A2, n2, c2, rfl, B2, G⟩
  have T := nxt T G
  have B0 := B0.below G
  have B1 := B1.below G
  clear G
  go_wp2_with (fail)
  refine (U3.out _).mono ?_
  rintro e w4 ⟨A3, n3, c3, rfl, B3, G⟩
  have T := nxt T G
  have B0 := B0.below G
  have B1 := B1.below G
  have B2 := B2.below G
  clear G
  go_wp2_with (fail)
  refine (H2.out _ B0).mono ?_
  rintro e w5 ⟨rfl, G⟩
  have T := nxt T G
  have B0 := B0.below G
  have B1 := B1.below G
  have B2 := B2.below G
  have B3 := B3.below G
  clear G
  go_wp2_with (fail)
  refine (same_true _ _ _ _ _ _ l _ B1 B0).mono ?_
  rintro e w6 ⟨rfl, G⟩
  have T := nxt T G
  have B2 := B2.below G
  have B3 := B3.below G
  clear G
  go_wp2_with (fail)
  refine (same_true _ _ _ _ _ _ _ _ B2 B3).mono ?_
  rintro e w7 ⟨rfl, G⟩
  have T := nxt T G
  clear G
  go_wp2_with (fail)
  refine (live_any _).mono ?_
  rintro e w8 ⟨rfl, G⟩
  have T := nxt T G
  clear G
  go_wp2_with (fail)
  go_ret
  exact ⟨rfl, T⟩
end Go.Proofs.Ytgiedccfeialiaa
