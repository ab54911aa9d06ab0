/- What frame.Open and frame.Most answer. -/
import Derived.Test.YtopdbkiadgiicaaFrameK
import Derived.Test.YtopdbkiadgiicaaCutB
namespace Go.Proofs.Ytopdbkiadgiicaa
open Go.RowKit

theorem ends_facts (x y : UInt8) (m : List UInt8) : (x :: (m ++ [y])).length = m.length + 1 + 1 ∧ (x :: (m ++ [y]))[0]? = some x ∧ (x :: (m ++ [y]))[m.length + 1]? = some y ∧ ((x :: (m ++ [y])).take (m.length + 1)).drop 1 = m := by
  refine ⟨by simp, rfl, by simp, ?_⟩
  rw [List.take_succ_cons, List.take_left, List.drop_succ_cons, List.drop_zero]
theorem at_facts {w : World} {A : Option Addr} {c : Nat} {x y : UInt8} {m : List UInt8} (h : Bys w A (m.length + 1 + 1) c (x :: (m ++ [y]))) :
    ∃ b o, A = some ⟨b, o, none⟩ ∧ b < w.heap.size ∧ w.cell? ⟨b, o, none⟩ = some (.int .u8 (x.toNat : Int)) ∧ w.cell? ⟨b, o + (m.length + 1), none⟩ = some (.int .u8 (y.toNat : Int)) := by
  obtain ⟨b, o, e, hb, hc⟩ := h.at_ (by omega)
  have c0 := hc 0 (by simp)
  have c1 := hc (m.length + 1) (by simp)
  refine ⟨b, o, e, hb, by simpa using c0, ?_⟩
  rw [c1]
  simp

set_option maxRecDepth 20000 in
set_option maxHeartbeats 2000000 in
theorem open_any (a : Addr) (A : Option Addr) (n c : Nat) (s : List UInt8) (w : World) (ht : Tab w a) (h : Bys w A n c s) (hn : n ≤ 140737488351232) :
    Calls Try.prog 16 #[.pointer (some a), .slice A n c] w (GivesN w (frameE (frameO s)) ((frameO s).getD [])) := by
  have M := Lib.hid (fmade_yes a w ht)
  have hlen := h.len
  by_cases h2 : n < 2
  · have HO : Hid (frameO s = none) := by show _ = _; unfold frameO; rw [if_neg (fun e => by omega)]
    rw [HO.out]
    have hw : IntKind.i64.wrap ((n : Int) - 1) = (n : Int) - 1 := IntWalk.i64_in _ (by omega)
    have hd : decide ((n : Int) - 1 < 1) = true := by simp; omega
    clear h hlen ht
    go_enter Try.func16, Try.ntmps16
    go_wp2_with (fail)
    refine M.out.mono ?_
    rintro e w1 ⟨rfl, T⟩
    go_wp2_with (fail)
    go_ret2
    exact ⟨_, _, _, rfl, Bys.nil _, T⟩
  · obtain ⟨x, m, y, rfl⟩ := split_ends s (by omega)
    obtain ⟨hl, -, -, hmid⟩ := ends_facts x y m
    obtain rfl : n = m.length + 1 + 1 := by omega
    have hO := frameO_of m x y
    obtain ⟨b, o, rfl, hb, c0, c1⟩ := at_facts h
    have B2 := h.part 1 (m.length + 1) (by omega) (by omega) (by have := h.le; omega)
    rw [hmid] at B2
    have hw : IntKind.i64.wrap (((m.length + 1 + 1 : Nat) : Int) - 1) = ((m.length + 1 : Nat) : Int) := by
      rw [show ((m.length + 1 + 1 : Nat) : Int) - 1 = ((m.length + 1 : Nat) : Int) from by omega]; exact IntWalk.i64_in _ (by omega)
    have hcap := h.cap
    have hle := h.le
    clear h hl hmid hlen
    have hm0 : 1 ≤ m.length + 1 := by omega
    generalize hk : m.length + 1 = k at *
    have BY := fun A1 c1 W t b => body_any a A1 (k - 1) c1 m W t b (by omega)
    have hd : decide ((k : Int) < 1) = false := by simp; omega
    have hw2 : IntKind.i64.wrap ((k : Int) + 1 - 1) = (k : Int) := by rw [Int.add_sub_cancel]; exact IntWalk.i64_in _ (by omega)
    have hi : IntKind.i64.wrap (k : Int) = (k : Int) := IntWalk.i64_in _ (by omega)
    have C0 := Lib.hid c0; clear c0
    have C1 := Lib.hid c1; clear c1
    by_cases hx : x = 0x7e
    · have e0 : ((x.toNat : Int) != 126) = false := by subst hx; rfl
      by_cases hy : y = 0x7e
      · have e1 : ((y.toNat : Int) != 126) = false := by subst hy; rfl
        rw [hO, if_pos ⟨hx, hy⟩]
        generalize frameB m = r at *
        have BY := Lib.hid BY
        clear hx hy hO hk
        go_enter Try.func16, Try.ntmps16
        go_wp2_with (fail)
        refine M.out.mono ?_
        rintro e w1 ⟨rfl, T⟩
        have c0 := (T.cell (p := ⟨b, o, none⟩) hb).trans C0.out
        have c1 := (T.cell (p := ⟨b, o + k, none⟩) hb).trans C1.out
        go_wp2_with (fail)
        refine (BY.out _ _ _ (ht.below T) (B2.below T)).mono ?_
        rintro e w2 ⟨A3, n3, c3, rfl, B3, G⟩
        have T := nxt T G
        go_wp2_with (fail)
        go_ret2
        exact ⟨_, _, _, rfl, B3, T⟩
      · have e1 : ((y.toNat : Int) != 126) = true := by simp; intro e; apply hy; apply UInt8.toNat_inj.1; simp; omega
        rw [hO, if_neg (fun e => hy e.2)]
        clear hx hy hO hk BY B2
        go_enter Try.func16, Try.ntmps16
        go_wp2_with (fail)
        refine M.out.mono ?_
        rintro e w1 ⟨rfl, T⟩
        have c0 := (T.cell (p := ⟨b, o, none⟩) hb).trans C0.out
        have c1 := (T.cell (p := ⟨b, o + k, none⟩) hb).trans C1.out
        go_wp2_with (fail)
        go_ret2
        exact ⟨_, _, _, rfl, Bys.nil _, T⟩
    · have e0 : ((x.toNat : Int) != 126) = true := by simp; intro e; apply hx; apply UInt8.toNat_inj.1; simp; omega
      rw [hO, if_neg (fun e => hx e.1)]
      clear hx hO hk BY B2
      go_enter Try.func16, Try.ntmps16
      go_wp2_with (fail)
      refine M.out.mono ?_
      rintro e w1 ⟨rfl, T⟩
      have c0 := (T.cell (p := ⟨b, o, none⟩) hb).trans C0.out
      go_wp2_with (fail)
      go_ret2
      exact ⟨_, _, _, rfl, Bys.nil _, T⟩

def mostZ (n : Int) : Int := if n < 0 ∨ 96 < n then 0 else 2 * (n + 4) + 2
set_option maxHeartbeats 1000000 in
theorem most_any (n : Int) (w : World) : Calls Try.prog 13 #[.int .i64 n] w fun e w' => e = .returned (.int .i64 (mostZ n)) ∧ w = w' := by
  by_cases h1 : n < 0
  · have hd : decide (n < 0) = true := by simpa using h1
    have hm : mostZ n = 0 := by unfold mostZ; rw [if_pos (.inl h1)]
    rw [hm]
    go_enter Try.func13, Try.ntmps13
    go_wp2
    go_ret
    exact ⟨rfl, rfl⟩
  · have hd : decide (n < 0) = false := by simpa using h1
    by_cases h2 : 96 < n
    · have hd2 : decide (96 < n) = true := by simpa using h2
      have hm : mostZ n = 0 := by unfold mostZ; rw [if_pos (.inr h2)]
      rw [hm]
      go_enter Try.func13, Try.ntmps13
      go_wp2
      go_ret
      exact ⟨rfl, rfl⟩
    · have hd2 : decide (96 < n) = false := by simpa using h2
      have hm : mostZ n = 2 * (n + 4) + 2 := by unfold mostZ; rw [if_neg (by omega)]
      rw [hm]
      go_enter Try.func13, Try.ntmps13
      go_wp2
      go_ret
      exact ⟨rfl, rfl⟩
end Go.Proofs.Ytopdbkiadgiicaa
