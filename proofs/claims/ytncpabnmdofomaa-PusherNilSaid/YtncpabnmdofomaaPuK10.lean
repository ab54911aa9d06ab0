/- Package pusher, as landed: told, take, Take; it answers as its contracts say. -/
import Derived.Test.YtncpabnmdofomaaPuK9
import Derived.Laws.Bits64b
namespace Go.Proofs.Ytncpabnmdofomaa
open Go.RowKit
set_option maxRecDepth 20000

/-- bits of places from next on tell nothing -/
theorem puBits_more (q next bits : Nat) (t : List Tmr) (hq : q ≤ next) : ∀ k, puBits q next bits (next - q + k) t = puBits q next bits (next - q) t
  | 0 => rfl
  | k + 1 => by
    show puBit q next bits (puBits q next bits (next - q + k) t) (next - q + k) = _
    rw [puBits_more q next bits t hq k]
    unfold puBit
    rw [if_neg (by omega)]
theorem bit64 (a j : Nat) (ha : a < 18446744073709551616) : Go.bits BinOp.and IntKind.u64 ((a : Int) / 2 ^ j) 1 = ((a / 2 ^ j % 2 : Nat) : Int) := by
  have e : (a : Int) / 2 ^ j = ((a / 2 ^ j : Nat) : Int) := by norm_cast
  rw [e, show (1 : Int) = ((1 : Nat) : Int) from rfl, bits_and_u64_nat _ _ (Nat.lt_of_le_of_lt (Nat.div_le_self _ _) ha) (by omega), Nat.and_one_is_mod]
def GivesTold (T : Nat → Int → List Tmr → World → (Nat → Prop) → Prop) (x gt : Nat) (P : Option Addr) (n pc : Nat) (vs : List Value) (bits : Nat) (s : Pus) (Xt Xc : Nat → Prop) (w : World) (e : Ending) (w' : World) : Prop := e = .returned (.tuple #[]) ∧ ∃ Xt', EnV T x gt P n pc vs { s with tm := puBits s.base s.next bits 64 s.tm } s.base Xt' Xc w' ∧ Turns (EnX x P pc Xt Xc) (EnX x P pc Xt' Xc) w w'
set_option maxHeartbeats 8000000 in
theorem putold_any {T : Nat → Int → List Tmr → World → (Nat → Prop) → Prop} (C : TmC T) {x gt : Nat} {P : Option Addr} {n pc : Nat} {vs : List Value} {s : Pus} {Xt Xc : Nat → Prop} {w : World} (h : EnV T x gt P n pc vs s s.base Xt Xc w) (bits : Nat) (hbits : bits < 18446744073709551616) (hT : TmOk s.c.b s.tm) (hTl : s.tm.length ≤ 100) (h1 : s.base ≤ s.next) (h2 : s.next ≤ s.base + 64) (h3 : s.next ≤ 100000) :
    Calls Try.prog 52 #[.pointer (some ⟨x, 0, none⟩), .int .u64 (bits : Int)] w (GivesTold T x gt P n pc vs bits s Xt Xc w) := by
  have HR := Lib.hid h
  have HTO := Lib.hid hT
  obtain ⟨-, -, -, -, c4, c5, -⟩ := h.cells.1
  have HMO := Lib.hid (puBits_more s.base s.next bits s.tm h1 (64 - (s.next - s.base)))
  obtain ⟨d, hd⟩ : ∃ d, s.next - s.base = d := ⟨_, rfl⟩
  have HD := Lib.hid hd
  have hsub : IntKind.i64.wrap ((s.next : Int) - (s.base : Int)) = (d : Int) := by
    rw [show (s.next : Int) - (s.base : Int) = (d : Int) by omega]
    exact IntWalk.i64_in _ (by omega)
  have hd64 : d ≤ 64 := by omega
  rw [hd, show d + (64 - d) = 64 by omega] at HMO
  unfold GivesTold
  clear h hd hT
  go_enter Try.func52, Try.ntmps52
  go_wp2_with (fail)
  go_quiet (fail)
  have B := below_drewN' (Below.refl w.heap.size w) nq
  have HR0 := Lib.hid (HR.out.below C B)
  have HT0 : Hid (Turns (EnX x P pc Xt Xc) (EnX x P pc Xt Xc) w (w.drewN nq)) := Turns.of_below B
  generalize w.drewN nq = w0 at *
  clear c4 c5
  go_wp2_with (fail)
  go_loopw [14] (fun i wr => ∃ (j : Nat) (Xt' : Nat → Prop), j ≤ d ∧ i = .int .i64 (j : Int) ∧ Hid (EnV T x gt P n pc vs { s with tm := puBits s.base s.next bits j s.tm } s.base Xt' Xc wr) ∧ Hid (Turns (EnX x P pc Xt Xc) (EnX x P pc Xt' Xc) w wr)) (fun i _ => d - (intOf i).toNat)
  case atStart => exact ⟨0, Xt, Nat.zero_le _, rfl, HR0, HT0⟩
  case round =>
    obtain ⟨j, Xt7, hj, rfl, HR7, HT7⟩ := hrel
    by_cases hlt : j < d
    · have d0 : decide ((j : Int) < (d : Int)) = true := by simp; omega
      have d0' : decide (j < d) = true := by simp; omega
      have hkj : s.base + j < s.next := by have := HD.out; omega
      have HST : Hid (puBits s.base s.next bits (j + 1) s.tm = if bits / 2 ^ j % 2 = 1 ∧ 0 < j then tmClear (puBits s.base s.next bits j s.tm) ((s.base + j : Nat) : Int) else puBits s.base s.next bits j s.tm) := by
        show puBit s.base s.next bits (puBits s.base s.next bits j s.tm) j = _
        unfold puBit
        by_cases e : bits / 2 ^ j % 2 = 1 ∧ 0 < j
        · rw [if_pos e, if_pos ⟨e.1, e.2, hkj⟩]
        · rw [if_neg e, if_neg (fun e' => e ⟨e'.1, e'.2.1⟩)]
      by_cases hj0 : 0 < j
      · have dj : decide ((0 : Int) < (j : Int)) = true := by simp; omega
        have dj' : decide (0 < j) = true := by simp; omega
        have hbt := bit64 bits j hbits
        by_cases hbit : bits / 2 ^ j % 2 = 1
        · have hb1 : (Go.bits BinOp.and IntKind.u64 ((bits : Int) / 2 ^ j) 1 == 1) = true := by rw [hbt, hbit]; rfl
          have HNX : Hid (puBits s.base s.next bits (j + 1) s.tm = tmClear (puBits s.base s.next bits j s.tm) ((s.base + j : Nat) : Int)) := by show _ = _; rw [HST.out, if_pos ⟨hbit, hj0⟩]
          have hk := puBits_keys (most := s.c.b) s.base s.next bits j s.tm HTO.out
          have HC := Lib.hid (fun W (U : Below wr.heap.size wr W) => C.clear gt s.c.b (puBits s.base s.next bits j s.tm) ((s.base + j : Nat) : Int) W Xt7 (HR7.out.below C U).tm hk.1 ⟨by omega, by omega⟩ (by have := hk.2.2.2; omega))
          have ewr : IntKind.i64.wrap ((s.base : Int) + (j : Int)) = ((s.base + j : Nat) : Int) := by
            rw [show (s.base : Int) + (j : Int) = ((s.base + j : Nat) : Int) by omega]
            exact IntWalk.i64_in _ (by omega)
          have K2 : Hid (∀ W, Below wr.heap.size wr W → W.cell? ⟨x, 3, none⟩ = some (.pointer (some ⟨gt, 0, none⟩)) ∧ W.cell? ⟨x, 4, none⟩ = some (.int .i64 (s.base : Int))) := fun W U =>
            have h := (HR7.out.below C U).cells.1
            ⟨h.2.2.2.1, h.2.2.2.2.1⟩
          have P0 := Below.refl wr.heap.size wr
          have hnn : (0 : Int) ≤ (j : Int) := by omega
          clear HST hk hbt hbit
          generalize s.base + j = p at *
          go_wp2_with (fail)
          go_region_held3 (fun w' => w'.cell? ⟨x, 3, none⟩ = some (.pointer (some ⟨gt, 0, none⟩)) ∧ w'.cell? ⟨x, 4, none⟩ = some (.int .i64 (s.base : Int))) (first | (with_reducible exact K2.out _ P0) | (with_reducible exact K2.out _ P0.drew) | (with_reducible exact K3.out) | exact K2.out _ P0.drew)
            (first
              | (go_at_call 58; (with_reducible refine (HC.out _ (by first | exact P0 | exact P0.drew)).mono ?_); rintro e w3 ⟨rfl, Xt8, q8, t8⟩; have t8' : Turns Xt7 Xt8 wr w3 := (by first | exact t8 | exact t8.undrew); have HR8 := Lib.hid (HR7.out.t q8 t8'); have K3 : Hid (w3.cell? ⟨x, 3, none⟩ = some (.pointer (some ⟨gt, 0, none⟩)) ∧ w3.cell? ⟨x, 4, none⟩ = some (.int .i64 (s.base : Int))) := ⟨HR8.out.1.cells.1.2.2.2.1, HR8.out.1.cells.1.2.2.2.2.1⟩))
          all_goals
            clear q8 t8 t8'
            go_wp2_with (fail)
            go_roundw
            case rel => exact ⟨j + 1, Xt8, by omega, by go_num, by rw [HNX.out]; exact HR8.out.1, HT7.out.trans HR8.out.2⟩
            case measure => simp [intOf]; omega
        · have h01 : bits / 2 ^ j % 2 = 0 := by omega
          have hb1 : (Go.bits BinOp.and IntKind.u64 ((bits : Int) / 2 ^ j) 1 == 1) = false := by rw [hbt, h01]; rfl
          have HNX : Hid (puBits s.base s.next bits (j + 1) s.tm = puBits s.base s.next bits j s.tm) := by show _ = _; rw [HST.out, if_neg (fun e => hbit e.1)]
          clear HST hbt hbit h01
          go_wp2_with (fail)
          go_roundw
          case rel => exact ⟨j + 1, Xt7, by omega, by go_num, by rw [HNX.out]; exact HR7.out, HT7.out⟩
          case measure => simp [intOf]; omega
      · have dj : decide ((0 : Int) < (j : Int)) = false := by simp; omega
        have dj' : decide (0 < j) = false := by simp; omega
        have HNX : Hid (puBits s.base s.next bits (j + 1) s.tm = puBits s.base s.next bits j s.tm) := by show _ = _; rw [HST.out, if_neg (fun e => hj0 e.2)]
        clear HST
        go_wp2_with (fail)
        go_roundw
        case rel => exact ⟨j + 1, Xt7, by omega, by go_num, by rw [HNX.out]; exact HR7.out, HT7.out⟩
        case measure => simp [intOf]; omega
    · have d0 : decide ((j : Int) < (d : Int)) = false := by simp; omega
      have d0' : decide (j < d) = false := by simp; omega
      obtain rfl : j = d := by omega
      go_wp2
      go_end0
      exact ⟨rfl, Xt7, by rw [HMO.out]; exact HR7.out, HT7.out⟩
end Go.Proofs.Ytncpabnmdofomaa
