/- What kedgeref25's tells answers. -/
import Derived.Test.YtpidbgnlehikeaaRpl3
import Derived.Test.YtpidbgnlehikeaaSlR
namespace Go.Proofs.Ytpidbgnlehikeaa
open Go.RowKit
set_option maxRecDepth 20000

/-- a literal of one packet -/
theorem lit_sl {w0 w : World} {X : Nat → Prop} (a : Bool) (s : Int) (u : Nat) (hs : w0.heap.size ≤ w.heap.size) (hX : ¬ X w.heap.size) :
    Out w0 X (.slice (some ⟨w.heap.size, 0, none⟩) 1 1) [(a, s, u, [])] (w.alloc (.cells #[.bool a, .int .i64 s, .int .u64 (u : Int), .slice none 0 0] 38)) := by
  refine ⟨⟨[([.bool a, .int .i64 s, .int .u64 (u : Int)], .slice none 0 0)], ⟨by simp [rvs], .inr ⟨w.heap.size, 1, _, rfl, hs, heap_alloc_new w _, Nat.le_refl _, by unfold maxLen; omega, rfl, by simp [rvs]⟩⟩, rfl, fun j h1 h2 => ?_⟩, fun k hk => by cases hk; exact hX⟩
  match j, h1 with
  | 0, _ => exact ⟨rfl, rfl, fun x hx => (by have h : x = .bool a ∨ x = .int .i64 s ∨ x = .int .u64 (u : Int) := (by simpa [sldV] using hx); rcases h with rfl | rfl | rfl <;> rfl), none, 0, rfl, Bys.nil _, fun hn => absurd hn (by simp [sldV])⟩
set_option maxHeartbeats 16000000 in
theorem rltells_any (g gq : Nat) (v : Value) (s : Pls) (Xq Xl : Nat → Prop) (w : World) (h : RLv g gq v s Xq Xl w) (hok : PlOk s) (hb : s.ent ≤ 300000) :
    Calls Try.prog 33 #[.pointer (some ⟨g, 0, none⟩)] w fun e w' => ∃ vo, e = .returned vo ∧ Out w (Tri3 g Xq Xl) vo (plTells s) w' ∧ Below w.heap.size w w' := by
  obtain ⟨⟨-, c2⟩, -, c8, c9, -, -⟩ := h.cells
  obtain ⟨P, pc, rfl, hp1, hp2, hpn, hR⟩ := h.lst
  have hgw := lt_row h.1
  have hN64 := hok.llen
  have hbits := hok.bits
  obtain ⟨N, hN⟩ : ∃ N, s.late.length = N := ⟨_, rfl⟩
  rw [hN] at c8 hp1 hN64
  have HN := Lib.hid hN
  have hm := hok.1.2.2.1
  have hml := hok.1.2.1
  have hmw := hok.1.1
  have HMD := Lib.hid (fun W => rrmod_any (s.ent : Int) s.c.m W (by unfold J64; omega) (by unfold J64; omega))
  have HX := Lib.hid h.lt
  have HCE : Hid (∀ j (hj : j < s.late.length), (∃ b o, P = some ⟨b, o, none⟩ ∧ b < w.heap.size ∧ w.cell? ⟨b, o + j * 2, none⟩ = some (.int .i64 (s.late[j].1 : Int))) ∧ s.ent ≤ s.late[j].1 ∧ s.late[j].1 < s.ent + 64) := fun j hj => by
    obtain ⟨b, o, _, _, e, hbw, hc, _⟩ := lt_cells hR j hj
    have h1 := (hok.2.2.2.1 s.late[j] (List.getElem_mem hj)).1
    exact ⟨⟨b, o, e, hbw, hc⟩, h1.1, by omega⟩
  have HBT : Hid (∀ j, plBits s (s.late.take j) < 18446744073709551616) := fun j => Nat.lt_of_le_of_lt (plBits_take s s.late j) hbits
  have HBS : Hid (∀ j (hj : j < s.late.length), plBits s (s.late.take (j + 1)) = plBits s (s.late.take j) + 2 ^ (s.late[j].1 - s.ent)) := fun j hj => by
    rw [List.take_succ_eq_append_getElem hj, plBits_append]
  have HTL : Hid (plTells s = [(true, rgMod s.ent s.c.m, plBits s (s.late.take N), [])]) := by show _ = _; rw [List.take_of_length_le (by omega)]; rfl
  obtain ⟨E, hEe⟩ : ∃ E, s.ent = E := ⟨_, rfl⟩
  rw [hEe] at c9 hb HMD HCE HBS HTL
  obtain ⟨r, hr⟩ : ∃ r, rgMod (E : Int) s.c.m = r := ⟨_, rfl⟩
  rw [hr] at HMD HTL
  have hcm := hm.2
  clear h hok hR hpn hN hbits hm hml hmw hEe hr
  generalize s.c.m = cm at *
  go_enter Try.func33, Try.ntmps33
  go_wp2_with (fail)
  go_loopw [3, 4] (fun vb i wr => ∃ j : Nat, j ≤ N ∧ i = .int .i64 (j : Int) ∧ vb = .int .u64 ((plBits s (s.late.take j) : Nat) : Int) ∧ Below w.heap.size w wr) (fun _ i _ => N - (intOf i).toNat)
  case atStart => exact ⟨0, Nat.zero_le _, rfl, rfl, Below.refl _ _⟩
  case round =>
    obtain ⟨j, hj, rfl, rfl, hbel⟩ := hrel
    have d2 := (hbel.cell (p := ⟨g, 2, none⟩) hgw).trans c2
    have d8 := (hbel.cell (p := ⟨g, 8, none⟩) hgw).trans c8
    have d9 := (hbel.cell (p := ⟨g, 9, none⟩) hgw).trans c9
    by_cases hlt : j < N
    · have hjl : j < s.late.length := by have := HN.out; omega
      obtain ⟨⟨b, o, rfl, hbw, hc⟩, hx1, hx2⟩ := HCE.out j hjl
      have e0 := (hbel.cell (p := ⟨b, o + j * 2, none⟩) hbw).trans hc
      have HB1 := Lib.hid (HBS.out j hjl)
      have HB2 := Lib.hid (HBT.out (j + 1))
      generalize s.late[j].1 = x at *
      obtain ⟨u1, hu1⟩ : ∃ u1, plBits s (s.late.take (j + 1)) = u1 := ⟨_, rfl⟩
      rw [hu1] at HB1 HB2
      have HU1 := Lib.hid hu1
      clear hu1
      generalize plBits s (s.late.take j) = u at *
      obtain ⟨D, hD⟩ : ∃ D, D = x - E := ⟨x - E, rfl⟩
      have HDX : Hid ((x : Int) - (E : Int) = (D : Int)) := by show _ = _; omega
      have i1 : (j : Int) < (N : Int) := by omega
      have hD64 : D < 64 := by omega
      have HD : Hid (u1 = u + 2 ^ D) := by show _ = _; rw [HB1.out, hD]
      have hw1 : IntKind.i64.wrap ((x : Int) - (E : Int)) = (x : Int) - (E : Int) := IntWalk.i64_in _ (by omega)
      clear hc HB1 hx1 hx2 hD
      go_wp2_with (fail)
      go_quiet (fail)
      go_wp2_with (fail)
      have hbel2 := below_drewN' hbel nq
      generalize wr.drewN nq = W at *
      clear d2 d8 d9 e0 hbel
      go_loopw [5, 6] (fun vb i wr => ∃ (j2 y z : Nat), Hid (y = 2 ^ j2) ∧ Hid (j2 + z = D) ∧ vb = .int .u64 (y : Int) ∧ i = .int .i64 (z : Int) ∧ W = wr) (fun _ i _ => (intOf i).toNat)
      case atStart => exact ⟨0, 1, D, rfl, by show _ = _; omega, rfl, by rw [HDX.out], rfl⟩
      case round =>
        obtain ⟨j2, y, z, HY, HZ, rfl, rfl, rfl⟩ := hrel
        by_cases hz : 0 < z
        · have z1 : (0 : Int) < (z : Int) := by omega
          have hz64 : z ≤ 64 := by have := HZ.out; omega
          obtain ⟨y2, hy2⟩ : ∃ y2, y2 = 2 * y := ⟨_, rfl⟩
          have HY2 := Lib.hid hy2
          have hy3 : y2 < 18446744073709551616 := by
            have h1 : y2 = 2 ^ (j2 + 1) := by rw [hy2, HY.out, Nat.pow_succ, Nat.mul_comm]
            have h2 : 2 ^ (j2 + 1) ≤ 2 ^ 63 := Nat.pow_le_pow_right (by omega) (by have := HZ.out; omega)
            omega
          have hw2 : IntKind.u64.wrap (2 * (y : Int)) = (y2 : Int) := by rw [IntWalk.u64_in _ (by omega)]; omega
          clear hy2
          go_wp2_with (fail)
          go_roundw
          case rel => exact ⟨j2 + 1, y2, z - 1, by show _ = _; rw [HY2.out, HY.out, Nat.pow_succ, Nat.mul_comm], by show _ = _; have := HZ.out; omega, rfl, by congr 1; omega, trivial⟩
          case measure => simp [intOf]; omega
        · have z1 : ¬ ((0 : Int) < (z : Int)) := by omega
          obtain rfl : z = 0 := by omega
          have hu1 : u1 = u + y := by rw [HD.out, HY.out]; have := HZ.out; rw [show j2 = D by omega]
          have hu2 := HB2.out
          have hw3 : IntKind.u64.wrap ((u : Int) + (y : Int)) = (u1 : Int) := by rw [IntWalk.u64_in _ (by omega)]; omega
          clear hu1 hu2
          go_wp2_with (fail)
          go_roundw
          case rel => exact ⟨j + 1, by omega, by go_num, by rw [HU1.out], hbel2⟩
          case measure => simp [intOf]; omega
    · have i1 : ¬ ((j : Int) < (N : Int)) := by omega
      obtain rfl : j = N := by omega
      generalize plBits s (s.late.take j) = u at *
      have hPX : ∀ W, Below w.heap.size w W → ¬ Tri3 g Xq Xl W.heap.size := fun W T hx => by have := HX.out _ hx; have := T.size; omega
      have HPX := Lib.hid hPX
      clear hPX
      have hB0 := Lib.hid hbel
      have hA := hbel.alloc hbel.size (.cells #[.bool true, .int .i64 r, .int .u64 (u : Int), .slice none 0 0] 38)
      have KO : Hid (∀ W, Below w.heap.size w W → W.cell? ⟨g, 2, none⟩ = some (.int .i64 cm) ∧ W.cell? ⟨g, 9, none⟩ = some (.int .i64 (E : Int))) := fun W T => ⟨(T.cell (p := ⟨g, 2, none⟩) hgw).trans c2, (T.cell (p := ⟨g, 9, none⟩) hgw).trans c9⟩
      go_wp2_with (fail)
      go_region_held3 (fun w' => w'.cell? ⟨g, 2, none⟩ = some (.int .i64 cm) ∧ w'.cell? ⟨g, 9, none⟩ = some (.int .i64 (E : Int))) (first | exact ⟨d2, d9⟩ | exact KO.out _ hA | exact KO.out _ hA.drew)
        (first
          | (go_at_call 44; (with_reducible refine (HMD.out _).mono ?_); rintro e w2 ⟨rfl, rfl⟩))
      all_goals
        go_wp2
        go_ret
        rw [HTL.out]
        have h1 := lit_sl (w0 := w) (w := wr) (X := Tri3 g Xq Xl) true r u hbel.size (HPX.out _ hbel)
        first
          | exact ⟨_, rfl, h1.below (below_drewN' (Below.refl _ _) 1), hA.drew⟩
          | exact ⟨_, rfl, h1, hA⟩
          | exact ⟨_, rfl, lit_sl (w0 := w) (w := wr.drew) (X := Tri3 g Xq Xl) true r u hbel.size (HPX.out _ hbel), hbel.drew.alloc hbel.size _⟩
end Go.Proofs.Ytpidbgnlehikeaa
