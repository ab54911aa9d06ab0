/- Package tally, as landed: Best, Rows. -/
import Derived.Test.YtpdnpfohcnpenaaTlK2
import Derived.Laws.IdiomStrings
namespace Go.Proofs.Ytpdnpfohcnpenaa
open Go.RowKit Go.Maps
set_option maxRecDepth 20000

/-- '[]byte(s)' of a text that is no constant -/
theorem str_bytes (w : World) (s : List UInt8) (hs : s.length ≤ maxLen) : ∃ c w', (convert 9 34 (.string ⟨s.toArray⟩)).run Try.prog w = .ok (.slice (some ⟨w.heap.size, 0, none⟩) s.length c) w' ∧ Fre w' (· < w.heap.size) (some ⟨w.heap.size, 0, none⟩) s.length c s ∧ Below w.heap.size w w' := by
  have hsz : (ByteArray.mk s.toArray).size = s.length := by show s.toArray.size = _; simp
  have hr := run_bytes_of_string (P := Try.prog) w 9 34 5 ⟨s.toArray⟩ Try.underlying9 Try.underlying34 Try.underlying5
  rw [hsz] at hr
  have hc1 := grownCap_ge w s.length 0 5
  have hc2 := grownCap_le_maxLen w s.length 0 5 hs
  generalize grownCap w s.length 0 5 = c at *
  have hlen : (bytesRow ⟨s.toArray⟩ c).size = c := by unfold bytesRow; simp [hsz]; omega
  rw [hlen] at hr
  have hh := heap_alloc_new w.drew (.cells (bytesRow ⟨s.toArray⟩ c) 5 (c, c + 1))
  have hcell : ∀ j (h : j < s.length), (w.drew.alloc (.cells (bytesRow ⟨s.toArray⟩ c) 5 (c, c + 1))).cell? ⟨w.heap.size, 0 + j, none⟩ = some (.int .u8 (s[j].toNat : Int)) := fun j h => by
    rw [Nat.zero_add]
    refine (cell_of_row _ _ _ _ _ _ hh).trans ?_
    unfold bytesRow
    rw [Array.getElem?_append_left (by simpa using h)]
    simp [h]
  have hlt : w.heap.size < (w.drew.alloc (.cells (bytesRow ⟨s.toArray⟩ c) 5 (c, c + 1))).heap.size := lt_of_block hh
  refine ⟨c, _, hr, ⟨⟨rfl, hc1, hc2, fun _ => ⟨w.heap.size, 0, rfl, hlt, hcell⟩⟩, Av.of (by show ¬ w.heap.size < w.heap.size; omega), fun _ => ⟨w.heap.size, 0, rfl, fun j hj => ?_⟩⟩, (Below.refl _ _).drew.alloc (Nat.le_refl _) _⟩
  have hh' : (w.drew.alloc (.cells (bytesRow ⟨s.toArray⟩ c) 5 (c, c + 1))).heap[w.heap.size]? = some (.cells (bytesRow ⟨s.toArray⟩ c) 5 (c, c + 1)) := hh
  unfold World.frozen?
  rw [show ((⟨w.heap.size, 0 + j, none⟩ : Addr).block) = w.heap.size from rfl, hh']
  show (decide (c ≤ 0 + j) && decide (0 + j < c + 1)) = false
  simp
  omega
set_option maxHeartbeats 4000000 in
theorem tlbest_any (g : Nat) (l : List Tal) (a : Int) (w : World) (X : Nat → Prop) (hT : TlP g l w X) (hok : AlOk l) :
    Calls Try.prog 62 #[.pointer (some ⟨g, 0, none⟩), .int .i64 a] w (GivesBest w l a) := by
  obtain ⟨mm, v, hI, _, _, _, _⟩ := hT
  have H1 := Lib.hid (tlmade_any g mm v l w hI)
  obtain ⟨P, cc, rfl, hc1, hc2, kL⟩ := hI.own.shape
  obtain ⟨_, c0, _, _, hgw⟩ := hI.cells
  have HOK := Lib.hid hok.2
  have HA := Lib.hid kL
  have h1000 := hok.1
  obtain ⟨m, hm⟩ : ∃ m, l.length = m := ⟨_, rfl⟩
  have HLN := Lib.hid hm
  rw [hm] at c0 hc1 h1000
  clear hI kL hm hok
  go_enter Try.func62, Try.ntmps62
  go_wp2_with (fail)
  refine H1.out.mono ?_
  rintro e w1 ⟨rfl, rfl⟩
  go_wp2_with (fail)
  have HB0 : Hid ((w.alloc (.cells #[.int .i64 0, .string ByteArray.empty, .int .u64 0] 114)).heap[w.heap.size]? = some (.cells #[.int .i64 0, .string ⟨([] : List UInt8).toArray⟩, .int .u64 ((0 : Nat) : Int)] 114 (0, 0))) := heap_alloc_new w _
  go_loopw [18] (fun i wr => ∃ (k : Nat) (la : Int) (s : List UInt8) (cnt : Nat), k ≤ m ∧ i = .int .i64 (k : Int) ∧ Hid (wr.heap[w.heap.size]? = some (.cells #[.int .i64 la, .string ⟨s.toArray⟩, .int .u64 (cnt : Int)] 114 (0, 0))) ∧ Hid ((alBest (l.take k) a).1 = s) ∧ Hid ((alBest (l.take k) a).2 = cnt) ∧ Hid (s.length ≤ 140737488355328) ∧ Below w.heap.size w wr) (fun i _ => m - (intOf i).toNat)
  case atStart => exact ⟨0, 0, [], 0, Nat.zero_le _, rfl, HB0, rfl, rfl, by show (0 : Nat) ≤ _; omega, (Below.refl _ _).alloc (Nat.le_refl _) _⟩
  case round =>
    obtain ⟨k, la, s, cnt, hk1, rfl, HR, HS, HCN, HSL, hbel⟩ := hrel
    by_cases hlt : k < m
    · have hkl : k < l.length := by rw [HLN.out]; exact hlt
      obtain ⟨b, rfl, _, hb, _, hcl⟩ := HA.out (by omega)
      obtain ⟨t0, t1, t2⟩ := hcl k hkl
      have e0 := (hbel.cell (p := ⟨b, k * 3, none⟩) hb).trans t0
      have e1 := (hbel.cell (p := ⟨b, k * 3 + 1, none⟩) hb).trans t1
      have e2 := (hbel.cell (p := ⟨b, k * 3 + 2, none⟩) hb).trans t2
      have d1 : (k : Int) < (m : Int) := by omega
      have HST := alBest_step l a k hkl
      rw [HCN.out] at HST
      have hxd := (HOK.out _ (List.getElem_mem hkl)).2
      clear hcl t0 t1 t2
      generalize l[k] = x at *
      obtain ⟨xa, xd, xn⟩ := x
      simp only at e0 e1 e2 HST hxd
      have hbel2 := hbel.alloc hbel.size (.cells #[.int .i64 xa, .string ⟨xd.toArray⟩, .int .u64 (xn : Int)] 114)
      have HR1 := Lib.hid (hp_old HR.out (.cells #[.int .i64 xa, .string ⟨xd.toArray⟩, .int .u64 (xn : Int)] 114))
      obtain ⟨b0, b1, b2, bf⟩ := row3c HR1.out
      have hbw : b < wr.heap.size := Nat.lt_of_lt_of_le hb hbel.size
      by_cases hx : xa = a ∧ cnt < xn
      · rw [if_pos hx] at HST
        obtain ⟨rfl, hcx⟩ := hx
        have n1 : (xa == xa) = true := by simp
        have d3 : decide ((cnt : Int) < (xn : Int)) = true := by simp; omega
        have d3' : (cnt : Int) < (xn : Int) := by omega
        have bf0 := bf 0
        have bf1 := bf 1
        have bf2 := bf 2
        have HR2 := Lib.hid (three_row (b0 := .int .i64 xa) (b1 := .string ⟨xd.toArray⟩) (b2 := .int .u64 (xn : Int)) HR1.out)
        have HB2 := Lib.hid (hbel2.trans ((((Off.refl (· = w.heap.size) _).one 0 (.int .i64 xa)).one 1 (.string ⟨xd.toArray⟩)).one 2 (.int .u64 (xn : Int)) |>.below (fun j hj => Nat.le_of_eq hj.symm) hbel2.size))
        have HSTH := Lib.hid HST
        have HXD := Lib.hid hxd
        clear HST hxd bf hbel2
        go_wp2_with (fail)
        go_roundw
        case rel => exact ⟨k + 1, xa, xd, xn, by omega, by go_num, HR2.out, by show _ = _; rw [HSTH.out], by show _ = _; rw [HSTH.out], HXD.out, HB2.out⟩
        case measure => simp [intOf]; omega
      · rw [if_neg hx] at HST
        have HSTH := Lib.hid HST
        have HB2 := Lib.hid hbel2
        clear HST hxd bf hbel2
        by_cases hxa : xa = a
        · subst hxa
          have n1 : (xa == xa) = true := by simp
          have hcx : ¬ cnt < xn := fun h => hx ⟨rfl, h⟩
          have d3 : decide ((cnt : Int) < (xn : Int)) = false := by simp; omega
          have d3' : ¬ ((cnt : Int) < (xn : Int)) := by omega
          go_wp2_with (fail)
          go_roundw
          case rel => exact ⟨k + 1, la, s, cnt, by omega, by go_num, HR1.out, by show _ = _; rw [HSTH.out]; exact HS.out, by show _ = _; rw [HSTH.out]; exact HCN.out, HSL.out, HB2.out⟩
          case measure => simp [intOf]; omega
        · have n1 : (xa == a) = false := by simpa using hxa
          go_wp2_with (fail)
          go_roundw
          case rel => exact ⟨k + 1, la, s, cnt, by omega, by go_num, HR1.out, by show _ = _; rw [HSTH.out]; exact HS.out, by show _ = _; rw [HSTH.out]; exact HCN.out, HSL.out, HB2.out⟩
          case measure => simp [intOf]; omega
    · have d1 : ¬ ((k : Int) < (m : Int)) := by omega
      obtain rfl : k = m := by omega
      have e1 : l.take k = l := List.take_of_length_le (by rw [HLN.out]; omega)
      have hs := HS.out
      have hcn := HCN.out
      rw [e1] at hs hcn
      have HS2 := Lib.hid hs
      have HCN2 := Lib.hid hcn
      have hlt2 : w.heap.size < wr.heap.size := lt_of_block HR.out
      have hbs := hbel.size
      obtain ⟨b0, b1, b2, _⟩ := row3c HR.out
      obtain ⟨c1, w2, hrun, hF, hU⟩ := str_bytes wr.drew s (by have := HSL.out; unfold maxLen; omega)
      have HF := Lib.hid (hF.imp (Y' := (· < w.heap.size)) (fun j hj => Nat.lt_of_lt_of_le hj hbs))
      have HU := Lib.hid (hbel.trans ((undrew hU).mono hbs))
      have b2' := ((undrew hU).cell (p := ⟨w.heap.size, 2, none⟩) hlt2).trans b2
      obtain ⟨ns, hns⟩ : ∃ ns, s.length = ns := ⟨_, rfl⟩
      have HNS := Lib.hid hns
      rw [hns] at hrun HF
      clear hs hcn e1 HS HCN hF hU b0 hns HSL hlt2
      go_wp2_with (fail)
      go_region
      all_goals
        go_wp2
        go_ret2
        exact ⟨_, ns, c1, by rw [HCN2.out]; rfl, by rw [HS2.out]; exact HF.out, HU.out⟩
end Go.Proofs.Ytpdnpfohcnpenaa
