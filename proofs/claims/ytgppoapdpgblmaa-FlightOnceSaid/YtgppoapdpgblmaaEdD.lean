/- What edit.Do answers. -/
import Derived.Test.YtgppoapdpgblmaaEdF
import Derived.Test.YtgppoapdpgblmaaEdDone
import Derived.Test.YtgppoapdpgblmaaRcopy
namespace Go.Proofs.Ytgppoapdpgblmaa
open Go.RowKit
set_option maxRecDepth 20000

set_option maxHeartbeats 1000000 in
theorem clone_own (A : Option Addr) (n c : Nat) (l : List UInt8) (w : World) (hB : Bys w A n c l) (hn : n ≤ 140737488355328) :
    Calls Try.prog 35 #[.slice A n c] w (GivesW w l) := by
  have q22 : ∀ (w : World) (a : Option Addr) (n c n' c' : Nat), (binOp .eql 33 (.slice a n c) (.slice none n' c')).run Try.prog w = .ok (.bool a.isNone) w := fun w a n c n' c' => Lib.run_eql_slice_nil w _ _ a n c n' c' Try.underlying33
  have hlen := Lib.hid hB.len
  rcases A with _ | ad
  · have h0 : n = 0 := by
      rcases Nat.eq_zero_or_pos n with h | h
      · exact h
      · obtain ⟨b, o, e, _⟩ := hB.at_ h
        cases e
    have hl : l = [] := List.eq_nil_of_length_eq_zero (by rw [hB.len, h0])
    subst h0
    subst hl
    clear hB
    go_enter Try.func35, Try.ntmps35
    go_wp2
    go_ret
    exact ⟨_, rfl, ⟨rfl, .inl ⟨rfl, rfl⟩⟩, Below.refl _ _⟩
  · go_enter Try.func35, Try.ntmps35
    go_wp2_with ((with_reducible refine app_bys _ rfl (.tmp 5) (.tmp 6) rfl w.heap.size (.slice (some ⟨w.heap.size, 0, none⟩) 0 0) 0 [] rfl ?c1 (some ad) n c l rfl (hB.alloc _) ?c2 ?c3 ?_); rotate_right; intro v1 w1 hown1 hgrow1 hwhere1)
    case c1 => exact World.ownsRow_made w #[] 0 (Nat.le_refl _) (Nat.zero_le _) rfl
    case c2 => omega
    case c3 => simp
    go_ret
    simp only [Nat.zero_add, List.nil_append] at hown1
    refine ⟨_, rfl, ?_, ((Below.refl _ w).alloc (Nat.le_refl _) _).grown hgrow1 (by simp) (by intro k hk; simp [Value.ownBlock] at hk; omega)⟩
    rw [hlen.out]
    exact hown1

/-- any edit that fits -/
theorem done_any (v : Value) (l : List UInt8) (k a : Int) (x : UInt8) (B : Nat) (w : World) (hown : w.ownsRow B 5 1 v l.length (bvs l)) (hf : edFits k a l.length = true) (hn : l.length ≤ 4611686018427387904) (hB : B ≤ w.heap.size) :
    Calls Try.prog 37 #[v, .agg #[.int .i64 k, .int .i64 a, .int .u8 (x.toNat : Int)]] w (GivesR w B (edOne l ⟨k, a, x⟩)) := by
  have hf := of_decide_eq_true hf
  obtain ⟨m, rfl⟩ : ∃ m : Nat, a = m := ⟨a.toNat, by omega⟩
  rcases hf.2 with ⟨rfl | rfl, h2⟩ | ⟨⟨rfl, h1⟩ | rfl, h2⟩
  · rw [edOne_put l m x (by omega)]
    exact done_put v l.length m l x B w hown rfl (by omega) hB
  · rw [edOne_del l m x (by omega)]
    exact done_del v l.length m l x B w hown rfl (by omega) hn hB
  · rw [edOne_ins l m x (by omega) h1]
    exact done_ins v l.length m l x B w hown rfl (by omega) h1 hB
  · rw [edOne_cut l m x (by omega)]
    exact done_cut v l.length m l x B w hown rfl (by omega) hB

set_option maxHeartbeats 2000000 in
theorem do_any (A : Option Addr) (n c : Nat) (b : List UInt8) (A2 : Option Addr) (n2 c2 : Nat) (l : List Ed) (w : World) (hB : Bys w A n c b) (hE : Eds w A2 n2 c2 l) (hn : n ≤ 1000000) (hn2 : n2 ≤ 1000000) :
    Calls Try.prog 30 #[.slice A n c, .slice A2 n2 c2] w (GivesW w (edDo b l)) := by
  have hbl := hB.len
  have HC := Lib.hid (clone_own A n c b w hB (by omega))
  obtain ⟨hl, hnc, hcm, hcell⟩ := hE
  unfold maxLen at hcm
  subst hl
  have HE := Lib.hid hcell
  clear hcell hB
  go_enter Try.func30, Try.ntmps30
  go_wp2_with (fail)
  refine HC.out.mono ?_
  rintro e w1 ⟨v1, rfl, hown1, T1⟩
  go_wp2_with (fail)
  go_loopw [5, 12] (fun v i wr => ∃ k : Nat, k ≤ l.length ∧ i = .int .i64 k ∧ wr.ownsRow w.heap.size 5 1 v (edDo b (l.take k)).length (bvs (edDo b (l.take k))) ∧ Below w.heap.size w wr) (fun _ i _ => l.length - (intOf i).toNat)
  case atStart => exact ⟨0, Nat.zero_le _, rfl, by simpa [edDo] using hown1, T1⟩
  case round =>
    obtain ⟨k, hk, rfl, hown, hbel⟩ := hrel
    by_cases hlt : k < l.length
    · obtain ⟨g, o, rfl, hg, hc⟩ := HE.out (by omega)
      obtain ⟨c1, c2, c3⟩ := hc k hlt
      have c1 := (hbel.cell (p := ⟨g, o + k * 3, none⟩) hg).trans c1
      have c2 := (hbel.cell (p := ⟨g, o + k * 3 + 1, none⟩) hg).trans c2
      have c3 := (hbel.cell (p := ⟨g, o + k * 3 + 2, none⟩) hg).trans c3
      have hlen := edDo_len b l k
      have hst := edDo_take b l k hlt
      generalize l[k] = x at *
      obtain ⟨xk, xa, xb⟩ := x
      simp only at c1 c2 c3
      generalize edDo b (l.take k) = cur at *
      obtain ⟨A1, d1, rfl⟩ := own_shape hown
      have hcl : cur.length ≤ 4611686018427387904 := by omega
      have HF : Hid (∀ W, Calls Try.prog 36 #[.agg #[.int .i64 xk, .int .i64 xa, .int .u8 (xb.toNat : Int)], .int .i64 cur.length] W fun e w' => e = .returned (.bool (edFits xk xa cur.length)) ∧ Below W.heap.size W w') := fun W => fits_any xk xa xb cur.length W hcl
      have HCL := Lib.hid hcl
      have HST := Lib.hid hst
      have HON := Lib.hid hown
      have HBX : Hid (∀ j, (wr.alloc (.cells #[.int .i64 xk, .int .i64 xa, .int .u8 (xb.toNat : Int)] 80)).cell? ⟨wr.heap.size, j, none⟩ = (#[.int .i64 xk, .int .i64 xa, .int .u8 (xb.toNat : Int)] : Array Value)[j]?) := fun j => cell_of_row _ _ _ _ _ _ (heap_alloc_new wr _)
      clear hst hown hcl hlen hc
      go_wp2_with (fail)
      refine (HF.out _).mono ?_
      rintro e w2 ⟨rfl, T2⟩
      have b0 : w2.cell? ⟨wr.heap.size, 0, none⟩ = some (.int .i64 xk) := (T2.cell (p := ⟨wr.heap.size, 0, none⟩) (by simp)).trans (HBX.out 0)
      have b1 : w2.cell? ⟨wr.heap.size, 1, none⟩ = some (.int .i64 xa) := (T2.cell (p := ⟨wr.heap.size, 1, none⟩) (by simp)).trans (HBX.out 1)
      have b2 : w2.cell? ⟨wr.heap.size, 2, none⟩ = some (.int .u8 (xb.toNat : Int)) := (T2.cell (p := ⟨wr.heap.size, 2, none⟩) (by simp)).trans (HBX.out 2)
      have T02 : Below wr.heap.size wr w2 := ((Below.refl wr.heap.size wr).alloc (Nat.le_refl _) _).trans (T2.mono (by simp))
      clear T2 HBX HF
      have hon2 := own_below HON.out T02
      have hbel2 := nxt hbel T02
      have hz2 := hbel2.size
      cases hf : edFits xk xa cur.length with
      | false =>
        have HN := Lib.hid (edOne_unfit cur ⟨xk, xa, xb⟩ hf)
        have HO2 := Lib.hid hon2
        clear hon2 hf
        go_wp2
        go_roundw
        case rel =>
          refine ⟨k + 1, by omega, by go_num, ?_, hbel2⟩
          rw [HST.out, HN.out]
          exact HO2.out
        case measure => simp [intOf]; omega
      | true =>
        have HD := Lib.hid (done_any _ cur xk xa xb w.heap.size w2 hon2 hf HCL.out hz2)
        clear hon2 hf
        go_wp2_with (fail)
        refine HD.out.mono ?_
        rintro e w3 ⟨v3, rfl, hown3, T3⟩
        have HO3 := Lib.hid hown3
        clear hown3
        go_wp2
        go_roundw
        case rel =>
          refine ⟨k + 1, by omega, by go_num, ?_, hbel2.trans T3⟩
          rw [HST.out]
          exact HO3.out
        case measure => simp [intOf]; omega
    · obtain rfl : k = l.length := by omega
      rw [List.take_length] at hown
      have HON := Lib.hid hown
      clear hown
      go_wp2
      go_ret
      exact ⟨_, rfl, HON.out, hbel⟩
end Go.Proofs.Ytgppoapdpgblmaa
