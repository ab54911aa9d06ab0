/- Package queue, as landed: All, and all of its contracts. -/
import Derived.Test.YtoajbocpebfjoaaQuK4
namespace Go.Proofs.Ytoajbocpebfjoaa
open Go.RowKit
set_option maxRecDepth 20000

/-- the list that All makes: its place b, so many cells, of them the first ones filled -/
def QuA (w0 w : World) (b n : Nat) (ms : List (List UInt8)) : Prop :=
  ∃ vs : List Value, w.ownsRow w0.heap.size 39 1 (.slice (some ⟨b, 0, none⟩) n n) n vs ∧ vs.length = n ∧ ∀ j (h : j < ms.length), ∃ A d, vs[j]? = some (.slice A ms[j].length d) ∧ Fre w (fun k => k < w0.heap.size ∨ k = b) A ms[j].length d ms[j]
theorem QuA.below {w0 w w' : World} {b n : Nat} {ms : List (List UInt8)} (h : QuA w0 w b n ms) (T : Below w.heap.size w w') : QuA w0 w' b n ms := by
  obtain ⟨vs, h1, h2, h3⟩ := h
  refine ⟨vs, own_block_off (X := fun _ => False) h1 (Off.of_below T) (fun _ _ h => h), h2, fun j hj => ?_⟩
  obtain ⟨A, d, k1, k2⟩ := h3 j hj
  exact ⟨A, d, k1, k2.below T⟩
theorem QuA.cell {w0 w : World} {b n : Nat} {ms : List (List UInt8)} (h : QuA w0 w b n ms) (j : Nat) (hj : j < n) : (∃ u, w.cell? ⟨b, j, none⟩ = some u) ∧ w.frozen? ⟨b, j, none⟩ = false := by
  obtain ⟨vs, h1, h2, _⟩ := h
  exact ⟨⟨vs[j], (World.ownsRow.cellAt h1 j (by omega)).trans (List.getElem?_eq_getElem (by omega))⟩, World.ownsRow.frozenAt h1 j⟩
theorem QuA.stored {w0 w : World} {b n : Nat} {ms : List (List UInt8)} (h : QuA w0 w b n ms) (hn : ms.length < n) {A : Option Addr} {d : Nat} {x : List UInt8} (hF : Fre w (fun k => k < w0.heap.size ∨ k = b) A x.length d x) :
    QuA w0 (w.setCell ⟨b, ms.length, none⟩ (.slice A x.length d)) b n (ms ++ [x]) := by
  obtain ⟨vs, h1, h2, h3⟩ := h
  have O : Off (· = b) w (w.setCell ⟨b, ms.length, none⟩ (.slice A x.length d)) := (Off.refl (· = b) w).one _ _
  refine ⟨vs.set ms.length (.slice A x.length d), (World.ownsRow.stored h1 ms.length (.slice A x.length d)).1, by simpa using h2, fun j hj => ?_⟩
  by_cases h : j < ms.length
  · have e : (ms ++ [x])[j] = ms[j] := List.getElem_append_left h
    rw [e]
    obtain ⟨A', d', k1, k2⟩ := h3 j h
    exact ⟨A', d', by rw [List.getElem?_set_ne (by omega)]; exact k1, k2.off O (fun k hk => .inr hk)⟩
  · obtain rfl : j = ms.length := by simp at hj; omega
    have e : (ms ++ [x])[ms.length] = x := by simp
    rw [e]
    exact ⟨A, d, List.getElem?_set_self (by omega), hF.off O (fun k hk => .inr hk)⟩
theorem QuA.fre {w0 w : World} {b n : Nat} {ms : List (List UInt8)} (h : QuA w0 w b n ms) (hl : ms.length = n) (hb : w0.heap.size ≤ b) (hw : b < w.heap.size) : RFre w (· < w0.heap.size) (some ⟨b, 0, none⟩) n n ms := by
  obtain ⟨vs, h1, h2, h3⟩ := h
  have hm : n ≤ maxLen := by
    rcases h1.2 with ⟨hv, hn⟩ | ⟨g, cap, cur, hv, hg, hh, hnc, hcm, hcs, ht⟩
    · cases hv
    · injection hv with e1 e2 e3
      omega
  refine ⟨hl, Nat.le_refl _, hm, Av.of (by show ¬ b < _; omega), fun hn => ⟨b, 0, rfl, hw, fun j hj => ?_⟩⟩
  obtain ⟨A, d, k1, k2⟩ := h3 j hj
  exact ⟨A, d, by rw [Nat.zero_add]; exact (World.ownsRow.cellAt h1 j (by omega)).trans k1, k2⟩
set_option maxHeartbeats 4000000 in
theorem quall_any (g room : Nat) (ls : List (List UInt8)) (w : World) (X : Nat → Prop) (hQ : QuP g room ls w X) :
    Calls Try.prog 38 #[.pointer (some ⟨g, 0, none⟩)] w fun e w' => ∃ P n c, e = .returned (.slice P n c) ∧ RFre w' (· < w.heap.size) P n c ls ∧ Below w.heap.size w w' := by
  obtain ⟨hgw, f, hf, _, c17, c18, _, _, _⟩ := hQ.cells
  have h16 : ls.length ≤ 16 := by have := hQ.2.2.1; unfold QOk at this; omega
  have HL := Lib.hid (qulen_any g ls.length w c18)
  have HA : Hid (∀ W, Below w.heap.size w W → ∀ (k : Nat) (hk : k < ls.length), Calls Try.prog 48 #[.pointer (some ⟨g, 0, none⟩), .int .i64 (k : Int)] W fun e w' => ∃ A c, e = .returned (.tuple #[.slice A ls[k].length c, .bool true]) ∧ Fre w' (· < W.heap.size) A ls[k].length c ls[k] ∧ Below W.heap.size W w') := fun W T k hk => by
    have h := quat_any g room ls (k : Int) W X ((QuP.holds g room ls).below hQ T)
    rw [show decide ((0 : Int) ≤ (k : Int) ∧ (k : Int) < (ls.length : Int)) = true by simp; omega, if_pos (by omega), show ((k : Int)).toNat = k from rfl, show ls.getD k [] = ls[k] by simp [hk]] at h
    refine h.mono ?_
    rintro e w' ⟨A, n, c, rfl, hF, T⟩
    obtain rfl : ls[k].length = n := hF.1.len
    exact ⟨A, c, rfl, hF, T⟩
  obtain ⟨i0, hi, hz0, hz1, hz2⟩ := info_parts Try.infoBs
  obtain ⟨n, hn⟩ : ∃ n, ls.length = n := ⟨_, rfl⟩
  have HLN := Lib.hid hn
  rw [hn] at HL h16
  clear hQ c17 c18 hn
  go_enter Try.func38, Try.ntmps38
  go_wp2_with (fail)
  refine HL.out.mono ?_
  rintro e w1 ⟨rfl, rfl⟩
  go_wp2_with (at_make; refine wpList_make_full _ rfl _ _ 57 rfl w.heap.size 39 i0 (.slice none 0 0) 1 Try.underlying57 hi hz0 hz1 .i64 .i64 _ _ n rfl rfl rfl rfl (by rw [hz2]; omega) (by unfold maxLen; omega) (Nat.le_refl _) ?_; intro w1 hown hgrow; have HON := Lib.hid (And.intro hown hgrow); clear hown hgrow)
  have B1 : Below w.heap.size w w1 := (Below.refl _ _).grown HON.out.2 (Nat.le_refl _) (by simp)
  have hbw1 : w.heap.size < w1.heap.size := (World.ownsRow.lt HON.out.1 _ rfl).2
  have HA1 : Hid (QuA w w1 w.heap.size n []) := ⟨_, HON.out.1, by simp [madeCells, Value.cells], fun j hj => absurd hj (by simp)⟩
  clear HON
  go_loopw [10] (fun i wr => ∃ k : Nat, k ≤ n ∧ i = .int .i64 (k : Int) ∧ Hid (QuA w wr w.heap.size n (ls.take k)) ∧ Below w.heap.size w wr ∧ w.heap.size < wr.heap.size) (fun i _ => n - (intOf i).toNat)
  case atStart => exact ⟨0, Nat.zero_le _, rfl, HA1, B1, hbw1⟩
  case round =>
    obtain ⟨k, hk, rfl, HK, hbel, hbw⟩ := hrel
    by_cases hlt : k < n
    · have d1 : decide ((k : Int) < (n : Int)) = true := by simp; omega
      have hkl : k < ls.length := by rw [HLN.out]; exact hlt
      have HAT := Lib.hid (HA.out wr hbel k hkl)
      have HT : Hid (ls.take (k + 1) = ls.take k ++ [ls[k]]) := List.take_succ_eq_append_getElem hkl
      have HTL : Hid ((ls.take k).length = k) := by show _ = _; rw [List.length_take]; omega
      have hs := hbel.size
      have b0 : (0 : Int) ≤ (k : Int) := by omega
      have b1 : (k : Int) < (n : Int) := by omega
      generalize ls[k] = x at *
      obtain ⟨L, hL⟩ : ∃ L, x.length = L := ⟨_, rfl⟩
      have HLL := Lib.hid hL
      rw [hL] at HAT
      clear hL
      go_wp2_with (fail)
      refine HAT.out.mono ?_
      rintro e w2 ⟨A, c, rfl, hF, T2⟩
      have HQ2 := Lib.hid (HK.out.below T2)
      obtain ⟨⟨u, cu⟩, fr⟩ := HQ2.out.cell k hlt
      have HF := Lib.hid (hF.imp (Y' := fun j => j < w.heap.size ∨ j = w.heap.size) (fun j hj => by show j < _; omega))
      have HT2 := Lib.hid (nxt hbel T2)
      have hs2 := T2.size
      clear hF T2
      have HE : Hid (QuA w (w2.setCell ⟨w.heap.size, k, none⟩ (.slice A L c)) w.heap.size n (ls.take (k + 1)) ∧ Below w.heap.size w (w2.setCell ⟨w.heap.size, k, none⟩ (.slice A L c)) ∧ w.heap.size < (w2.setCell ⟨w.heap.size, k, none⟩ (.slice A L c)).heap.size) := by
        have h1 := HQ2.out.stored (x := x) (by rw [HTL.out]; exact hlt) (A := A) (d := c) (by rw [HLL.out]; exact HF.out)
        rw [HTL.out, HLL.out, ← HT.out] at h1
        exact ⟨h1, HT2.out.setCell (p := ⟨w.heap.size, k, none⟩) (Nat.le_refl _) _, by simp [World.setCell]; omega⟩
      clear HF HT2 HAT HQ2
      go_wp2
      go_roundw
      case rel => exact ⟨k + 1, by omega, by go_num, HE.out.1, HE.out.2.1, HE.out.2.2⟩
      case measure => simp [intOf]; omega
    · have d1 : decide ((k : Int) < (n : Int)) = false := by simp; omega
      obtain rfl : k = n := by omega
      have hK := HK.out
      rw [List.take_of_length_le (by rw [HLN.out]; omega)] at hK
      have HE := Lib.hid (hK.fre HLN.out (Nat.le_refl _) hbw)
      clear hK HK HA
      go_wp2
      go_ret
      exact ⟨_, _, _, rfl, HE.out, hbel⟩
theorem quC : QuC QuP where
  holds := QuP.holds
  new_no := fun r w _ h => (qunew_no r w h).mono fun _ _ ⟨h1, h2⟩ => ⟨h1, h2 ▸ Below.refl _ _⟩
  new_yes := qunew_yes
  push := qupush_any
  pop := qupop_any
  front := qufront_any
  at_ := fun g room ls i w X _ hQ => quat_any g room ls i w X hQ
  len := fun g room ls w X hQ => by
    obtain ⟨_, f, _, _, _, c18, _⟩ := hQ.cells
    exact (qulen_any g ls.length w c18).mono fun _ _ ⟨h1, h2⟩ => ⟨h1, h2 ▸ Below.refl _ _⟩
  free := fun g room ls w X hQ => by
    obtain ⟨_, f, _, c0, _, c18, _⟩ := hQ.cells
    exact qufree_any g room ls.length w c0 c18 hQ.2.2.1.2.1 hQ.2.2.1.2.2.1
  all := quall_any
  npush := fun A n c m w _ => (qunpush_any A n c w).mono fun _ _ ⟨h1, h2⟩ => ⟨h1, h2 ▸ Below.refl _ _⟩
  npop := fun w => (qunpop_any w).mono fun _ _ ⟨h1, h2⟩ => ⟨h1, h2 ▸ Below.refl _ _⟩
  nfront := fun w => (qunfront_any w).mono fun _ _ ⟨h1, h2⟩ => ⟨h1, h2 ▸ Below.refl _ _⟩
  nlen := fun w => (qunlen_any w).mono fun _ _ ⟨h1, h2⟩ => ⟨h1, h2 ▸ Below.refl _ _⟩
  nfree := fun w => (qunfree_any w).mono fun _ _ ⟨h1, h2⟩ => ⟨h1, h2 ▸ Below.refl _ _⟩
  nall := qunall_any
end Go.Proofs.Ytoajbocpebfjoaa
