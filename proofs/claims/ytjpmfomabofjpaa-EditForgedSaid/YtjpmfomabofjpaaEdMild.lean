/- What edit.Mild and kedgeref06.Mild answer. -/
import Derived.Test.YtjpmfomabofjpaaEdV
import Derived.Test.YtjpmfomabofjpaaStuffL
import Derived.Test.YtjpmfomabofjpaaRstuffL
namespace Go.Proofs.Ytjpmfomabofjpaa
open Go.RowKit

instance (w : List UInt8) (e : Ed) : Decidable (edFit w e) := inferInstanceAs (Decidable (_ ∧ _))
instance (w : List UInt8) (l : List Ed) : Decidable (edMild w l) := inferInstanceAs (Decidable (_ ∧ _))
/-- the least and the greatest place so far -/
def edSpan (w : List UInt8) (l : List Ed) (lo hi : Int) : Prop :=
  (∀ e ∈ l, edFit w e ∧ lo ≤ e.at_ ∧ e.at_ ≤ hi) ∧ (l ≠ [] → (∃ e ∈ l, e.at_ = lo) ∧ ∃ e ∈ l, e.at_ = hi) ∧ 0 ≤ lo ∧ lo ≤ w.length ∧ 0 ≤ hi ∧ hi ≤ w.length
theorem edSpan_nil (w : List UInt8) (lo hi : Int) (h : 0 ≤ lo ∧ lo ≤ w.length ∧ 0 ≤ hi ∧ hi ≤ w.length) : edSpan w [] lo hi := ⟨fun e h => (by cases h), fun h => absurd rfl h, h⟩
/-- one more; 'lo' and 'hi' count for nothing where there was none -/
theorem edSpan_snoc {w : List UInt8} {l : List Ed} {lo hi lo' hi' : Int} {e : Ed} (h : edSpan w l lo hi) (he : edFit w e)
    (h1 : lo' ≤ e.at_ ∧ e.at_ ≤ hi') (h2 : l ≠ [] → lo' ≤ lo ∧ hi ≤ hi') (h3 : lo' = e.at_ ∨ (l ≠ [] ∧ lo' = lo)) (h4 : hi' = e.at_ ∨ (l ≠ [] ∧ hi' = hi)) : edSpan w (l ++ [e]) lo' hi' := by
  obtain ⟨k1, k2, k3⟩ := h
  have hf := he
  obtain ⟨_, f1, f2, _⟩ := hf
  refine ⟨fun x hx => ?_, fun _ => ⟨?_, ?_⟩, ?_⟩
  · rcases List.mem_append.1 hx with hx | hx
    · obtain ⟨a1, a2, a3⟩ := k1 x hx
      have := h2 (List.ne_nil_of_mem hx)
      exact ⟨a1, by omega, by omega⟩
    · obtain rfl := List.mem_singleton.1 hx
      exact ⟨he, h1⟩
  · rcases h3 with h3 | ⟨h3, h5⟩
    · exact ⟨e, by simp, h3.symm⟩
    · obtain ⟨⟨x, hx, hx2⟩, -⟩ := k2 h3
      exact ⟨x, by simp [hx], by omega⟩
  · rcases h4 with h3 | ⟨h3, h5⟩
    · exact ⟨e, by simp, h3.symm⟩
    · obtain ⟨-, x, hx, hx2⟩ := k2 h3
      exact ⟨x, by simp [hx], by omega⟩
  · refine ⟨?_, ?_, ?_, ?_⟩
    · rcases h3 with h3 | ⟨_, h3⟩ <;> omega
    · rcases h3 with h3 | ⟨_, h3⟩ <;> omega
    · rcases h4 with h3 | ⟨_, h3⟩ <;> omega
    · rcases h4 with h3 | ⟨_, h3⟩ <;> omega
theorem edSpan_end {w : List UInt8} {l : List Ed} {lo hi : Int} (h : edSpan w l lo hi) (h0 : l = [] → hi - lo ≤ 3) : decide (edMild w l) = decide (hi - lo ≤ 3) := by
  rw [decide_eq_decide]
  obtain ⟨k1, k2, k3⟩ := h
  constructor
  · rintro ⟨m1, m2⟩
    by_cases hl : l = []
    · exact h0 hl
    · obtain ⟨⟨x, hx, rfl⟩, y, hy, rfl⟩ := k2 hl
      have := m2 y hy x hx
      omega
  · intro hd
    refine ⟨fun e he => (k1 e he).1, fun e he f hf => ?_⟩
    have := k1 e he
    have := k1 f hf
    omega
theorem edMild_no {w : List UInt8} {l : List Ed} {e : Ed} (he : e ∈ l) (h : ¬ edFit w e) : decide (edMild w l) = false := by
  rw [decide_eq_false_iff_not]
  rintro ⟨m1, _⟩
  exact h (m1 e he)
theorem plainV_at (l : List UInt8) (k m : Nat) (h : m < k) : (plainV l k)[m]? = some (.bool (plainAt l m)) := by simp [plainV, List.getElem?_range h]

set_option maxHeartbeats 1000000 in
theorem mild1_any (A : Option Addr) (c : Nat) (b : List UInt8) (k a : Int) (x : UInt8) (w : World) (h : Vals w A b.length c (plainV b b.length)) :
    Calls Try.prog 25 #[.slice A b.length c, .agg #[.int .i64 k, .int .i64 a, .int .u8 (x.toNat : Int)]] w fun e w' => e = .returned (.bool (decide (edFit b ⟨k, a, x⟩))) ∧ Below w.heap.size w w' := by
  have hle := h.le
  have hcap := h.cap
  by_cases k0 : k = 0
  · subst k0
    by_cases a0 : 0 ≤ a
    · obtain ⟨m, rfl⟩ : ∃ m : Nat, a = m := ⟨a.toNat, by omega⟩
      by_cases am : m < b.length
      · obtain ⟨g, o, rfl, hg, hc⟩ := h.at_ (by omega)
        have c1 := hc m (by rw [plainV_length]; exact am)
        have e1 : (plainV b b.length)[m]'(by rw [plainV_length]; exact am) = .bool (plainAt b m) := by
          have := plainV_at b b.length m am
          rw [List.getElem?_eq_getElem (by rw [plainV_length]; exact am)] at this
          injection this
        rw [e1] at c1
        have hfin : edFit b ⟨0, m, x⟩ ↔ plainAt b m = true ∧ x ≠ 0x7e ∧ x ≠ 0x7d := by
          unfold edFit
          simp only [Int.toNat_natCast]
          constructor
          · rintro ⟨_, _, _, h1, h2, h3⟩; exact ⟨h1, h2, h3⟩
          · rintro ⟨h1, h2, h3⟩; exact ⟨trivial, by omega, by omega, h1, h2, h3⟩
        have hE := Lib.hid hfin
        clear h hc e1 hfin
        obtain ⟨p, hp⟩ : ∃ p, plainAt b m = p := ⟨_, rfl⟩
        rw [hp] at c1 hE
        clear hp
        have d0 : decide ((m : Int) < 0) = false := by simp
        have d1 : decide ((b.length : Int) ≤ (m : Int)) = false := by simp; omega
        have eR : ∀ r : Bool, ((p = true ∧ x ≠ 0x7e ∧ x ≠ 0x7d) ↔ r = true) → Hid (decide (edFit b ⟨0, m, x⟩) = r) := fun r h => by
          show _ = _
          rw [Bool.eq_iff_iff, decide_eq_true_iff, hE.out, h]
        clear hE
        cases p with
        | false =>
          have hD := eR false (by simp)
          clear eR
          go_enter Try.func25, Try.ntmps25
          go_wp2
          go_ret
          exact ⟨ret_bool hD.out.symm, (Below.refl _ _).alloc (Nat.le_refl _) _⟩
        | true =>
          by_cases x1 : x = 0x7e
          · have e2 : ((x.toNat : Int) != 126) = false := by subst x1; rfl
            have hD := eR false (by simp [x1])
            clear eR x1
            go_enter Try.func25, Try.ntmps25
            go_wp2
            go_ret
            exact ⟨ret_bool hD.out.symm, (Below.refl _ _).alloc (Nat.le_refl _) _⟩
          · have e2 : ((x.toNat : Int) != 126) = true := by have := u8_ne (b := 0x7e) x1; simpa [bne] using this
            by_cases x2 : x = 0x7d
            · have e3 : ((x.toNat : Int) != 125) = false := by subst x2; rfl
              have hD := eR false (by simp [x2])
              clear eR x1 x2
              go_enter Try.func25, Try.ntmps25
              go_wp2
              go_ret
              exact ⟨ret_bool hD.out.symm, (Below.refl _ _).alloc (Nat.le_refl _) _⟩
            · have e3 : ((x.toNat : Int) != 125) = true := by have := u8_ne (b := 0x7d) x2; simpa [bne] using this
              have hD := eR true (by simp [x1, x2])
              clear eR x1 x2
              go_enter Try.func25, Try.ntmps25
              go_wp2
              go_ret
              exact ⟨ret_bool hD.out.symm, (Below.refl _ _).alloc (Nat.le_refl _) _⟩
      · have d0 : decide ((m : Int) < 0) = false := by simp
        have d1 : decide ((b.length : Int) ≤ (m : Int)) = true := by simp; omega
        have hE : Hid (decide (edFit b ⟨0, m, x⟩) = false) := by
          show _ = _
          rw [decide_eq_false_iff_not]
          rintro ⟨_, _, h1, _⟩
          simp only at h1
          omega
        clear h
        go_enter Try.func25, Try.ntmps25
        go_wp2
        go_ret
        exact ⟨ret_bool hE.out.symm, (Below.refl _ _).alloc (Nat.le_refl _) _⟩
    · have d0 : decide (a < 0) = true := by simp; omega
      have hE : Hid (decide (edFit b ⟨0, a, x⟩) = false) := by
        show _ = _
        rw [decide_eq_false_iff_not]
        rintro ⟨_, h1, _⟩
        simp only at h1
        omega
      clear h
      go_enter Try.func25, Try.ntmps25
      go_wp2
      go_ret
      exact ⟨ret_bool hE.out.symm, (Below.refl _ _).alloc (Nat.le_refl _) _⟩
  · have e0 : (k != 0) = true := by simpa using k0
    have hE : Hid (decide (edFit b ⟨k, a, x⟩) = false) := by
      show _ = _
      rw [decide_eq_false_iff_not]
      rintro ⟨h1, _⟩
      exact k0 h1
    clear h
    go_enter Try.func25, Try.ntmps25
    go_wp2
    go_ret
    exact ⟨ret_bool hE.out.symm, (Below.refl _ _).alloc (Nat.le_refl _) _⟩

set_option maxHeartbeats 2000000 in
theorem mild_any (A : Option Addr) (n c : Nat) (b : List UInt8) (A2 : Option Addr) (n2 c2 : Nat) (l : List Ed) (w : World) (hB : Bys w A n c b) (hE : Eds w A2 n2 c2 l) (hn : n ≤ 1000000) :
    Calls Try.prog 13 #[.slice A n c, .slice A2 n2 c2] w fun e w' => e = .returned (.bool (decide (edMild b l))) ∧ Below w.heap.size w w' := by
  have HC := Lib.hid (plain_any A n c b w hB (by omega))
  obtain rfl := hB.len
  obtain ⟨hl, hnc, hcm, hcell⟩ := hE
  unfold maxLen at hcm
  subst hl
  have HE := Lib.hid hcell
  clear hcell hB
  go_enter Try.func13, Try.ntmps13
  go_wp2_with (fail)
  refine HC.out.mono ?_
  rintro e w1 ⟨A1, c1, rfl, hv, T1⟩
  rw [plainV_length] at hv ⊢
  have HV := Lib.hid hv
  clear hv HC
  go_wp2_with (fail)
  go_loopw [6, 7, 16] (fun lo hi i wr => ∃ k : Nat, k ≤ l.length ∧ i = .int .i64 k ∧ ∃ (x y : Int), lo = .int .i64 x ∧ hi = .int .i64 y ∧ edSpan b (l.take k) x y ∧ (k = 0 → x = b.length ∧ y = 0) ∧ Below w.heap.size w wr ∧ Below w1.heap.size w1 wr) (fun _ _ i _ => l.length - (intOf i).toNat)
  case atStart => exact ⟨0, Nat.zero_le _, rfl, _, _, rfl, rfl, edSpan_nil _ _ _ (by omega), fun _ => ⟨rfl, rfl⟩, T1, Below.refl _ _⟩
  case round =>
    obtain ⟨k, hk, rfl, lo, hi, rfl, rfl, hsp, hfirst, hbel, hbel1⟩ := hrel
    by_cases hlt : k < l.length
    · obtain ⟨g, o, rfl, hg, hc⟩ := HE.out (by omega)
      obtain ⟨e1, e2, e3⟩ := hc k hlt
      have e1 := (hbel.cell (p := ⟨g, o + k * 3, none⟩) hg).trans e1
      have e2 := (hbel.cell (p := ⟨g, o + k * 3 + 1, none⟩) hg).trans e2
      have e3 := (hbel.cell (p := ⟨g, o + k * 3 + 2, none⟩) hg).trans e3
      have hmem : l[k] ∈ l := List.getElem_mem hlt
      have htk := List.take_succ_eq_append_getElem hlt
      generalize l[k] = x at *
      obtain ⟨xk, xa, xb⟩ := x
      simp only at e1 e2 e3
      have HF := Lib.hid (fun W (T : Below w1.heap.size w1 W) => mild1_any A1 c1 b xk xa xb W (HV.out.below T))
      have HBX : Hid (∀ j, (wr.alloc (.cells #[.int .i64 xk, .int .i64 xa, .int .u8 (xb.toNat : Int)] 37)).cell? ⟨wr.heap.size, j, none⟩ = (#[.int .i64 xk, .int .i64 xa, .int .u8 (xb.toNat : Int)] : Array Value)[j]?) := fun j => cell_of_row _ _ _ _ _ _ (heap_alloc_new wr _)
      have HS := Lib.hid (And.intro hsp (And.intro hfirst (And.intro hmem htk)))
      clear hsp hfirst hmem htk hc
      go_wp2_with (fail)
      refine (HF.out _ (hbel1.alloc hbel1.size _)).mono ?_
      rintro e w2 ⟨rfl, T2⟩
      have b1 : w2.cell? ⟨wr.heap.size, 1, none⟩ = some (.int .i64 xa) := (T2.cell (p := ⟨wr.heap.size, 1, none⟩) (by simp)).trans (HBX.out 1)
      have T02 : Below wr.heap.size wr w2 := ((Below.refl wr.heap.size wr).alloc (Nat.le_refl _) _).trans (T2.mono (by simp))
      clear T2 HBX HF
      have hbel2 := nxt hbel T02
      have hbel12 := nxt hbel1 T02
      by_cases hf : edFit b ⟨xk, xa, xb⟩
      · have hd := decide_eq_true hf
        rw [hd]
        obtain ⟨hsp, hfirst, hmem, htk⟩ := HS.out
        have hr := hsp.2.2
        obtain ⟨_, hf0, hf1, _⟩ := id hf
        simp only at hf0 hf1
        have HFT := Lib.hid hf
        clear hd hf
        go_wp2_with (fail)
        go_region
        go_wp2
        go_roundw
        case rel =>
          refine ⟨k + 1, by omega, by go_num, _, _, rfl, rfl, ?_, fun h => absurd h (by omega), hbel2.drew, hbel12.drew⟩
          obtain ⟨hsp, hfirst, -, htk⟩ := HS.out
          rw [htk]
          have hnil : l.take k ≠ [] → k ≠ 0 := by rintro h rfl; exact h rfl
          have hnn : k ≠ 0 → l.take k ≠ [] := fun h e => by have := congrArg List.length e; rw [List.length_take, List.length_nil] at this; omega
          refine edSpan_snoc hsp HFT.out ?_ ?_ ?_ ?_
          · dsimp only
            constructor <;> split <;> omega
          · intro _
            constructor <;> split <;> omega
          · dsimp only
            by_cases h : xa < lo
            · rw [if_pos h]; exact .inl rfl
            · rw [if_neg h]
              exact .inr ⟨hnn (fun h0 => by have := hfirst h0; omega), rfl⟩
          · dsimp only
            by_cases h : hi < xa
            · rw [if_pos h]; exact .inl rfl
            · rw [if_neg h]
              by_cases h0 : k = 0
              · left
                have := hfirst h0
                omega
              · exact .inr ⟨hnn h0, rfl⟩
        case measure => simp [intOf]; omega
      · have hd := decide_eq_false hf
        rw [hd]
        have HR := Lib.hid (edMild_no HS.out.2.2.1 hf)
        clear hd hf
        go_wp2
        go_ret
        exact ⟨ret_bool HR.out.symm, hbel2⟩
    · obtain rfl : k = l.length := by omega
      rw [List.take_length] at hsp
      have HS := Lib.hid (edSpan_end hsp (fun h => by have := hfirst (by rw [h]; rfl); omega))
      have HW : Hid (wrap64 (hi - lo) = hi - lo) := IntWalk.wrap64_in _ (by have := hsp.2.2; omega)
      clear hsp hfirst
      go_wp2
      go_ret
      refine ⟨ret_bool ?_, hbel⟩
      rw [HS.out, HW.out, decide_eq_decide]
      omega
end Go.Proofs.Ytjpmfomabofjpaa
