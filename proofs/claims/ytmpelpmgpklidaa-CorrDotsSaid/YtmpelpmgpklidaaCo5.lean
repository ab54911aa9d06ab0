/- Package corr: Find. -/
import Derived.Test.YtmpelpmgpklidaaCo4
namespace Go.Proofs.Ytmpelpmgpklidaa
open Go.RowKit

theorem Cs.take {w : World} {A : Option Addr} {n c : Nat} {l : List Pt} (h : Cs w A n c l) (m : Nat) (hm : m ≤ n) : Cs w A m c (l.take m) := by
  obtain ⟨h1, h2, h3, h4⟩ := h
  refine ⟨by simp; omega, by omega, h3, fun hn => ?_⟩
  obtain ⟨b, o, vs, e, hb, hv, hc⟩ := h4 (by omega)
  have hvl := hv.1
  refine ⟨b, o, vs.take m, e, hb, ⟨by simp; omega, fun j hj hj' => ?_⟩, fun j hj => ?_⟩
  · simp at hj hj'
    obtain ⟨x, y, e1, e2, e3⟩ := hv.2 j (by omega) (by omega)
    exact ⟨x, y, by rw [List.getElem_take]; exact e1, by rw [List.getElem_take]; exact e2, by rw [List.getElem_take]; exact e3⟩
  · simp at hj
    rw [List.getElem_take]
    exact hc j (by omega)
theorem index_four (v0 v1 v2 v3 : Value) (W : World) : (Instr.index 52 (.agg #[v0, v1, v2, v3]) (.int .i64 0)).run Try.prog W = .ok v0 W ∧ (Instr.index 52 (.agg #[v0, v1, v2, v3]) (.int .i64 1)).run Try.prog W = .ok v1 W ∧ (Instr.index 52 (.agg #[v0, v1, v2, v3]) (.int .i64 2)).run Try.prog W = .ok v2 W ∧ (Instr.index 52 (.agg #[v0, v1, v2, v3]) (.int .i64 3)).run Try.prog W = .ok v3 W :=
  ⟨by kernel_rfl, by kernel_rfl, by kernel_rfl, by kernel_rfl⟩
theorem index_look (cs : Array Value) (h : cs.size = 4) (k : Nat) (v : Value) (hk : k < 4) (hv : cs[k]? = some v) (W : World) : (Instr.index 52 (.agg cs) (.int .i64 (k : Int))).run Try.prog W = .ok v W := by
  obtain ⟨vs⟩ := cs
  match vs, h with
  | [v0, v1, v2, v3], _ =>
    obtain ⟨i0, i1, i2, i3⟩ := index_four v0 v1 v2 v3 W
    have h4 : k = 0 ∨ k = 1 ∨ k = 2 ∨ k = 3 := by omega
    rcases h4 with rfl | rfl | rfl | rfl
    · have : v0 = v := by simpa using hv
      rw [← this]; exact i0
    · have : v1 = v := by simpa using hv
      rw [← this]; exact i1
    · have : v2 = v := by simpa using hv
      rw [← this]; exact i2
    · have : v3 = v := by simpa using hv
      rw [← this]; exact i3
set_option maxHeartbeats 4000000 in
theorem find_any (hT : ∀ (A : Option Addr) (n c : Nat) (l : List Pt) (k : Int) (w : World), Cs w A n c l → n ≤ 1000000 → (∀ p ∈ l, Mid p) → -9223372036854775808 ≤ k ∧ k ≤ 9223372036854775807 → Calls Try.prog 22 #[.slice A n c, .int .i64 k] w (GivesC w (turnB l k)))
    (A : Option Addr) (n c : Nat) (l : List Pt) (B : Option Addr) (m d : Nat) (mark : List Pt) (w : World) (hP : Cs w A n c l) (hQ : Cs w B m d mark) (_ : ∀ p ∈ l, Near p) (hr : ∀ p ∈ mark, Near p) (hn : n ≤ 400) (hm : m ≤ 400) :
    Calls Try.prog 18 #[.slice A n c, .slice B m d] w (GivesFd w l mark) := by
  have hl1 := hP.len
  have hl2 := hQ.len
  have hnc := hP.le
  have hcm := hP.cap
  have hmd := hQ.le
  have hdm := hQ.cap
  have HSD := Lib.hid (sides_any hT B m d mark w hQ hr hm)
  have HPL := Lib.hid (fun W => places_any A n c B m d W (by omega) (by omega))
  have HP1 : Hid (m = 0 ∨ ∀ b, b + m ≤ n → b < placesN n m) := by
    by_cases h0 : placesN n m = 0
    · rcases placesN_zero h0 with h | h
      · exact .inl h
      · exact .inr (fun b hb => absurd hb (by omega))
    · have := placesN_pos h0
      exact .inr (fun b hb => by omega)
  have HP2 : Hid (∀ k, k < placesN n m → 0 < m ∧ k + m ≤ n) := fun k hk => by
    have := placesN_pos (n := n) (m := m) (by omega)
    omega
  have hpl : placesN n m ≤ 401 := by unfold placesN; split <;> omega
  generalize placesN n m = P at *
  have HC := Lib.hid (fun j => hP.at_ j)
  have HEQ : Hid (∀ (g o k : Nat) (A2 : Option Addr) (c2 : Nat) (r : List Pt) (W : World), A = some ⟨g, o, none⟩ → k + m ≤ n → Below w.heap.size w W → Cs W A2 m c2 r → Calls Try.prog 29 #[.slice (some ⟨g, o + k, none⟩) m (c - k), .slice A2 m c2] W (GivesT8 W ((l.drop k).take m = r))) := fun g o k A2 c2 r W hA hk kk hC => by
    subst hA
    exact eqc_any _ _ _ _ _ _ _ _ W (((hP.below kk).drop k (by omega)).take m (by omega)) hC
  subst hl1 hl2
  clear hP hQ hr hT
  go_enter Try.func18, Try.ntmps18
  go_wp2_with (fail)
  go_step3
  go_wp2_with (fail)
  refine HSD.out.mono ?_
  rintro e w1 ⟨cs, rfl, hL, T1⟩
  have hsz := hL.1
  have hinf : (Try.prog.info? 52).map (·.size) = some cs.size := by rw [hsz]; kernel_rfl
  have hone := hL.one
  have HL := Lib.hid hL
  clear hL
  go_wp2_with (refine wpList_store_row rfl 52 _ _ rfl w1.heap.size cs rfl rfl 52 _ (heap_alloc_new w1 _) hinf ?_ hone ?_; (rw [hsz]; rfl))
  have hh := setRow_heap (w1.alloc (.cells #[.slice none 0 0, .slice none 0 0, .slice none 0 0, .slice none 0 0] 52)) w1.heap.size _ cs _ _ (heap_alloc_new w1 _)
  have T2 : Below w1.heap.size w1 ((w1.alloc (.cells #[.slice none 0 0, .slice none 0 0, .slice none 0 0, .slice none 0 0] 52)).setRow w1.heap.size cs) := by
    have T := (Below.refl w1.heap.size w1).alloc (Nat.le_refl _) (.cells #[.slice none 0 0, .slice none 0 0, .slice none 0 0, .slice none 0 0] 52)
    exact ⟨T.os, T.tape, T.output, by rw [setRow_size]; exact T.size, fun k hk => (setRow_other _ _ _ _ (by omega)).trans (T.block k hk)⟩
  have HL2 := Lib.hid (HL.out.below T2)
  have T2 := nxt T1 T2
  have hgs := lt_of_block hh
  generalize (w1.alloc (.cells #[.slice none 0 0, .slice none 0 0, .slice none 0 0, .slice none 0 0] 52)).setRow w1.heap.size cs = w2 at *
  clear HL
  go_step3
  go_wp2_with (fail)
  refine (HPL.out _).mono ?_
  rintro e w3 ⟨rfl, rfl⟩
  go_wp2_with (fail)
  go_loopw [4, 5, 6, 17] (fun r1 r2 r3 i wr => ∃ k : Nat, i = .int .i64 (k : Int) ∧ r1 = .int .i64 0 ∧ r2 = .int .i64 0 ∧ r3 = .bool false ∧ k ≤ P ∧ Hid (∀ b, b < k → ∀ u, u < 4 → ¬ St l mark b u) ∧ Below w2.heap.size w2 wr) (fun _ _ _ i _ => P - (intOf i).toNat)
  case atStart => exact ⟨0, rfl, rfl, rfl, rfl, by omega, fun b hb => absurd hb (by omega), Below.refl _ _⟩
  case round =>
    obtain ⟨k, rfl, rfl, rfl, rfl, hk, HN, hbel⟩ := hrel
    by_cases h1 : k < P
    · have d1 : decide ((k : Int) < (P : Int)) = true := by simp; omega
      obtain ⟨hm0, hkm⟩ := HP2.out k h1
      obtain ⟨g, o, -, -, rfl, hg, -⟩ := HC.out k (by omega)
      have hhr := (hbel.block _ hgs).trans hh
      have i1 : (k : Int) ≤ (k : Int) + (mark.length : Int) := by omega
      have i2 : (k : Int) + (mark.length : Int) ≤ (c : Int) := by omega
      have i3 : (k : Int) + (mark.length : Int) ≤ (l.length : Int) := by omega
      go_wp2_with (refine wpList_load_row rfl 52 _ rfl w1.heap.size rfl 52 cs (0, 0) _ hhr Try.underlying52 rfl hinf ?_)
      go_loopw [4, 5, 6, 28] (fun r1 r2 r3 i wr2 => ∃ t : Nat, i = .int .i64 (t : Int) ∧ r1 = .int .i64 0 ∧ r2 = .int .i64 0 ∧ r3 = .bool false ∧ t ≤ 4 ∧ Hid (∀ u, u < t → ¬ St l mark k u) ∧ Below w2.heap.size w2 wr2) (fun _ _ _ i _ => 4 - (intOf i).toNat)
      case atStart => exact ⟨0, rfl, rfl, rfl, rfl, by decide, fun b hb => absurd hb (by omega), hbel⟩
      case round =>
        obtain ⟨t, rfl, rfl, rfl, rfl, ht, HM, hbel2⟩ := hrel
        by_cases h2 : t < 4
        · have d2 : decide ((t : Int) < 4) = true := by simp; omega
          obtain ⟨A2, c2, hcs, hC2, -⟩ := (HL2.out.below hbel2).2 t h2
          have ii := index_look cs hsz t _ h2 hcs
          have HE := Lib.hid (fun W (hW : Below w2.heap.size w2 W) (hC : Cs W A2 mark.length c2 (turnB mark (t : Int))) => HEQ.out g o k A2 c2 _ W rfl hkm (nxt T2 hW) hC)
          have HE := Lib.hid (HE.out _ hbel2 hC2)
          clear hC2 hcs
          go_wp2_with (fail)
          refine HE.out.mono ?_
          rintro e w4 ⟨x, rfl, hx, T4⟩
          have T4 := nxt hbel2 T4
          cases x with
          | true =>
            have hSt : St l mark k t := hx.1 rfl
            have HF : Hid (FindR l mark k t true) := .inl ⟨rfl, hm0, hkm, h2, hSt, HM.out, HN.out⟩
            have TF := nxt T2 T4
            clear hx hSt
            go_wp2_with (fail)
            rw [Exit.noGoto_ret]
            go_ret3
            exact ⟨k, t, true, rfl, HF.out, TF⟩
          | false =>
            have HM2 : Hid (∀ u, u < t + 1 → ¬ St l mark k u) := fun u hu hs => by
              by_cases h4 : u < t
              · exact HM.out u h4 hs
              · obtain rfl : u = t := by omega
                exact absurd (hx.2 hs) (by simp)
            clear hx
            go_wp2
            go_roundw
            case rel => exact ⟨t + 1, by go_num, rfl, rfl, rfl, by omega, HM2.out, T4⟩
            case measure => simp [intOf]; omega
        · obtain rfl : t = 4 := by omega
          have d2 : decide (((4 : Nat) : Int) < 4) = false := by decide
          have HF : Hid (∀ b, b < k + 1 → ∀ u, u < 4 → ¬ St l mark b u) := fun b hb u hu hs => by
            by_cases h3 : b < k
            · exact HN.out b h3 u hu hs
            · obtain rfl : b = k := by omega
              exact HM.out u hu hs
          go_wp2
          go_roundw
          case rel => exact ⟨k + 1, by go_num, rfl, rfl, rfl, by omega, HF.out, hbel2⟩
          case measure => simp [intOf]; omega
    · obtain rfl : k = P := by omega
      have d1 : decide ((k : Int) < (k : Int)) = false := by simp
      have HF : Hid (FindR l mark 0 0 false) := .inr ⟨rfl, rfl, rfl, HP1.out.imp id (fun h b hb => HN.out b (h b hb))⟩
      have TF := nxt T2 hbel
      go_wp2
      go_ret3
      exact ⟨0, 0, false, rfl, HF.out, TF⟩
end Go.Proofs.Ytmpelpmgpklidaa
