/- Contracts of the landed flight (at d887268): Put. -/
import Derived.Test.YtgppoapdpgblmaaFlkK3
import Derived.Test.YtgppoapdpgblmaaFlkM
import Derived.Deep.QuietTactic
import Derived.BigQuiet
namespace Go.Proofs.Ytgppoapdpgblmaa
open Go.RowKit
set_option maxRecDepth 20000

set_option maxHeartbeats 4000000 in
theorem kflput_bad (g : Nat) (s : Fs) (v0 v1 : Value) (d : Int) (A : Option Addr) (n c : Nat) (b : List UInt8) (w : World) (X : Nat → Prop) (h : KPv g s v0 v1 w X) (hB : Bys w A n c b) (hbad : fsPutE s d n ≠ 0) :
    Calls Try.prog 11 #[.pointer (some ⟨g, 0, none⟩), .int .i64 d, .slice A n c] w fun e w' => e = .returned (.int .i64 ((fsPutE s d n : Nat) : Int)) ∧ w = w' := by
  by_cases hd : d < 0 ∨ 1 < d
  · have H := Lib.hid (kway_no g s v0 v1 d w X h hd)
    have HE : Hid (fsPutE s d n = 1) := by show _ = _; unfold fsPutE; rw [if_pos hd]
    clear h hd hbad hB
    go_enter Try.func11, Try.ntmps11
    go_wp2_with (fail)
    refine H.out.mono ?_
    rintro e w1 ⟨rfl, rfl⟩
    go_wp2
    go_ret
    exact ⟨by rw [HE.out]; rfl, rfl⟩
  · obtain ⟨q, v, o, l, sent, D⟩ := dir_any s v0 v1 d (by omega)
    have H := Lib.hid (kway_yes g s v0 v1 d q v o l sent w X h D)
    have hlen := D.len.1
    have hcm := hB.cap
    have hnc := hB.le
    obtain ⟨-, c1, hr, -⟩ := h.dir D
    obtain ⟨P, pc, rfl, hpc, hpm, -⟩ := hr.1.shape
    unfold maxLen at hpm
    obtain ⟨m, hm⟩ : ∃ m, l.length = m := ⟨_, rfl⟩
    rw [hm] at c1 hpc hlen
    by_cases h1 : 512 < n
    · have d1 : decide (512 < (n : Int)) = true := by simp; omega
      have HE : Hid (fsPutE s d n = 2) := by show _ = _; unfold fsPutE; rw [if_neg hd, if_pos h1]
      clear h hd hbad hB D hr hm h1
      go_enter Try.func11, Try.ntmps11
      go_wp2_with (fail)
      refine H.out.mono ?_
      rintro e w1 ⟨rfl, rfl⟩
      go_wp2
      go_ret
      exact ⟨by rw [HE.out]; rfl, rfl⟩
    · have h2 : 4096 ≤ m := by
        unfold fsPutE at hbad
        rw [if_neg hd, if_neg h1, hlen] at hbad
        rcases Nat.lt_or_ge m 4096 with h5 | h5
        · rw [if_neg (by omega)] at hbad; exact absurd rfl hbad
        · exact h5
      have d1 : decide (512 < (n : Int)) = false := by simp; omega
      have d2 : decide (4096 ≤ (m : Int)) = true := by simp; omega
      have HE : Hid (fsPutE s d n = 3) := by show _ = _; unfold fsPutE; rw [if_neg hd, if_neg h1, hlen, if_pos h2]
      clear h hd hbad hB D hr hm h1
      go_enter Try.func11, Try.ntmps11
      go_wp2_with (fail)
      refine H.out.mono ?_
      rintro e w1 ⟨rfl, rfl⟩
      go_wp2
      go_ret
      exact ⟨by rw [HE.out]; rfl, rfl⟩
set_option maxHeartbeats 8000000 in
theorem kflput_good (g : Nat) (s : Fs) (v0 v1 : Value) (d : Int) (A : Option Addr) (n c : Nat) (b : List UInt8) (w : World) (X : Nat → Prop) (h : KPv g s v0 v1 w X) (hI : FsInv s) (hB : Bys w A n c b) (hA : Av X n A) (hgood : fsPutE s d n = 0) (hs0 : s.s0 < 1000000) (hs1 : s.s1 < 1000000) (hgone : s.gone ≤ 90000000) :
    Calls Try.prog 11 #[.pointer (some ⟨g, 0, none⟩), .int .i64 d, .slice A n c] w fun e w' => e = .returned (.int .i64 0) ∧ ∃ v0' v1' X', KPv g (fsPut s d b) v0' v1' w' X' ∧ Turns X X' w w' := by
  have hbl := hB.len
  have hgd := hgood
  unfold fsPutE at hgd
  by_cases hd : d < 0 ∨ 1 < d
  · rw [if_pos hd] at hgd; cases hgd
  rw [if_neg hd] at hgd
  by_cases hn5 : 512 < n
  · rw [if_pos hn5] at hgd; cases hgd
  rw [if_neg hn5] at hgd
  by_cases h4 : 4096 ≤ fsLen s d
  · rw [if_pos h4] at hgd; cases hgd
  clear hgd
  obtain ⟨q, v, o, l, sent, D⟩ := dir_any s v0 v1 d (by omega)
  rw [D.len.1] at h4
  have H := Lib.hid (kway_yes g s v0 v1 d q v o l sent w X h D)
  obtain ⟨c0, c1, hr, hll, hss, hmem⟩ := h.dir D
  obtain ⟨P, pc, hv, hpc, hpm, -⟩ := hr.1.shape
  have hsent : sent < 1000000 := by
    rcases D with ⟨_, _, _, _, _, rfl⟩ | ⟨_, _, _, _, _, rfl⟩ <;> assumption
  have hok1 : FsOk (fsSet s d (l ++ [(sent + 1, b, b)]) (sent + 1)) := by
    obtain ⟨o1, o2, o3, o4⟩ := h.2.2.1
    have hm : ∀ f ∈ l ++ [(sent + 1, b, b)], f.1 ≤ sent + 1 ∧ f.2.1.length ≤ 512 ∧ f.2.2.length ≤ 512 := fun f hf => by
      rcases List.mem_append.1 hf with h1 | h1
      · have := hmem f h1
        exact ⟨by omega, this.2⟩
      · rw [List.mem_singleton] at h1
        subst h1
        exact ⟨Nat.le_refl _, by show b.length ≤ _; omega, by show b.length ≤ _; omega⟩
    have hL : (l ++ [(sent + 1, b, b)]).length ≤ 4097 := by rw [List.length_append]; simp; omega
    rcases D with ⟨rfl, rfl, rfl, rfl, rfl, rfl⟩ | ⟨rfl, rfl, rfl, rfl, rfl, rfl⟩
    · exact ⟨o1, o2, ⟨hL, by show s.s0 + 1 ≤ _; omega, hm⟩, o4⟩
    · exact ⟨o1, o2, o3, ⟨hL, by show s.s1 + 1 ≤ _; omega, hm⟩⟩
  have HP := Lib.hid (kput_any g s v0 v1 d q v o l sent A n c b w X h D hB hA (by omega) hok1)
  have hE : fsPutE s d b.length = 0 := by rw [hbl]; exact hgood
  have hk0 := D.put0 hI b hE
  have hk1 := D.put1 hI b hE
  have hLn : (l ++ [(sent + 1, b, b)]).length = l.length + 1 := by simp
  have hlife := D.life (l ++ [(sent + 1, b, b)]) (sent + 1)
  have hl4 : s.life ≤ 4096 := h.2.2.1.1
  have hSn : ∀ f ∈ l ++ [(sent + 1, b, b)], f.1 ≤ sent + 1 := ((D.inv hI).push b b).2
  obtain ⟨m, hm⟩ : ∃ m, l.length = m := ⟨_, rfl⟩
  subst hv
  rw [hm] at c1 h4 hpc hLn
  have d1 : decide (512 < (n : Int)) = false := by simp; omega
  have d2 : decide (4096 ≤ (m : Int)) = false := by simp; omega
  have HK0 := Lib.hid hk0
  have HK1 := Lib.hid hk1
  have HLI := Lib.hid hlife
  have HLN := Lib.hid hLn
  have HSN := Lib.hid hSn
  clear hk0 hk1 hLn hlife hok1 hSn
  generalize hS : sent + 1 = S at *
  generalize hL : l ++ [(S, b, b)] = L at *
  have hcm := hB.cap
  have hnc := hB.le
  unfold maxLen at hpm
  have hS6 : S ≤ 1000000 := by omega
  clear h D hr hE hgood hI hB hA hm hmem hL hS hd hs0 hs1
  go_enter Try.func11, Try.ntmps11
  go_wp2_with (fail)
  refine H.out.mono ?_
  rintro e w1 ⟨rfl, rfl⟩
  go_wp2_with (fail)
  refine HP.out.mono ?_
  rintro e w2 ⟨rfl, a0, a1, X2, v2, R2, D2, t2⟩
  clear c0 c1
  have HR2 := Lib.hid R2
  have HT2 := Lib.hid t2
  obtain ⟨c0, c1, c6, hfz, hgw⟩ := R2.life
  obtain ⟨e0, e1, hr2, -, -, -⟩ := R2.dir D2
  rw [HLI.out.1] at c1
  rw [HLI.out.2] at c6
  obtain ⟨P2, p2, hv2, hq1, hq2, hrow⟩ := hr2.1.shape
  have hLp : 0 < L.length := by rw [HLN.out]; omega
  obtain ⟨b2, of2, rfl, -, hb2, -, hel⟩ := hrow hLp
  obtain ⟨u1, u2, q0, -, -, -, -⟩ := hel 0 hLp
  subst hv2
  have hf0 : L[0].1 ≤ S := HSN.out _ (List.getElem_mem hLp)
  have HC := Lib.hid (fun W (U : Below w2.heap.size w2 W) => kcut_any g _ _ _ d q _ o L S 0 W X2 ((KPv.holds _ _ _ _).below R2 U) D2 hLp)
  have HD2 := Lib.hid D2
  have HK0 := Lib.hid (fun hk => HK0.out hk)
  have HK1' := Lib.hid (fun (h0 : 0 < s.life) hk => HK1.out h0 hLp hk)
  obtain ⟨f0, hf0e⟩ : ∃ f, L[0].1 = f := ⟨_, rfl⟩
  rw [hf0e] at q0 hf0 HK1'
  obtain ⟨df, hdf⟩ : ∃ df, S - f0 = df := ⟨_, rfl⟩
  rw [hdf] at HK1'
  have edf : (S : Int) - (f0 : Int) = (df : Int) := by omega
  have f6 := hfz 6
  have hk0' : (s.life = 0 ∨ df < s.life) → fsPut s d b = fsSet s d L S := fun hh => HK0.out (hh.imp id (fun hh _ => by rw [hf0e, hdf]; exact hh))
  have HK0' := Lib.hid hk0'
  rw [HLN.out] at e1 hq1
  rw [Nat.zero_mul, Nat.add_zero] at q0
  unfold maxLen at hq2
  clear R2 D2 t2 hr2 hrow hel hfz hk0' HK0 HK1 hf0e hdf
  by_cases hl0 : s.life = 0
  · have dl : decide (0 < s.life) = false := by simp; omega
    have HE := Lib.hid (HK0'.out (.inl hl0))
    clear hl0
    go_wp2_with (fail)
    go_quiet (fail)
    go_wp2
    go_ret
    have U := Below.refl w2.heap.size w2
    exact ⟨rfl, a0, a1, X2, by rw [HE.out]; exact (KPv.holds _ _ _ _).below HR2.out (by first | exact U.drew | exact below_drewN' U _), HT2.out.next (by first | exact U.drew | exact below_drewN' U _)⟩
  · have dl : decide (0 < s.life) = true := by simp; omega
    by_cases hc : df < s.life
    · have dc : decide (s.life ≤ df) = false := by simp; omega
      have dl2 : 0 < s.life := by omega
      have HE := Lib.hid (HK0'.out (.inr hc))
      clear hl0 hc
      go_wp2_with (fail)
      go_quiet (fail)
      go_wp2
      go_ret
      have U := Below.refl w2.heap.size w2
      exact ⟨rfl, a0, a1, X2, by rw [HE.out]; exact (KPv.holds _ _ _ _).below HR2.out (by first | exact U.drew | exact below_drewN' U _), HT2.out.next (by first | exact U.drew | exact below_drewN' U _)⟩
    · have dc : decide (s.life ≤ df) = true := by simp; omega
      have dl2 : 0 < s.life := by omega
      have HE := Lib.hid (HK1'.out (by omega) (by omega))
      clear hl0 hc
      go_wp2_with (fail)
      go_quiet (fail)
      go_wp2_with (fail)
      have U := Below.refl w2.heap.size w2
      refine (HC.out _ (by first | exact U.drew | exact below_drewN' U _)).mono ?_
      rintro e w4 ⟨rfl, a3, a4, X4, v4, R4, D4, t4⟩
      obtain ⟨-, -, k6, hfz4, -⟩ := R4.life
      have lf := (HD2.out.life (L.eraseIdx 0) S).2
      obtain ⟨G, hG⟩ : ∃ G, s.gone + 1 = G := ⟨_, rfl⟩
      have HE2 : Hid (fsPut s d b = { fsSet (fsSet s d L S) d (L.eraseIdx 0) S with gone := G }) := by show _ = _; rw [HE.out, hG]
      have gn : (s.gone : Int) + 1 = (G : Int) := by omega
      rw [lf, HLI.out.2] at k6
      have fz6 := hfz4 6
      have okg : FsOk { fsSet (fsSet s d L S) d (L.eraseIdx 0) S with gone := G } := by
        obtain ⟨o1, -, o3, o4⟩ := R4.2.2.1
        exact ⟨o1, by show G ≤ _; omega, o3, o4⟩
      have HG := Lib.hid (R4.goneTo G okg)
      have HT4 := Lib.hid ((HT2.out.next (by first | exact U.drew | exact below_drewN' U _)).trans t4)
      clear R4 D4 t4 hfz4 okg lf dl dc dl2 hG
      go_wp2
      go_ret
      refine ⟨rfl, a3, a4, X4, ?_, ?_⟩
      · rw [HE2.out]
        exact HG.out.1
      · exact HT4.out.trans HG.out.2
theorem kflput_any (g : Nat) (s : Fs) (v0 v1 : Value) (d : Int) (A : Option Addr) (n c : Nat) (b : List UInt8) (w : World) (X : Nat → Prop) (h : KPv g s v0 v1 w X) (hI : FsInv s) (hB : Bys w A n c b) (hA : Av X n A) (hs0 : s.s0 < 1000000) (hs1 : s.s1 < 1000000) (hgone : s.gone ≤ 90000000) :
    Calls Try.prog 11 #[.pointer (some ⟨g, 0, none⟩), .int .i64 d, .slice A n c] w fun e w' => e = .returned (.int .i64 ((fsPutE s d n : Nat) : Int)) ∧ ∃ v0' v1' X', KPv g (fsPut s d b) v0' v1' w' X' ∧ Turns X X' w w' := by
  by_cases hbad : fsPutE s d n = 0
  · rw [hbad]
    exact kflput_good g s v0 v1 d A n c b w X h hI hB hA hbad hs0 hs1 hgone
  · have e : fsPut s d b = s := by unfold fsPut; rw [hB.len, if_neg hbad]
    refine (kflput_bad g s v0 v1 d A n c b w X h hB hbad).mono ?_
    rintro e' w1 ⟨rfl, rfl⟩
    exact ⟨rfl, v0, v1, X, by rw [e]; exact h, Turns.of_below (Below.refl _ _)⟩
end Go.Proofs.Ytgppoapdpgblmaa
