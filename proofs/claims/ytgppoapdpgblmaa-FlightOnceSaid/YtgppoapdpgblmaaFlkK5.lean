/- Contracts of the landed flight (at d887268): Take, Spoil, and all of them. -/
import Derived.Test.YtgppoapdpgblmaaFlkK2
import Derived.Test.YtgppoapdpgblmaaFlkK4
import Derived.Test.YtgppoapdpgblmaaEdD
namespace Go.Proofs.Ytgppoapdpgblmaa
open Go.RowKit
set_option maxRecDepth 20000

def FliP (g : Nat) (s : Fs) (w : World) (X : Nat → Prop) : Prop := ∃ v0 v1, KPv g s v0 v1 w X ∧ FsInv s
theorem FliP.holds (g : Nat) (s : Fs) : Holds (FliP g s) where
  lt := fun ⟨v0, v1, h, _⟩ => (KPv.holds g s v0 v1).lt h
  off := fun ⟨v0, v1, h, hI⟩ o hd => ⟨v0, v1, (KPv.holds g s v0 v1).off h o hd, hI⟩
theorem kat_any (g : Nat) (s : Fs) (v0 v1 : Value) (d i : Int) (w : World) (X : Nat → Prop) (h : KPv g s v0 v1 w X) :
    Calls Try.prog 22 #[.pointer (some ⟨g, 0, none⟩), .int .i64 d, .int .i64 i] w (GivesFn w (fsAt s d i)) := by
  by_cases h0 : (fsAt s d i).2 = 0
  · obtain ⟨q, v, o, l, sent, D⟩ := dir_any s v0 v1 d (fsAt_dir h0)
    rw [D.len.2.2] at h0
    obtain ⟨k, hk, rfl, -⟩ := flAt_ok h0
    rw [(D.take k hk).1]
    exact kat_yes g s v0 v1 d k q v o l sent w X h D hk
  · exact kat_no g s v0 v1 d i w X h h0
theorem Fre.at_ {w : World} {Y : Nat → Prop} {A : Option Addr} {n c : Nat} {l : List UInt8} (h : Fre w Y A n c l) {X' : Nat → Prop} (hX : ∀ k, k < w.heap.size → X' k → Y k) : Fre w X' A n c l :=
  ⟨h.1, fun hn p e hx => by
    obtain ⟨b, o, e', hb, _⟩ := h.1.at_ hn
    rw [e] at e'
    injection e' with e'
    subst e'
    exact h.2.1 hn _ e (hX _ hb hx), h.2.2⟩
set_option maxHeartbeats 4000000 in
theorem ktake_no (g : Nat) (s : Fs) (v0 v1 : Value) (d i : Int) (w : World) (X : Nat → Prop) (h : KPv g s v0 v1 w X) (hI : FsInv s) (hno : (fsAt s d i).2 ≠ 0) :
    Calls Try.prog 13 #[.pointer (some ⟨g, 0, none⟩), .int .i64 d, .int .i64 i] w (GivesTn FliP g (fsTake s d i) X w (fsAt s d i)) := by
  have T0 := (Below.refl _ w).alloc (Nat.le_refl _) (.cells #[.int .i64 0, .slice none 0 0, .slice none 0 0] 40)
  have HA := Lib.hid (kat_no g s v0 v1 d i _ X ((KPv.holds g s v0 v1).below h T0) hno)
  have HS : Hid (fsTake s d i = s) := by show _ = _; unfold fsTake; rw [if_neg hno]
  have hde : (((fsAt s d i).2 : Int) == 0) = false := by simp; omega
  have HW := Lib.hid (fun W (U : Below w.heap.size w W) => (FliP.holds g s).below ⟨v0, v1, h, hI⟩ U)
  have hlt := Lib.hid h.2.1
  have hsz0 : (w.alloc (.cells #[.int .i64 0, .slice none 0 0, .slice none 0 0] 40)).heap.size = w.heap.size + 1 := by simp
  have hn0 := heap_alloc_new w (.cells #[.int .i64 0, .slice none 0 0, .slice none 0 0] 40)
  clear h hI hno
  generalize fsAt s d i = r at *
  obtain ⟨⟨rn, t1, t2⟩, re⟩ := r
  simp only at hde
  go_enter Try.func13, Try.ntmps13
  go_wp2_with (fail)
  refine HA.out.mono ?_
  rintro e w1 ⟨A1, c1, A2, c2, rfl, F1, F2, T1⟩
  simp only
  generalize w.alloc (.cells #[.int .i64 0, .slice none 0 0, .slice none 0 0] 40) = W0 at *
  simp only at F1 F2
  obtain ⟨m1, hm1⟩ : ∃ m, t1.length = m := ⟨_, rfl⟩
  obtain ⟨m2, hm2⟩ : ∃ m, t2.length = m := ⟨_, rfl⟩
  rw [hm1] at F1 ⊢
  rw [hm2] at F2 ⊢
  have HM := Lib.hid (And.intro hm1 hm2)
  have B0 : Hid ((w1.alloc (.cells #[.int .i64 (rn : Int), .slice A1 m1 c1, .slice A2 m2 c2] 40)).heap[w.heap.size]? = some (.cells #[.int .i64 0, .slice none 0 0, .slice none 0 0] 40 (0, 0))) := hp_old ((T1.block _ (by omega)).trans hn0) _
  obtain ⟨z0, z1, z2, y0, y1, y2⟩ := row3 B0.out
  clear hn0 hm1 hm2
  go_wp2_with (fail)
  (try simp only [Exit.inBlock, Exit.then])
  refine bodyPost_ret (v := .tuple #[.agg #[.int .i64 (rn : Int), .slice A1 m1 c1, .slice A2 m2 c2], .int .i64 (re : Int)]) (res_cell_tmp rfl _ _ w.heap.size 40 #[.int .i64 (rn : Int), .slice A1 m1 c1, .slice A2 m2 c2] (0, 0) _ _ rfl rfl (stored3 B0.out _ _ _) Try.underlying40 rfl (by kernel_rfl)) rfl ?_
  have hs1 := T1.size
  have U1 := nxt T0 T1
  have U2 := U1.alloc U1.size (.cells #[.int .i64 (rn : Int), .slice A1 m1 c1, .slice A2 m2 c2] 40)
  have o := off3 (w1.alloc (.cells #[.int .i64 (rn : Int), .slice A1 m1 c1, .slice A2 m2 c2] 40)) w.heap.size (.int .i64 (rn : Int)) (.slice A1 m1 c1) (.slice A2 m2 c2)
  have o2 := ((Off.refl (· = w.heap.size) w1).alloc (.cells #[.int .i64 (rn : Int), .slice A1 m1 c1, .slice A2 m2 c2] 40)).trans o
  have U3 : Below w.heap.size w _ := U2.trans (o.below (fun k hk => by subst hk; exact Nat.le_refl _) (by simp; omega))
  obtain ⟨rfl, rfl⟩ := HM.out
  have lowX : ∀ k, X k → k < W0.heap.size := fun k hk => by have := hlt.out k hk; omega
  have av : ∀ {n : Nat} {A : Option Addr}, Av (· < W0.heap.size) n A → 0 < n → ∀ p, A = some p → X p.block ∨ w.heap.size ≤ p.block := fun h hn p e => .inr (by have := h hn p e; omega)
  refine ⟨A1, c1, A2, c2, X, rfl, (F1.off o2 (fun k hk => by subst hk; omega)).imp (fun k hk => lowX k hk), (F2.off o2 (fun k hk => .inl (by subst hk; omega))).imp (fun k hk => .inl (lowX k hk)), av F1.2.1, av (F2.2.1.imp (fun k hk => .inl hk)), ?_, Turns.of_below U3⟩
  rw [HS.out]
  exact HW.out _ U3
set_option maxHeartbeats 8000000 in
theorem ktake_yes (g : Nat) (s : Fs) (v0 v1 : Value) (d : Int) (i q : Nat) (v o : Value) (l : List Frm) (sent : Nat) (w : World) (X : Nat → Prop) (h : KPv g s v0 v1 w X) (hI : FsInv s) (D : Dir s v0 v1 d q v o l sent) (hi : i < l.length) :
    Calls Try.prog 13 #[.pointer (some ⟨g, 0, none⟩), .int .i64 d, .int .i64 (i : Int)] w (GivesTn FliP g (fsTake s d (i : Int)) X w (l[i], 0)) := by
  have T0 := (Below.refl _ w).alloc (Nat.le_refl _) (.cells #[.int .i64 0, .slice none 0 0, .slice none 0 0] 40)
  have HA := Lib.hid (kat_yes g s v0 v1 d i q v o l sent _ X ((KPv.holds g s v0 v1).below h T0) D hi)
  have HS : Hid (fsTake s d (i : Int) = fsSet s d (l.eraseIdx i) sent) := (D.take i hi).2.1
  have HI := Lib.hid (HS.out ▸ hI.take d (i : Int))
  have HC := Lib.hid (fun W (U : Below w.heap.size w W) => kcut_any g s v0 v1 d q v o l sent i W X ((KPv.holds g s v0 v1).below h U) D hi)
  have hlt := Lib.hid h.2.1
  have hdq : (d = 0 ∧ q = 2) ∨ (d = 1 ∧ q = 4) := by
    rcases D with ⟨rfl, rfl, _⟩ | ⟨rfl, rfl, _⟩
    · exact .inl ⟨rfl, rfl⟩
    · exact .inr ⟨rfl, rfl⟩
  have hsz0 : (w.alloc (.cells #[.int .i64 0, .slice none 0 0, .slice none 0 0] 40)).heap.size = w.heap.size + 1 := by simp
  have hn0 := heap_alloc_new w (.cells #[.int .i64 0, .slice none 0 0, .slice none 0 0] 40)
  clear h hI D
  generalize l[i] = r at *
  obtain ⟨rn, t1, t2⟩ := r
  go_enter Try.func13, Try.ntmps13
  go_wp2_with (fail)
  refine HA.out.mono ?_
  rintro e w1 ⟨A1, c1, A2, c2, rfl, F1, F2, T1⟩
  simp only
  generalize w.alloc (.cells #[.int .i64 0, .slice none 0 0, .slice none 0 0] 40) = W0 at *
  simp only at F1 F2
  obtain ⟨m1, hm1⟩ : ∃ m, t1.length = m := ⟨_, rfl⟩
  obtain ⟨m2, hm2⟩ : ∃ m, t2.length = m := ⟨_, rfl⟩
  rw [hm1] at F1 ⊢
  rw [hm2] at F2 ⊢
  have HM := Lib.hid (And.intro hm1 hm2)
  have B0 : Hid ((w1.alloc (.cells #[.int .i64 (rn : Int), .slice A1 m1 c1, .slice A2 m2 c2] 40)).heap[w.heap.size]? = some (.cells #[.int .i64 0, .slice none 0 0, .slice none 0 0] 40 (0, 0))) := hp_old ((T1.block _ (by omega)).trans hn0) _
  have B1 : Hid ((w1.alloc (.cells #[.int .i64 (rn : Int), .slice A1 m1 c1, .slice A2 m2 c2] 40)).heap[w1.heap.size]? = some (.cells #[.int .i64 (rn : Int), .slice A1 m1 c1, .slice A2 m2 c2] 40 (0, 0))) := heap_alloc_new w1 _
  have hs1 := T1.size
  have U1 := nxt T0 T1
  have U2 := U1.alloc U1.size (.cells #[.int .i64 (rn : Int), .slice A1 m1 c1, .slice A2 m2 c2] 40)
  have HF := Lib.hid (And.intro (F1.below ((Below.refl _ w1).alloc (Nat.le_refl _) (.cells #[.int .i64 (rn : Int), .slice A1 m1 c1, .slice A2 m2 c2] 40))) (F2.below ((Below.refl _ w1).alloc (Nat.le_refl _) (.cells #[.int .i64 (rn : Int), .slice A1 m1 c1, .slice A2 m2 c2] 40))))
  have HFB := Lib.hid (And.intro F1 F2)
  have hs2 : w1.heap.size < (w1.alloc (.cells #[.int .i64 (rn : Int), .slice A1 m1 c1, .slice A2 m2 c2] 40)).heap.size := by simp
  have HC2 := Lib.hid (HC.out _ U2)
  clear hn0 hm1 hm2 F1 F2 HC
  generalize hW2 : w1.alloc (.cells #[.int .i64 (rn : Int), .slice A1 m1 c1, .slice A2 m2 c2] 40) = W2 at *
  have hW2 := Lib.hid hW2
  rcases hdq with ⟨rfl, rfl⟩ | ⟨rfl, rfl⟩
  all_goals
    go_wp2_with (fail)
    refine HC2.out.mono ?_
    rintro e w3 ⟨rfl, a0, a1, X3, v3, R3, D3, t3⟩
    have nX : ∀ k, w.heap.size ≤ k → ¬ X k := fun k hk hx => by have := hlt.out k hx; omega
    have hs3 := t3.off.size
    have C0 : Hid (w3.heap[w.heap.size]? = some (.cells #[.int .i64 0, .slice none 0 0, .slice none 0 0] 40 (0, 0))) := (t3.off.block _ (lt_row B0.out) (nX _ (Nat.le_refl _))).trans B0.out
    have C1 : Hid (w3.heap[w1.heap.size]? = some (.cells #[.int .i64 (rn : Int), .slice A1 m1 c1, .slice A2 m2 c2] 40 (0, 0))) := (t3.off.block _ (lt_row B1.out) (nX _ U1.size)).trans B1.out
    obtain ⟨z0, z1, z2, y0, y1, y2⟩ := row3 C0.out
    obtain ⟨x0, x1, x2, -, -, -⟩ := row3 C1.out
    have HR3 := Lib.hid (And.intro R3 (And.intro D3 t3))
    clear R3 D3 t3
    go_wp2_with (fail)
    (try simp only [Exit.inBlock, Exit.then])
    refine bodyPost_ret (v := .tuple #[.agg #[.int .i64 (rn : Int), .slice A1 m1 c1, .slice A2 m2 c2], .int .i64 0]) (res_cell_tmp rfl _ _ w.heap.size 40 #[.int .i64 (rn : Int), .slice A1 m1 c1, .slice A2 m2 c2] (0, 0) _ _ rfl rfl (stored3 C0.out _ _ _) Try.underlying40 rfl (by kernel_rfl)) rfl ?_
    obtain ⟨R3, D3, t3⟩ := HR3.out
    have o := off3 w3 w.heap.size (.int .i64 (rn : Int)) (.slice A1 m1 c1) (.slice A2 m2 c2)
    have lowX : ∀ k, X k → k < W0.heap.size := fun k hk => by have := hlt.out k hk; omega
    have upX : ∀ k, X3 k → k < w.heap.size ∨ W2.heap.size ≤ k := fun k hk => (t3.grow k hk).imp (fun h => hlt.out k h) id
    have g1 := (HF.out.1.off t3.off lowX).off o (fun k hk => by subst hk; omega)
    have g2 := (HF.out.2.off t3.off (fun k hk => .inl (lowX k hk))).off o (fun k hk => .inl (by subst hk; omega))
    have lt2 : ∀ {n c : Nat} {A : Option Addr} {t : List UInt8} {Y : Nat → Prop}, Fre w1 Y A n c t → 0 < n → ∀ p, A = some p → p.block < w1.heap.size := fun h hn p e => by
      obtain ⟨b, of, e', hb, _⟩ := h.bys.at_ hn
      rw [e] at e'
      injection e' with e'
      subst e'
      exact hb
    have av1 : 0 < m1 → ∀ p, A1 = some p → W0.heap.size ≤ p.block := fun hn p e => Nat.le_of_not_lt (HF.out.1.2.1 hn p e)
    have av2 : 0 < m2 → ∀ p, A2 = some p → W0.heap.size ≤ p.block := fun hn p e => Nat.le_of_not_lt (fun h => HF.out.2.2.1 hn p e (.inl h))
    have n1 : Av X3 m1 A1 := fun hn p e hx => by
      have h1 := av1 hn p e
      have h2 := lt2 HFB.out.1 hn p e
      rcases upX _ hx with h3 | h3 <;> omega
    have n2 : Av X3 m2 A2 := fun hn p e hx => by
      have h1 := av2 hn p e
      have h2 := lt2 HFB.out.2 hn p e
      rcases upX _ hx with h3 | h3 <;> omega
    have U2X : Off X w W2 := Off.of_below U2
    have O4 : Off X w _ := (((U2X.thru t3.off (fun k _ h => h)).setCell (p := ⟨w.heap.size, 0, none⟩) (.inr (Nat.le_refl _)) (.int .i64 (rn : Int))).setCell (p := ⟨w.heap.size, 1, none⟩) (.inr (Nat.le_refl _)) (.slice A1 m1 c1)).setCell (p := ⟨w.heap.size, 2, none⟩) (.inr (Nat.le_refl _)) (.slice A2 m2 c2)
    obtain ⟨rfl, rfl⟩ := HM.out
    refine ⟨A1, c1, A2, c2, X3, rfl, ⟨g1.1, n1, g1.2.2⟩, ⟨g2.1, n2, g2.2.2⟩, fun hn p e => .inr (by have := av1 hn p e; omega), fun hn p e => .inr (by have := av2 hn p e; omega), ?_, ⟨O4, fun k hk => (t3.grow k hk).imp id (fun h => by omega)⟩⟩
    rw [HS.out]
    refine ⟨a0, a1, (KPv.holds g _ a0 a1).off R3 o (fun k hk e => ?_), HI.out⟩
    rcases upX k hk with h | h <;> omega
end Go.Proofs.Ytgppoapdpgblmaa
