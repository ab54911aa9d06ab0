/- Contracts of the landed flight (at d887268): Spoil, and all of them. -/
import Derived.Test.YtgppoapdpgblmaaFlkK5
namespace Go.Proofs.Ytgppoapdpgblmaa
open Go.RowKit
set_option maxRecDepth 20000

section
variable {s : Fs} {v0 v1 v o : Value} {d : Int} {q g sent : Nat} {l : List Frm} {w : World} {X : Nat → Prop}
theorem Dir.same2 (D : Dir s v0 v1 d q v o l sent) : ((kcells s v0 v1).setIfInBounds q (.int .i64 (sent : Int))).setIfInBounds (q + 1) v = kcells s v0 v1 := by
  rcases D with ⟨rfl, rfl, rfl, rfl, rfl, rfl⟩ | ⟨rfl, rfl, rfl, rfl, rfl, rfl⟩ <;> simp [kcells]
theorem fsOk_set (D : Dir s v0 v1 d q v o l sent) (h : FsOk s) (i : Nat) (f : Frm) (hf : f.1 ≤ sent ∧ f.2.1.length ≤ 512 ∧ f.2.2.length ≤ 512) : FsOk (fsSet s d (l.set i f) sent) := by
  obtain ⟨o1, o2, o3, o4⟩ := h
  have mem : ∀ {m : List Frm} {S : Nat}, (∀ f ∈ m, f.1 ≤ S ∧ f.2.1.length ≤ 512 ∧ f.2.2.length ≤ 512) → (f.1 ≤ S ∧ f.2.1.length ≤ 512 ∧ f.2.2.length ≤ 512) → ∀ x ∈ m.set i f, x.1 ≤ S ∧ x.2.1.length ≤ 512 ∧ x.2.2.length ≤ 512 := fun h1 h2 x hx => by
    rcases List.mem_or_eq_of_mem_set hx with hx | rfl
    · exact h1 x hx
    · exact h2
  rcases D with ⟨rfl, rfl, rfl, rfl, rfl, rfl⟩ | ⟨rfl, rfl, rfl, rfl, rfl, rfl⟩
  · exact ⟨o1, o2, ⟨by show (s.l0.set i f).length ≤ _; rw [List.length_set]; exact o3.1, o3.2.1, mem o3.2.2 hf⟩, o4⟩
  · exact ⟨o1, o2, o3, ⟨by show (s.l1.set i f).length ≤ _; rw [List.length_set]; exact o4.1, o4.2.1, mem o4.2.2 hf⟩⟩
/-- a frame's text is another one -/
theorem KPv.spoiltTo {b of n c i : Nat} (h : KPv g s v0 v1 w X) (D : Dir s v0 v1 d q (.slice (some ⟨b, of, none⟩) n c) o l sent) (hi : i < l.length) {w2 : World} (T2 : Below w.heap.size w w2) {t : List UInt8} {u : Value} (hu : Tx w2 (· < w.heap.size) t u) (ht : t.length ≤ 512) :
    ∃ v0' v1' X', KPv g (fsSet s d (l.set i (l[i].1, t, l[i].2.2)) sent) v0' v1' (w2.setCell ⟨b, of + i * 3 + 1, none⟩ u) X' ∧ Turns X X' w (w2.setCell ⟨b, of + i * 3 + 1, none⟩ u) := by
  obtain ⟨-, -, hR, -, -, hmem⟩ := h.dir D
  have hgw := h.2.1 g h.1
  have hbg : b ≠ g := (hR.2 b rfl).2.1
  have hbw := h.2.1 b (hR.2 b rfl).1
  have O3 : Off (fun k => k = g ∨ (Value.slice (some ⟨b, of, none⟩) n c).ownBlock = some k) w (w2.setCell ⟨b, of + i * 3 + 1, none⟩ u) := (Off.of_below T2).setCell (p := ⟨b, of + i * 3 + 1, none⟩) (.inl (.inr rfl)) u
  have a1 := (heap_setCell_other w2 ⟨b, of + i * 3 + 1, none⟩ g u (fun e => hbg e.symm)).trans ((T2.block g hgw).trans h.2.2.2.1)
  rw [← D.same2] at a1
  have own := (hR.zn.below T2).spoilt hi t u (hu.imp (fun k _ hk => hk.elim (fun hz => h.zn_lt D k hz) (fun e => e ▸ hbw)))
  have hf := hmem _ (List.getElem_mem hi)
  obtain ⟨r0, r1, X', r2, -, r3⟩ := h.turn D O3 a1 own (.inl rfl) (fsOk_set D h.2.2.1 i (l[i].1, t, l[i].2.2) ⟨hf.1, ht, hf.2.2⟩)
  exact ⟨r0, r1, X', r2, r3⟩
end
set_option maxHeartbeats 2000000 in
theorem kspoil_no (g : Nat) (s : Fs) (v0 v1 : Value) (d i : Int) (AE : Option Addr) (nE cE : Nat) (w : World) (X : Nat → Prop) (h : KPv g s v0 v1 w X) (hno : (fsAt s d i).2 ≠ 0) :
    Calls Try.prog 16 #[.pointer (some ⟨g, 0, none⟩), .int .i64 d, .int .i64 i, .slice AE nE cE] w fun e w' => e = .returned (.int .i64 (((fsAt s d i).2 : Nat) : Int)) ∧ w = w' := by
  have HF := Lib.hid (kframe_no g s v0 v1 d i w X h hno)
  have hde : (((fsAt s d i).2 : Int) == 0) = false := by simp; omega
  clear h hno
  generalize (fsAt s d i).2 = re at *
  go_enter Try.func16, Try.ntmps16
  go_wp2_with (fail)
  refine HF.out.mono ?_
  rintro e w1 ⟨rfl, rfl⟩
  go_wp2
  go_ret
  exact ⟨rfl, rfl⟩
set_option maxHeartbeats 4000000 in
theorem kspoil_yes (g : Nat) (s : Fs) (v0 v1 : Value) (d : Int) (i q : Nat) (v o : Value) (l : List Frm) (sent : Nat) (AE : Option Addr) (nE cE : Nat) (es : List Ed) (w : World) (X : Nat → Prop) (h : KPv g s v0 v1 w X) (D : Dir s v0 v1 d q v o l sent) (hi : i < l.length) (hE : Eds w AE nE cE es) (hnE : nE ≤ 500000) :
    Calls Try.prog 16 #[.pointer (some ⟨g, 0, none⟩), .int .i64 d, .int .i64 (i : Int), .slice AE nE cE] w fun e w' => e = .returned (.int .i64 0) ∧ ∃ v0' v1' X', KPv g (fsSpoil s d (i : Int) es) v0' v1' w' X' ∧ Turns X X' w w' := by
  have HS := Lib.hid ((D.take i hi).2.2 es)
  obtain ⟨-, -, hr, -, -, hmem⟩ := h.dir D
  obtain ⟨P, c, rfl, -, -, hrow⟩ := hr.1.shape
  obtain ⟨b, of, rfl, -, hb, hbf, hel⟩ := hrow (by omega)
  obtain ⟨u1, u2, q0, q1, q2, x1, x2⟩ := hel i hi
  obtain ⟨A1, k1, rfl, B1, -⟩ := x1
  have hm := hmem _ (List.getElem_mem hi)
  have HF := Lib.hid (kframe_yes g s v0 v1 d i q b of l.length c o l sent w X h D hi)
  have hdl := edDo_le es l[i].2.1 hm.2.1
  have HD := Lib.hid (do_any A1 _ k1 l[i].2.1 AE nE cE es w B1 hE (by omega) (by omega))
  have HT := Lib.hid (fun w2 u (T2 : Below w.heap.size w w2) (hu : Tx w2 (· < w.heap.size) (edDo l[i].2.1 es) u) => h.spoiltTo D hi T2 hu hdl)
  have f1 := hbf (of + i * 3 + 1)
  obtain ⟨m1, hm1⟩ : ∃ m, l[i].2.1.length = m := ⟨_, rfl⟩
  obtain ⟨j, hj⟩ : ∃ j, of + i * 3 = j := ⟨_, rfl⟩
  rw [hm1] at HD q1
  rw [hj] at q0 q1 q2 HF f1
  simp only [hj] at HT
  clear h D hr hrow hel B1 hm hmem hE hdl hj hbf x2
  go_enter Try.func16, Try.ntmps16
  go_wp2_with (fail)
  refine HF.out.mono ?_
  rintro e w1 ⟨rfl, rfl⟩
  go_wp2_with (fail)
  refine HD.out.mono ?_
  rintro e w2 ⟨v2, rfl, hw2, T2⟩
  obtain ⟨A2, c2, rfl⟩ := own_shape hw2
  have hx := Lib.hid (HT.out w2 _ T2 (Tx.fre (Fre.of_own hw2)))
  have y1 := (T2.cell (p := ⟨b, j + 1, none⟩) hb).trans q1
  have yf := (frozen_of_block (T2.block b hb) (j + 1)).trans f1
  clear hw2 q0 q1 q2 f1
  go_wp2
  go_ret
  rw [HS.out]
  exact ⟨rfl, hx.out⟩
theorem fliC : FliC FliP where
  holds := FliP.holds
  new_yes := fun life w h => (knew_yes life w h).mono fun e w' ⟨h1, h2, h3⟩ => ⟨w.heap.size, (· = w.heap.size), h1, ⟨_, _, h2, WInv.nil _ _, WInv.nil _ _⟩, fun k hk => by subst hk; exact Nat.le_refl _, h3⟩
  new_no := fun life w _ h => (knew_no life w h).mono fun e w' ⟨h1, h2⟩ => ⟨h1, by subst h2; exact Below.refl _ _⟩
  put := fun g s d A n c b w X ⟨v0, v1, h, hI⟩ _ hB hA hs0 hs1 hg => (kflput_any g s v0 v1 d A n c b w X h hI hB hA hs0 hs1 hg).mono fun e w' ⟨h1, a0, a1, X', h2, h3⟩ => ⟨h1, X', ⟨a0, a1, h2, hI.put d b⟩, h3⟩
  len := fun g s d w X ⟨v0, v1, h, _⟩ _ => (klen_any g s v0 v1 d w X h).mono fun e w' ⟨h1, h2⟩ => ⟨h1, by subst h2; exact Below.refl _ _⟩
  sent := fun g s d w X ⟨v0, v1, h, _⟩ _ => (ksent_any g s v0 v1 d w X h).mono fun e w' ⟨h1, h2⟩ => ⟨h1, by subst h2; exact Below.refl _ _⟩
  gone := fun g s w X ⟨v0, v1, h, _⟩ => (kgone_any g s v0 v1 w X h).mono fun e w' ⟨h1, h2⟩ => ⟨h1, by subst h2; exact Below.refl _ _⟩
  at_ := fun g s d i w X ⟨v0, v1, h, _⟩ _ _ => kat_any g s v0 v1 d i w X h
  take := fun g s d i w X ⟨v0, v1, h, hI⟩ _ _ => by
    by_cases h0 : (fsAt s d i).2 = 0
    · obtain ⟨q, v, o, l, sent, D⟩ := dir_any s v0 v1 d (fsAt_dir h0)
      rw [D.len.2.2] at h0
      obtain ⟨k, hk, rfl, -⟩ := flAt_ok h0
      rw [(D.take k hk).1]
      exact ktake_yes g s v0 v1 d k q v o l sent w X h hI D hk
    · exact ktake_no g s v0 v1 d i w X h hI h0
  spoil := fun g s d i A n c es w X ⟨v0, v1, h, hI⟩ _ _ hE hn => by
    by_cases h0 : (fsAt s d i).2 = 0
    · have hJ := hI.spoil d i es
      rw [h0]
      obtain ⟨q, v, o, l, sent, D⟩ := dir_any s v0 v1 d (fsAt_dir h0)
      rw [D.len.2.2] at h0
      obtain ⟨k, hk, rfl, -⟩ := flAt_ok h0
      exact (kspoil_yes g s v0 v1 d k q v o l sent A n c es w X h D hk hE hn).mono fun e w' ⟨h1, a0, a1, X', h2, h3⟩ => ⟨h1, X', ⟨a0, a1, h2, hJ⟩, h3⟩
    · have e : fsSpoil s d i es = s := by unfold fsSpoil; rw [if_neg h0]
      refine (kspoil_no g s v0 v1 d i A n c w X h h0).mono ?_
      rintro e' w1 ⟨rfl, rfl⟩
      exact ⟨rfl, X, by rw [e]; exact ⟨v0, v1, h, hI⟩, Turns.of_below (Below.refl _ _)⟩
end Go.Proofs.Ytgppoapdpgblmaa
