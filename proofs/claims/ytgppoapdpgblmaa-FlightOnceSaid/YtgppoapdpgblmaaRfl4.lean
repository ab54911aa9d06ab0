/- What kedgeref16's Put answers where the frame may be put, in the direction 0. -/
import Derived.Test.YtgppoapdpgblmaaRfl3
import Derived.Deep.RegionLaw
import Derived.Deep.CutRange
namespace Go.Proofs.Ytgppoapdpgblmaa
open Go.RowKit
set_option maxRecDepth 20000

set_option maxHeartbeats 16000000 in
theorem rfput_good0 (g : Nat) (s : Fs) (A : Option Addr) (n c : Nat) (b : List UInt8) (w : World) (X : Nat → Prop) (h : RF g s w X) (hB : Bys w A n c b) (hA : Av X n A) (hn : n ≤ 512) (hlen : s.l0.length < 4096) (hs : s.s0 < 1000000) (hgone : s.gone ≤ 90000000) :
    Calls Try.prog 12 #[.pointer (some ⟨g, 0, none⟩), .int .i64 0, .slice A n c] w fun e w' => e = .returned (.int .i64 0) ∧ ∃ X', RF g (fsPut0 s b) w' X' ∧ Turns X X' w w' := by
  obtain ⟨v0, v1, h⟩ := h
  have hbl := hB.len
  have hnc := hB.le
  have hcm := hB.cap
  obtain ⟨S, hS⟩ : ∃ S, s.s0 + 1 = S := ⟨_, rfl⟩
  have hSb : S ≤ 1000000 := by omega
  obtain ⟨o1, o2, o3, o4⟩ := h.2.2.1
  have oka : FsOk { s with s0 := S } := by
    refine ⟨o1, o2, ?_⟩
    refine ⟨⟨o3.1, by show S ≤ _; omega, fun f hf => ⟨by have := (o3.2.2 f hf).1; show _ ≤ S; omega, (o3.2.2 f hf).2⟩⟩, o4⟩
  have okb : ∀ (k : List Frm) (gn : Nat), (∀ f ∈ k, f ∈ s.l0 ++ [(S, b, b)]) → k.length ≤ 4097 → gn ≤ 100000000 → FsOk { s with s0 := S, l0 := k, gone := gn } := fun k gn hk hkl hgn => by
    have hm : ∀ f ∈ k, f.1 ≤ S ∧ f.2.1.length ≤ 512 ∧ f.2.2.length ≤ 512 := fun f hf => by
      rcases List.mem_append.1 (hk f hf) with h1 | h1
      · have := o3.2.2 f h1
        exact ⟨by omega, this.2⟩
      · rw [List.mem_singleton] at h1
        subst h1
        exact ⟨Nat.le_refl _, by show b.length ≤ _; omega, by show b.length ≤ _; omega⟩
    exact ⟨o1, hgn, ⟨hkl, by show S ≤ _; omega, hm⟩, o4⟩
  obtain ⟨hW1, hT1⟩ := h.nums (s' := { s with s0 := S }) 3 (.int .i64 (S : Int)) oka rfl rfl rfl
  have HF1 : Hid (fsPut0 s b = { s with s0 := S, l0 := fsKeep s.life S (s.l0 ++ [(S, b, b)]), gone := s.gone + (s.l0.length + 1 - (fsKeep s.life S (s.l0 ++ [(S, b, b)])).length) }) := by show _ = _; unfold fsPut0; rw [hS]
  obtain ⟨c0, c1, c2, c3, c4, c5, hfz, hgw⟩ := h.cells
  have f3 := hfz 3
  obtain ⟨P, pc, hvD, hpc, hpm, -⟩ := h.2.2.2.2.1.1.shape
  obtain ⟨m, hm⟩ : ∃ m, s.l0.length = m := ⟨_, rfl⟩
  have HM := Lib.hid hm
  rw [hm] at hlen hpc hvD
  rw [hvD] at c2
  have eS : (s.s0 : Int) + 1 = (S : Int) := by omega
  have d3 : decide (512 < (n : Int)) = false := by simp; omega
  have d4 : decide (4096 ≤ (m : Int)) = false := by simp; omega
  have HOKB := Lib.hid okb
  have HW1 := Lib.hid (And.intro hW1 hT1)
  have HB1 : Hid (Bys (w.setCell ⟨g, 3, none⟩ (.int .i64 (S : Int))) A n c b) := hB.off hA hT1.off
  clear hW1 hT1 oka okb hfz o1 o2 o3 o4 hS h hB
  go_enter Try.func12, Try.ntmps12
  go_upto_region 11 with fail
  obtain ⟨R1, t1⟩ := HW1.out
  generalize w.setCell ⟨g, 3, none⟩ (.int .i64 (S : Int)) = W1 at *
  obtain ⟨b0, b1, b2, b3, b4, b5, bfz, bgw⟩ := R1.cells
  have hX1 := R1.1
  have hlt1 := R1.2.1
  have hbd := R1.2.2.2.2.1.2
  have hbe := R1.2.2.2.2.2.2
  rw [hvD] at b2 hbd
  have HOW := Lib.hid R1.2.2.2.2.1.1
  have HTW := Lib.hid (fun W (U : Below W1.heap.size W1 W) => And.intro ((U.cell (p := ⟨g, 2, none⟩) bgw).trans b2) ((U.cell (p := ⟨g, 3, none⟩) bgw).trans b3))
  have HF := Lib.hid (fun W (U : Below W1.heap.size W1 W) => (frozen_of_block (U.block g bgw) 2).trans (bfz 2))
  have HC : Hid (∀ W, Below W1.heap.size W1 W → Calls Try.prog 19 #[.slice A n c] W (GivesW W b)) := fun W U => rcopy_any A n c b W (HB1.out.below U) (by omega)
  have HPU := Lib.hid (fun w2 w3 v' o (U : Below W1.heap.size W1 w2) own hgrow hwhere => RFv.push0 (w2 := w2) (w3 := w3) (v' := v') (o := o) (s' := { s with s0 := S, l0 := s.l0 ++ [(S, b, b)] }) R1 U own hgrow hwhere (HOKB.out (s.l0 ++ [(S, b, b)]) s.gone (fun _ h => h) (by rw [List.length_append, hm]; simp; omega) (by omega)) rfl rfl rfl rfl rfl)
  have hz1 : ∀ k, Zn W1 X g v1 k → k < W1.heap.size := fun k hz => by
    rcases hz with hz | hz | hz
    · exact Nat.lt_of_not_le (fun h => hz (.inr h))
    · omega
    · exact hlt1 k (hbe k hz).1
  have HZ1 := Lib.hid hz1
  have HOZ : Hid (OwnF W1 0 (Zn W1 X g v1) v0 s.l0) := R1.2.2.2.2.1.zn
  have HOB := Lib.hid (fun k hk => And.intro (hlt1 k (hbd k hk).1) (hbd k hk).2.1)
  have h3l : Hid ((s.l0 ++ [(S, b, b)]).length = m + 1) := by show _ = _; rw [List.length_append, hm]; rfl
  rw [hvD] at HOZ
  simp only [hvD] at HPU
  have P0 := (Below.refl W1.heap.size W1).drew
  have K0 := HTW.out _ P0
  clear hz1 hlt1 hbd hbe hX1 HOW hm bfz R1 c0 c1 c2 c3 c4 c5 b0 b1 b4 b5 hvD f3
  go_cut [] from 39 to 56 (fun wx => ∃ X2 P3 c3, RFv g { s with s0 := S, l0 := s.l0 ++ [(S, b, b)] } (.slice P3 (m + 1) c3) v1 wx X2 ∧ Turns X X2 W1 wx)
  case first =>
    go_region_law
      (first
        | (go_simp; go_at_call 19; (with_reducible refine (HC.out _ (by first | exact T2 | exact T2.drew)).mono ?_); rintro e w4 ⟨v4, rfl, hw4, U4⟩; (rw [hbl] at hw4); obtain ⟨A4, cA4, rfl⟩ := own_shape hw4; have T4 := nxt (by first | exact T2 | exact T2.drew) U4; have y1 := Lib.hid (by first | exact (x1.out).below U4 | exact (x1.out).drew.below U4 : Tx w4 (· < W1.heap.size) b (.slice A1 n cA)); have D1 := (HTW.out _ T4).1; have D2 := (HTW.out _ T4).2; have D3 := fun o => (HTW.out _ (T4.alloc T4.size o)).1)
        | (go_simp; go_at_call 19; (with_reducible refine (HC.out _ (by first | exact P0 | exact P0.drew)).mono ?_); rintro e w2 ⟨v2, rfl, hw2, U2⟩; (rw [hbl] at hw2); obtain ⟨A1, cA, rfl⟩ := own_shape hw2; have T2 := nxt (by first | exact P0 | exact P0.drew) U2; have x1 : Hid (Tx w2 (· < W1.heap.size) b (.slice A1 n cA)) := Tx.fre (Fre.of_own hw2); have C1 := (HTW.out _ T2).1; have C2 := (HTW.out _ T2).2)
        | ((refine step_f _ rfl (.tmp 43) (.tmp 53) rfl 0 (Zn W1 X g v1) (.slice P m pc) s.l0 rfl ?_ (fun k => k < W1.heap.size) w4.heap.size (S, b, b) (.slice A1 n cA) (.slice A4 n cA4) rfl ?_ ?_ ?_ ?_ ?_ ?_ ?_ ?_); (exact HOZ.out.below (T4.alloc T4.size _)); (exact heap_alloc_new w4 _); (exact (y1.out).below ((Below.refl _ w4).alloc (Nat.le_refl _) _)); (exact ((Tx.fre (Fre.of_own hw4)).imp (fun k _ hk => Nat.lt_of_lt_of_le hk T2.size)).below ((Below.refl _ w4).alloc (Nat.le_refl _) _)); (rw [HM.out]; omega); (exact Nat.zero_le _); (exact fun k _ hz => HZ1.out k hz); (exact fun k hk => (HOB.out k hk).1); (intro v3 w3 own3 grow3 where3); (have HEE := Lib.hid (HPU.out w4 w3 v3 _ T4 own3 grow3 where3)); obtain ⟨P3, c3, hv3, _⟩ := own3.shape; (rw [h3l.out] at hv3); subst hv3; have C5 := grown_cell (p := ⟨g, 2, none⟩) grow3 (by have := T4.size; simp; omega) (fun e => (HOB.out g e).2 rfl) (D3 _); have f5 := (frozen_of_block (grow3.block g (by have := T4.size; simp; omega) (fun e => (HOB.out g e.symm).2 rfl)) 2).trans (HF.out _ (T4.alloc T4.size _))))
    all_goals
      go_wp2_with fail
      go_meet
      obtain ⟨X9, r9, t9⟩ := HEE.out
      exact ⟨X9, _, _, r9, t9⟩
  case rest =>
  obtain ⟨X2, P3, c3, R2, t2⟩ := hcut
  clear HC HF HTW HOB HZ1 HOZ HPU K0 P0 HB1 d3 d4 eS b2 b3
  have t02 := Lib.hid (t1.trans t2)
  clear t1 t2
  obtain ⟨L', hL'⟩ : ∃ L', s.l0 ++ [(S, b, b)] = L' := ⟨_, rfl⟩
  have h3 := h3l.out
  rw [hL'] at R2 h3
  simp only [hL'] at HF1 HOKB
  have hls : s.l0.length = m := HM.out
  by_cases hl0 : s.life = 0
  · have dl : ((s.life : Int) == 0) = true := by simp [hl0]
    have HE : Hid (fsPut0 s b = { s with s0 := S, l0 := L' }) := by
      show _ = _
      rw [HF1.out]
      unfold fsKeep
      rw [if_pos hl0, h3, hls, Nat.sub_self, Nat.add_zero]
    obtain ⟨ca, cb, cc, cd, ce, cf, cfz, cgw⟩ := R2.cells
    dsimp only at ca
    clear hl0 HF1 cb cc cd ce cf cfz
    go_wp2
    go_ret
    exact ⟨rfl, X2, by rw [HE.out]; exact ⟨_, _, R2⟩, t02.out⟩
  · have dl : ((s.life : Int) == 0) = false := by simp [hl0]
    have HE : Hid (fsPut0 s b = { s with s0 := S, l0 := fsPrune s.life S L', gone := s.gone + (m + 1 - (fsPrune s.life S L').length) }) := by
      show _ = _
      rw [HF1.out]
      unfold fsKeep
      rw [if_neg hl0, hls]
    obtain ⟨P', c', hv', hk1, hk2, hrow⟩ := R2.2.2.2.2.1.1.shape
    dsimp only at hv' hk1 hrow
    rw [h3] at hv' hk1
    injection hv' with e1 e2 e3
    subst e1 e3
    obtain ⟨bb, rfl, -, hbw, -, -⟩ := hrow (by omega)
    clear e2 hrow
    have hlife : s.life ≤ 4096 := R2.2.2.1.1
    obtain ⟨ca, cb, cc, cd, ce, cf, cfz, cgw⟩ := R2.cells
    dsimp only at ca
    clear cb cc cd ce cf cfz hl0 HF1
    have HX2 := Lib.hid R2.2.1
    unfold maxLen at hk2
    have HR0 := Lib.hid R2
    clear R2
    go_wp2_with (fail)
    clear ca
    go_loopw [8, 9] (fun v i wr => ∃ j gn : Nat, j ≤ m + 1 ∧ i = .int .i64 (j : Int) ∧ Hid (gn + (fsPrune s.life S (L'.take j)).length = s.gone + j) ∧ Hid (RFv g { s with s0 := S, l0 := L', gone := gn } (.slice (some ⟨bb, 0, none⟩) (m + 1) c3) v1 wr X2) ∧ Hid (Off X2 wc wr) ∧ Hid (OwnF wr wc.heap.size (Zn wc X2 g v1) v (fsPrune s.life S (L'.take j)))) (fun _ i _ => m + 1 - (intOf i).toNat)
    case atStart => exact ⟨0, s.gone, Nat.zero_le _, rfl, by show _ = _; simp [fsPrune], HR0.out, Off.refl _ _, OwnF.nil _ _ _⟩
    case round =>
      obtain ⟨j, gn, hj, rfl, HG, HR, HO, HQ⟩ := hrel
      obtain ⟨ca, cb, cc, cd, ce, cf, cfz, cgw⟩ := HR.out.cells
      dsimp only at ca cb cd cf
      by_cases hlt : j < m + 1
      · have d0 : decide ((j : Int) < (m : Int) + 1) = true := by simp; omega
        have d0' : (j : Int) < (m : Int) + 1 := by omega
        have hjL : j < L'.length := by omega
        obtain ⟨P5, c5, hv5, -, -, hrow⟩ := HR.out.2.2.2.2.1.1.shape
        dsimp only at hv5 hrow
        injection hv5 with e1 e2 e3
        obtain ⟨b5, e4, -, hb5, -, hel⟩ := hrow (by omega)
        rw [e4] at e1
        injection e1 with e1
        injection e1 with e1
        subst e1
        obtain ⟨u1, u2, q0, q1, q2, x1, x2⟩ := hel j hjL
        obtain ⟨A1, k1, rfl, _, _⟩ := id x1
        obtain ⟨A2, k2, rfl, _, _⟩ := id x2
        have hpt := prune_take s.life S L' j hjL
        have hnj : L'[j].1 ≤ S := (HR.out.2.2.1.2.2.1.2.2 _ (List.getElem_mem hjL)).1
        have hx12 : ∀ k, (Zn wc X2 g v1 k ∨ wc.heap.size ≤ k) → ((¬ X2 k ∨ k = g ∨ v1.ownBlock = some k) ∨ k = bb) := fun k hk => by
          rcases hk with (hk | hk | hk) | hk
          · exact .inl (.inl (fun h => hk (.inl h)))
          · exact .inl (.inr (.inl hk))
          · exact .inl (.inr (.inr hk))
          · exact .inl (.inl (fun h => by have := HX2.out k h; omega))
        have HX := Lib.hid (And.intro (x1.imp (fun k _ hk => hx12 k hk)) (x2.imp (fun k _ hk => hx12 k hk)))
        generalize L'[j] = f at *
        obtain ⟨m1, hm1⟩ : ∃ m, f.2.1.length = m := ⟨_, rfl⟩
        obtain ⟨m2, hm2⟩ : ∃ m, f.2.2.length = m := ⟨_, rfl⟩
        rw [hm1] at q1 HX
        rw [hm2] at q2 HX
        obtain ⟨df, hdf⟩ : ∃ df, S - f.1 = df := ⟨_, rfl⟩
        rw [hdf] at hpt
        have edf : (S : Int) - (f.1 : Int) = (df : Int) := by omega
        have hgb : gn ≤ 95000000 := by have := HG.out; omega
        have hpl : (fsPrune s.life S (L'.take j)).length ≤ 5000 := by have := prune_le s.life S (L'.take j); have := List.length_take_le j L'; omega
        clear x1 x2 hel hrow hx12 hm1 hm2 e2 e3 e4 hdf hnj
        by_cases hc : df < s.life
        · have d5 : decide ((df : Int) < (s.life : Int)) = true := by simp; omega
          rw [if_pos hc] at hpt
          have HPT := Lib.hid hpt
          clear hpt
          generalize hkp : fsPrune s.life S (L'.take j) = kp at *
          go_wp2_with (fail)
          go_big_region
          have hz0 := HO.out.size
          have BW : Hid (∀ o, Below wr.heap.size wr (wr.alloc o).drew) := fun o => ((Below.refl _ wr).alloc (Nat.le_refl _) o).drew
          go_wp2_with (first | (at_builtin; (with_reducible refine app_f _ rfl (.tmp 89) (.tmp 97) rfl wc.heap.size (Zn wc X2 g v1) _ kp rfl ?_ (fun k => Zn wc X2 g v1 k ∨ wc.heap.size ≤ k) _ f (.slice A1 m1 k1) (.slice A2 m2 k2) rfl ?_ ?_ ?_ ?_ ?_ ?_ ?_ ?_); (exact HQ.out.below (BW.out _)); (exact heap_alloc_new wr _); (exact HX.out.1.below (BW.out _)); (exact HX.out.2.below (BW.out _)); (omega); (exact Nat.le_trans hz0 (BW.out _).size); (exact fun k _ hk => .inl hk); (exact fun k hk => .inr (HQ.out.lt k hk).1); intro v3 w3 own3 grow3 where3; have HO3 := Lib.hid (And.intro own3 grow3); clear own3 grow3 where3))
          have O3 : Off (fun k => u8.ownBlock = some k) wr w3 := (Off.of_below (BW.out _)).grown HO3.out.2 (fun k hk => .inl hk)
          have HR3 := Lib.hid ((RFv.holds _ _ _ _).off HR.out O3 (fun k hk e => by have := (HQ.out.lt k e).1; have := HX2.out k hk; omega))
          have HOf := Lib.hid (HO.out.thru O3 (fun k hk e => by have := (HQ.out.lt k e).1; omega))
          clear O3
          go_roundw
          case rel =>
            refine ⟨j + 1, gn, by omega, by go_num, ?_, HR3.out, HOf.out, ?_⟩
            · show _ = _
              rw [HPT.out, List.length_append]
              have := HG.out
              simp
              omega
            · rw [HPT.out]
              exact HO3.out.1
          case measure => simp [intOf]; omega
        · have d5 : decide ((df : Int) < (s.life : Int)) = false := by simp; omega
          rw [if_neg hc] at hpt
          have HPT := Lib.hid hpt
          clear hpt
          have okc := HOKB.out L' (gn + 1) (fun _ h => h) (by omega) (by omega)
          have hRn := ((RFv.holds _ _ _ _).below HR.out ((Below.refl _ wr).drew)).nums (s' := { s with s0 := S, l0 := L', gone := gn + 1 }) 1 (.int .i64 ((gn : Int) + 1)) okc rfl rfl rfl
          have HRN := Lib.hid hRn
          have f1 := cfz 1
          have HQD : Hid (OwnF wr.drew wc.heap.size (Zn wc X2 g v1) u8 (fsPrune s.life S (L'.take j))) := HQ.out
          clear okc hRn
          go_wp2_with (fail)
          go_big_region
          go_wp2_with (fail)
          go_roundw
          case rel =>
            refine ⟨j + 1, gn + 1, by omega, by go_num, ?_, HRN.out.1, HO.out.thru ((Off.of_below (Below.refl _ wr).drew).thru HRN.out.2.off (fun _ _ h => h)) (fun _ _ h => h), ?_⟩
            · show _ = _
              rw [HPT.out]
              have := HG.out
              omega
            · rw [HPT.out]
              exact HQD.out.off (((Off.refl (· = g) wr.drew).setCell (p := ⟨g, 1, none⟩) (.inl rfl) _)) (fun k _ hk => .inr (.inl hk)) (fun k hk e => by have := (HQ.out.lt k hk).1; have := HX2.out k (e ▸ HR.out.1); omega)
          case measure => simp [intOf]; omega
      · have d0 : decide ((j : Int) < (m : Int) + 1) = false := by simp; omega
        have d0' : ¬ ((j : Int) < (m : Int) + 1) := by omega
        have htk : L'.take j = L' := List.take_of_length_le (by omega)
        rw [htk] at HQ HG
        obtain ⟨P5, c5, hv5, -, -, -⟩ := HQ.out.shape
        subst hv5
        have hgl := HG.out
        have hfin := RFv.row0 (w := wc) (w3 := wr) (s' := { s with s0 := S, l0 := fsPrune s.life S L', gone := gn }) HR.out.1 HX2.out HO.out HR.out.2.2.2.1 HR.out.2.2.2.2.2 HR.out.2.2.2.2.1.2 (HQ.out.down (Nat.zero_le _)) (.inr (fun k hk => (HQ.out.lt k hk).1)) (HOKB.out (fsPrune s.life S L') gn (fun f hf => prune_mem hf) (by have := prune_le s.life S L'; omega) (by omega)) rfl rfl rfl rfl rfl
        have HFN := Lib.hid hfin
        have hE2 : s.gone + (m + 1 - (fsPrune s.life S L').length) = gn := by have := prune_le s.life S L'; omega
        have HE2 := Lib.hid hE2
        have f2 := cfz 2
        clear hfin hE2 hgl
        go_wp2
        go_ret
        obtain ⟨X5, r5, t5⟩ := HFN.out
        exact ⟨rfl, X5, by rw [HE.out, HE2.out]; exact ⟨_, _, r5⟩, t02.out.trans t5⟩
end Go.Proofs.Ytgppoapdpgblmaa
