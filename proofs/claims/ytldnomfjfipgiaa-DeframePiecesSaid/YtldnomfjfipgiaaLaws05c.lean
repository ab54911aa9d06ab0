/- The walk of DeframePieces. -/
import Derived.Test.YtldnomfjfipgiaaDef4
import Derived.Test.YtldnomfjfipgiaaRcopy
import Derived.Test.YtldnomfjfipgiaaSameAll
import Derived.Test.YtldnomfjfipgiaaCutB
import Derived.Test.YtldnomfjfipgiaaArgsI
import Derived.Laws.StructEq
namespace Go.Proofs.Ytldnomfjfipgiaa
open Go.RowKit

theorem scRun_held (b : List UInt8) : ∀ (p : Sc × List (List UInt8)), p.1.h.length ≤ 200 → p.1.at_ ≤ 2 → (scRun p b).1.h.length ≤ 200 ∧ (scRun p b).1.at_ ≤ 2 := by
  induction b with
  | nil => intro p h1 h2; exact ⟨h1, h2⟩
  | cons x b ih =>
    intro p h1 _
    rw [scRun_cons]
    have h3 := scStep_held p.1 x h1
    exact ih (scNext p x) h3.1 h3.2
/-- what Feed asks of a scanner's state that has seen the bytes b -/
theorem scRun_fit (b : List UInt8) (hb : b.length ≤ 2000) : (scRun (scNew, []) b).1.at_ ≤ 2 ∧ (scRun (scNew, []) b).1.h.length ≤ 200 ∧
    ((scRun (scNew, []) b).1.g ≤ 1099511627776 ∧ (scRun (scNew, []) b).1.b ≤ 1099511627776 ∧ (scRun (scNew, []) b).1.l ≤ 1099511627776 ∧ (scRun (scNew, []) b).1.z ≤ 1099511627776) ∧ (scRun (scNew, []) b).2.length ≤ 2000 := by
  have h1 := scRun_held b (scNew, []) (by decide) (by decide)
  have h2 := scRun_grow b (scNew, [])
  simp only [scNew, List.length_nil] at h2
  refine ⟨h1.2, h1.1, ⟨?_, ?_, ?_, ?_⟩, ?_⟩ <;> (simp only [scNew]; omega)
/-- a piece more -/
theorem scRun_piece (a x : List UInt8) : scRun (scNew, []) (a ++ x) = ((scRun ((scRun (scNew, []) a).1, []) x).1, (scRun (scNew, []) a).2 ++ (scRun ((scRun (scNew, []) a).1, []) x).2) := by
  rw [scRun_append]
  exact scRun_found x (scRun (scNew, []) a).1 (scRun (scNew, []) a).2

theorem cut_lo_av {w : World} {A : Option Addr} {n c : Nat} {l : List UInt8} {Y : Nat → Prop} (h : Bys w A n c l) (hA : Av Y n A) (k : Nat) (hk : k ≤ n) :
    ∃ A2, (∀ W, (Instr.sliceAt 22 (.slice A n c) (some (.int .i64 k)) none none).run Try.prog W = .ok (.slice A2 (n - k) (c - k)) W) ∧ (∀ W, (Instr.slice 22 (.slice A n c) (some (.int .i64 k)) none none).run Try.prog W = .ok (.slice A2 (n - k) (c - k)) W) ∧ Bys w A2 (n - k) (c - k) (l.drop k) ∧ Av Y (n - k) A2 := by
  refine ⟨_, fun W => (at_slice _ _ _ _ W).trans (slice_lo A n c k hk W), fun W => slice_lo A n c k hk W, h.drop k hk, fun hn p e => ?_⟩
  split at e
  · exact hA (by omega) p e
  · rcases A with _ | a
    · cases e
    · injection e with e
      subst e
      have := hA (by omega) a rfl
      unfold Addr.add
      split <;> exact this

theorem Off.imp {X X' : Nat → Prop} {w w' : World} (h : Off X w w') (hX : ∀ k, X k → X' k) : Off X' w w' := ⟨h.os, h.tape, h.output, h.size, fun k hk hx => h.block k hk (fun hx2 => hx (hX k hx2))⟩
/-- What the loop over the cuts is at. -/
def PieceI (w5 : World) (S : Nat) (t : Addr) (b : List UInt8) (l rest : Value) (wr : World) : Prop :=
  ∃ (q : Nat) (A : Option Addr) (m c : Nat), q + m = b.length ∧ rest = .slice A m c ∧ Bys wr A m c (b.drop q) ∧ Av (fun k => k = S ∨ w5.heap.size ≤ k) m A ∧ OwnR wr w5.heap.size l (scRun (scNew, []) (b.take q)).2 ∧ Scn wr S t (scRun (scNew, []) (b.take q)).1 ∧ Off (· = S) w5 wr

set_option maxHeartbeats 8000000 in
set_option maxRecDepth 100000 in
theorem walk_DeframePieces (A : Option Addr) (n c : Nat) (b : List UInt8) (A' : Option Addr) (n' c' : Nat) (cuts : List Int) (w : World) (hB : Bys w A n c b) (hI : Ints w A' n' c' cuts) :
    Calls Try.prog 4 #[.slice A n c, .slice A' n' c'] w fun e w' => e = .returned (.bool true) ∧ Below w.heap.size w w' := by
  by_cases hn : 2000 < n
  · have hd : decide ((2000 : Int) < (n : Int)) = true := by simp; omega
    clear hB hI hn
    go_enter Try.func4, Try.ntmps4
    go_wp2_with (fail)
    refine (live05_any _).mono ?_
    rintro e w7 ⟨rfl, G⟩
    go_wp2_with (fail)
    go_ret
    exact ⟨rfl, G⟩
  · have hd : decide ((2000 : Int) < (n : Int)) = false := by simp; omega
    by_cases hn' : 50 < n'
    · have hd2 : decide ((50 : Int) < (n' : Int)) = true := by simp; omega
      clear hB hI hn hn'
      go_enter Try.func4, Try.ntmps4
      go_wp2_with (fail)
      refine (live05_any _).mono ?_
      rintro e w7 ⟨rfl, G⟩
      go_wp2_with (fail)
      go_ret
      exact ⟨rfl, G⟩
    · have hd2 : decide ((50 : Int) < (n' : Int)) = false := by simp; omega
      have hnl := hB.len
      have hncap := hB.cap
      have hnle := hB.le
      have hil := hI.1
      have hic := hI.2.1
      have him := hI.2.2.1
      unfold maxLen at him
      have hfit := Lib.hid (fun q => scRun_fit (b.take q) (by simp; omega))
      have hfitA := Lib.hid (scRun_fit b (by omega))
      have HI := Lib.hid hI
      have HB := Lib.hid hB
      clear hB hI
      go_enter Try.func4, Try.ntmps4
      go_wp2_with (fail)
      refine (new_any w).mono ?_
      rintro e w1 ⟨t, rfl, ht, T1⟩
      have H1 := Lib.hid (dnew_any t w1 ht)
      have htl : t.block < w1.heap.size := by obtain ⟨g, rfl, h1, _⟩ := ht; exact h1
      have hz1 := T1.size
      go_wp2_with (fail)
      refine H1.out.mono ?_
      rintro e w2 ⟨S1, rfl, hS1, hs1, G⟩
      have ht2 := ht.below G
      have T2 := nxt T1 G
      have hSl1 := hs1.lt
      have H2 := Lib.hid (dnew_any t w2 ht2)
      have hs1 := Lib.hid hs1
      clear H1 ht G
      go_wp2_with (fail)
      refine H2.out.mono ?_
      rintro e w3 ⟨S2, rfl, hS2, hs2, G⟩
      have ht3 := ht2.below G
      have T3 := nxt T2 G
      have hs13 := hs1.out.below G
      have hB3 := HB.out.below T3
      have hSl2 := hs2.lt
      have F := Lib.hid (feed_any S2 t scNew A n c b w3 ht3 (by omega) hs2 hB3 (HB.out.av.imp (fun k hk => by have hk : k = S2 := hk; show w.heap.size ≤ k; omega)) (by omega) (by decide) (by decide) (by decide))
      have hz3 := T3.size
      clear H2 hs2 ht2 hs1 G hB3
      go_wp2_with (fail)
      refine F.out.mono ?_
      rintro e w4 ⟨v, rfl, hO, hs24, hF⟩
      obtain ⟨P8, c8, rfl, hR8⟩ := hO.shape
      have T4 : Below w.heap.size w w4 := T3.trans (hF.below (fun k hk => by have hk : k = S2 := hk; omega) hz3)
      have ht4 := ht3.off (X := (· = S2)) (by show ¬ (t.block = S2); omega) hF
      have hs14 := hs13.off (X := (· = S2)) (by show ¬ (S1 = S2); omega) hF
      have hB4 := HB.out.below T4
      have hz34 := hF.size
      have HC := Lib.hid (rcopy_any A n c b w4 hB4 (by omega))
      have HR8 := Lib.hid hR8
      have hs24 := Lib.hid hs24
      have hs14 := Lib.hid hs14
      clear F hO hF hR8 hB4 ht3 hs13
      generalize hm8 : (scRun (scNew, []) b).2.length = m8 at *
      have hm8 := Lib.hid hm8
      go_wp2_with (fail)
      refine HC.out.mono ?_
      rintro e w5 ⟨v5, rfl, own5, G⟩
      have T5 := nxt T4 G
      have hz45 := G.size
      obtain ⟨A5, c5, hv5⟩ := own_shape own5
      subst hv5
      have B5 := Bys.of_own own5
      have hA5 := own_fr own5
      rw [hnl] at B5 ⊢
      have ht5 := ht4.below G
      have hs15 := hs14.out.below G
      have hAv5 : Av (fun k => k = S1 ∨ w5.heap.size ≤ k) n A5 := fun hnn p e hp => by
        have h1 := hA5 (by omega) p e
        have h2 := B5.av hnn p e
        rcases hp with hp | hp
        · omega
        · exact h2 hp
      have HS15 := Lib.hid hs15
      have HT5 := Lib.hid ht5
      have G45 := Lib.hid G
      have HPI : Hid (PieceI w5 S1 t b (.slice none 0 0) (.slice A5 n c5) w5) := ⟨0, A5, n, c5, by omega, rfl, B5, hAv5, OwnR.nil _ _, hs15, Off.refl _ _⟩
      clear own5 B5 hA5 hAv5 hs15 ht5 G ht4 hs14 HC
      go_wp2_with (fail)
      go_loopw [9, 10, 11] (fun l rest i wr => ∃ k : Nat, k ≤ n' ∧ i = .int .i64 k ∧ PieceI w5 S1 t b l rest wr) (fun _ _ i _ => n' - (intOf i).toNat)
      case atStart => exact ⟨0, Nat.zero_le _, rfl, HPI.out⟩
      case round =>
        obtain ⟨k, hk, rfl, q, Ar, m, cr, hqm, rfl, hBr, hAv, hOl, hsc, hoff⟩ := hrel
        have hTw : Below w.heap.size w wr := T5.trans (hoff.below (fun j hj => by have hj : j = S1 := hj; omega) T5.size)
        have hta := HT5.out.off (X := (· = S1)) (by show ¬ (t.block = S1); omega) hoff
        have hmc := hBr.le
        have hmm := hBr.cap
        have hzr := hoff.size
        by_cases hlt : k < n'
        · obtain ⟨bb, o, rfl, hbb, hcell⟩ := HI.out.2.2.2.2 (by omega)
          have hkl : k < cuts.length := by omega
          have c1 := (hTw.cell (p := ⟨bb, o + k, none⟩) hbb).trans (hcell k hkl)
          have hzb := HI.out.2.2.2.1 cuts[k] (List.getElem_mem hkl)
          generalize cuts[k] = z at *
          clear hcell
          by_cases hz0 : z < 0
          · have e1 : decide (z < 0) = true := by simpa using hz0
            have HPI2 : Hid (PieceI w5 S1 t b u9 (.slice Ar m cr) wr) := ⟨q, Ar, m, cr, hqm, rfl, hBr, hAv, hOl, hsc, hoff⟩
            clear hBr hAv hOl hsc hoff hta hz0
            go_wp2_with (fail)
            go_roundw
            case rel => exact ⟨k + 1, by omega, by go_num, HPI2.out⟩
            case measure => simp [intOf]; omega
          · obtain ⟨j, rfl⟩ := Int.eq_ofNat_of_zero_le (show 0 ≤ z by omega)
            have e1 : decide ((j : Int) < 0) = false := by simp
            by_cases hjm : m < j
            · have e2 : decide (m < j) = true := by simpa using hjm
              have HPI2 : Hid (PieceI w5 S1 t b u9 (.slice Ar m cr) wr) := ⟨q, Ar, m, cr, hqm, rfl, hBr, hAv, hOl, hsc, hoff⟩
              clear hBr hAv hOl hsc hoff hta hz0 hjm
              go_wp2_with (fail)
              go_roundw
              case rel => exact ⟨k + 1, by omega, by go_num, HPI2.out⟩
              case measure => simp [intOf]; omega
            · have e2 : decide (m < j) = false := by simpa using hjm
              have hjm2 : j ≤ m := by omega
              have hs1 := fun W => slice_hi Ar m cr j (by omega) W
              have hs2 := fun W => (at_slice (.slice Ar m cr) none (some (.int .i64 (j : Int))) none W).trans (slice_hi Ar m cr j (by omega) W)
              obtain ⟨A2, hs3, hs4, hB2, hAv2⟩ := cut_lo_av hBr hAv j hjm2
              have B6 := hBr.take j hjm2
              have hft := hfit.out q
              have FE := Lib.hid (feed_any S1 t (scRun (scNew, []) (b.take q)).1 Ar j cr ((b.drop q).take j) wr hta (by omega) hsc B6 (fun hj0 p e hp => hAv (by omega) p e (.inl hp)) (by omega) hft.1 hft.2.1 hft.2.2.1)
              have hfl := hft.2.2.2
              have HP := scRun_piece (b.take q) ((b.drop q).take j)
              rw [← List.take_add] at HP
              have hgrw := scRun_grow ((b.drop q).take j) ((scRun (scNew, []) (b.take q)).1, [])
              have hlx : ((b.drop q).take j).length ≤ 2000 := by simp; omega
              have HQ := Lib.hid (rfl : (scRun (scNew, []) (b.take (q + j))).2 = (scRun (scNew, []) (b.take (q + j))).2)
              obtain ⟨fn, hfn⟩ : ∃ fn, (scRun ((scRun (scNew, []) (b.take q)).1, []) ((b.drop q).take j)).2 = fn := ⟨_, rfl⟩
              have hfnl : fn.length ≤ 2000 := by rw [← hfn]; have := hgrw.2.2.2.2; simp only [List.length_nil] at this; omega
              have HP1 : Hid ((scRun (scNew, []) (b.take (q + j))).1 = (scRun ((scRun (scNew, []) (b.take q)).1, []) ((b.drop q).take j)).1) := by show _ = _; rw [HP]
              have HP2 : Hid ((scRun (scNew, []) (b.take (q + j))).2 = (scRun (scNew, []) (b.take q)).2 ++ fn) := by show _ = _; rw [HP, hfn]
              have HFN := Lib.hid hfn
              obtain ⟨fd, hfd⟩ : ∃ fd, (scRun (scNew, []) (b.take q)).2 = fd := ⟨_, rfl⟩
              rw [hfd] at hOl hfl
              unfold Hid at HP2
              rw [hfd] at HP2
              have HP2 := Lib.hid HP2
              have HOl := Lib.hid hOl
              have hB2 := Lib.hid hB2
              have hAv2 := Lib.hid hAv2
              have hoff := Lib.hid hoff
              clear hBr hAv hOl hsc hta hz0 hjm hft B6 HP hgrw hfn hfd HQ
              go_wp2_with (fail)
              refine FE.out.mono ?_
              rintro e w6 ⟨vf, rfl, hOf, hsf, hFf⟩
              rw [HFN.out] at hOf
              rw [← HP1.out] at hsf
              obtain ⟨Pf, cf, hvf, hRf⟩ := hOf.shape
              subst hvf
              have hSw5 : S1 < w5.heap.size := by omega
              have HLT := Lib.hid HOl.out.lt
              have HO6 := Lib.hid (HOl.out.off (X := (· = S1)) (fun i _ hi => by omega) hFf)
              have HRf := Lib.hid hRf
              have hsf := Lib.hid hsf
              have hz6 := hFf.size
              have hFf := Lib.hid hFf
              clear hOf hRf
              go_wp2_with ((with_reducible refine app_rws _ rfl (.tmp 51) (.tmp 59) rfl w5.heap.size u9 fd rfl ?_ wr.heap.size Pf fn.length cf fn rfl ?_ ?_ ?_ ?_ ?_ ?_); (exact HO6.out); (exact HRf.out); (omega); (omega); (omega); (intro i hi; exact (HLT.out i hi).2); intro v7 w7 hown7 hgrow7; have hrow : ∀ i, u9.ownBlock = some i → w5.heap.size ≤ i := fun i hi => (HLT.out i hi).1; have o67 : Off (fun i => w5.heap.size ≤ i) w6 w7 := (Off.refl _ w6).grown hgrow7 (fun i hi => .inl (hrow i hi)); have oY : Off (fun i => i = S1 ∨ w5.heap.size ≤ i) wr w7 := (hFf.out.imp (fun i hi => .inl hi)).trans (o67.imp (fun i hi => .inr hi)); have c2 := (oY.cell (p := ⟨bb, o + k, none⟩) (by show bb < _; omega) (by show ¬ (bb = S1 ∨ w5.heap.size ≤ bb); omega)).trans c1)
              go_roundw
              case rel =>
                refine ⟨k + 1, by omega, by go_num, q + j, A2, m - j, cr - j, by omega, rfl, ?_, hAv2.out, ?_, ?_, ?_⟩
                · have := hB2.out.off hAv2.out oY
                  rw [List.drop_drop] at this
                  exact this
                · rw [HP2.out]; exact hown7
                · exact hsf.out.off (X := fun i => w5.heap.size ≤ i) (by show ¬ (w5.heap.size ≤ S1); omega) o67
                · exact (hoff.out.trans hFf.out).grown hgrow7 (fun i hi => .inr (hrow i hi))
              case measure => simp [intOf]; omega
        · obtain rfl : k = n' := by omega
          have hft := hfit.out q
          have FE := Lib.hid (feed_any S1 t (scRun (scNew, []) (b.take q)).1 Ar m cr (b.drop q) wr hta (by omega) hsc hBr (fun hj0 p e hp => hAv hj0 p e (.inl hp)) (by omega) hft.1 hft.2.1 hft.2.2.1)
          have hfl := hft.2.2.2
          have HP := scRun_piece (b.take q) (b.drop q)
          rw [List.take_append_drop] at HP
          have hgrw := scRun_grow (b.drop q) ((scRun (scNew, []) (b.take q)).1, [])
          have hlx : (b.drop q).length ≤ 2000 := by simp; omega
          obtain ⟨fn, hfn⟩ : ∃ fn, (scRun ((scRun (scNew, []) (b.take q)).1, []) (b.drop q)).2 = fn := ⟨_, rfl⟩
          have hfnl : fn.length ≤ 2000 := by rw [← hfn]; have := hgrw.2.2.2.2; simp only [List.length_nil] at this; omega
          have HP1 : Hid ((scRun (scNew, []) b).1 = (scRun ((scRun (scNew, []) (b.take q)).1, []) (b.drop q)).1) := by show _ = _; rw [HP]
          have HP2 : Hid ((scRun (scNew, []) b).2 = (scRun (scNew, []) (b.take q)).2 ++ fn) := by show _ = _; rw [HP, hfn]
          have HFN := Lib.hid hfn
          obtain ⟨fd, hfd⟩ : ∃ fd, (scRun (scNew, []) (b.take q)).2 = fd := ⟨_, rfl⟩
          rw [hfd] at hOl hfl
          unfold Hid at HP2
          rw [hfd] at HP2
          have HP2 := Lib.hid HP2
          have HOl := Lib.hid hOl
          have hoff := Lib.hid hoff
          clear hBr hAv hOl hsc hta hft HP hgrw hfn hfd hlt
          go_wp2_with (fail)
          refine FE.out.mono ?_
          rintro e w6 ⟨vf, rfl, hOf, hsf, hFf⟩
          rw [HFN.out] at hOf
          rw [← HP1.out] at hsf
          obtain ⟨Pf, cf, hvf, hRf⟩ := hOf.shape
          subst hvf
          have hSw5 : S1 < w5.heap.size := by omega
          have HLT := Lib.hid HOl.out.lt
          have HO6 := Lib.hid (HOl.out.off (X := (· = S1)) (fun i _ hi => by omega) hFf)
          have HRf := Lib.hid hRf
          have hsf := Lib.hid hsf
          have hz6 := hFf.size
          have hFf := Lib.hid hFf
          clear hOf hRf
          go_wp2_with ((with_reducible refine app_rws _ rfl (.tmp 67) (.tmp 70) rfl w5.heap.size u9 fd rfl ?_ wr.heap.size Pf fn.length cf fn rfl ?_ ?_ ?_ ?_ ?_ ?_); (exact HO6.out); (exact HRf.out); (omega); (omega); (omega); (intro i hi; exact (HLT.out i hi).2); intro v7 w7 hown7 hgrow7)
          have hrow : ∀ i, u9.ownBlock = some i → w5.heap.size ≤ i := fun i hi => (HLT.out i hi).1
          have o67 : Off (fun i => w5.heap.size ≤ i) w6 w7 := (Off.refl _ w6).grown hgrow7 (fun i hi => .inl (hrow i hi))
          have hs17 : Scn w7 S1 t (scRun (scNew, []) b).1 := hsf.out.off (X := fun i => w5.heap.size ≤ i) (by show ¬ (w5.heap.size ≤ S1); omega) o67
          have o57 : Off (· = S1) w5 w7 := (hoff.out.trans hFf.out).grown hgrow7 (fun i hi => .inr (hrow i hi))
          have o47 : Off (· = S1) w4 w7 := (Off.of_below G45.out).trans o57
          rw [← HP2.out] at hown7
          obtain ⟨P7, c7, hv7, hR7⟩ := hown7.shape
          subst hv7
          rw [hm8.out] at hR7
          have hs27 := hs24.out.off (X := (· = S1)) (by show ¬ (S2 = S1); omega) o47
          have hR87 := HR8.out.off (X := (· = S1)) (fun i _ hi => by omega) o47
          have T7 : Below w.heap.size w w7 := T4.trans (o47.below (fun i hi => by have hi : i = S1 := hi; omega) T4.size)
          have ht7 := HT5.out.off (X := (· = S1)) (by show ¬ (t.block = S1); omega) o57
          have HSA := Lib.hid (sameall_true P7 P8 m8 c7 m8 c8 _ w7 hR7.rws hR87.rws)
          rw [hm8.out]
          have hs17 := Lib.hid hs17
          have hs27 := Lib.hid hs27
          have hR87 := Lib.hid hR87
          have ht7 := Lib.hid ht7
          obtain ⟨sF, hsF⟩ : ∃ sF, (scRun (scNew, []) b).1 = sF := ⟨_, rfl⟩
          obtain ⟨fF, hfF⟩ : ∃ fF, (scRun (scNew, []) b).2 = fF := ⟨_, rfl⟩
          clear o67 hown7 hgrow7 hR7 HO6 HRf
          go_wp2_with (fail)
          refine HSA.out.mono ?_
          rintro e w8 ⟨rfl, G8⟩
          have HS1 := Lib.hid (seen_any S1 t _ w8 (hs17.out.below G8))
          go_wp2_with (fail)
          refine HS1.out.mono ?_
          rintro e w9 ⟨rfl, G9⟩
          have G89 := nxt G8 G9
          have HS2 := Lib.hid (seen_any S2 t _ w9 (hs27.out.below G89))
          go_wp2_with (fail)
          refine HS2.out.mono ?_
          rintro e w10 ⟨rfl, G10⟩
          have G810 := nxt G89 G10
          rw [hsF]
          unfold talV
          go_wp2_with (fail)
          have HRS := Lib.hid (reset_any S1 t _ w10 (hs17.out.below G810))
          refine HRS.out.mono ?_
          rintro e w11 ⟨rfl, hsN, oR⟩
          have o711 : Off (· = S1) w7 w11 := (Off.of_below G810).trans oR
          have T11 : Below w.heap.size w w11 := T7.trans (o711.below (fun i hi => by have hi : i = S1 := hi; omega) T7.size)
          have hB11 := HB.out.below T11
          have FE2 := Lib.hid (feed_any S1 t scNew A n c b w11 (ht7.out.off (X := (· = S1)) (by show ¬ (t.block = S1); omega) o711) (by omega) hsN hB11 (HB.out.av.imp (fun i hi => by have hi : i = S1 := hi; show w.heap.size ≤ i; omega)) (by omega) (by decide) (by decide) (by decide))
          have o711 := Lib.hid o711
          clear hsN hB11 oR
          go_wp2_with (fail)
          refine FE2.out.mono ?_
          rintro e w12 ⟨v12, rfl, hO12, hs12, hF12⟩
          have o712 := o711.out.trans hF12
          obtain ⟨P12, c12, hv12, hR12⟩ := hO12.shape
          subst hv12
          rw [hm8.out] at hR12 ⊢
          have T12 : Below w.heap.size w w12 := T7.trans (o712.below (fun i hi => by have hi : i = S1 := hi; omega) T7.size)
          have hR812 := hR87.out.off (X := (· = S1)) (fun i _ hi => by omega) o712
          have hs212 := hs27.out.off (X := (· = S1)) (by show ¬ (S2 = S1); omega) o712
          have HSA2 := Lib.hid (sameall_true P12 P8 m8 c12 m8 c8 _ w12 hR12.rws hR812.rws)
          have hs12 := Lib.hid hs12
          have hs212 := Lib.hid hs212
          clear hO12 hF12 o712 hR12 hR812
          go_wp2_with (fail)
          refine HSA2.out.mono ?_
          rintro e w13 ⟨rfl, G13⟩
          have HS3 := Lib.hid (seen_any S1 t _ w13 (hs12.out.below G13))
          go_wp2_with (fail)
          refine HS3.out.mono ?_
          rintro e w14 ⟨rfl, G14⟩
          have G1314 := nxt G13 G14
          have HS4 := Lib.hid (seen_any S2 t _ w14 (hs212.out.below G1314))
          go_wp2_with (fail)
          refine HS4.out.mono ?_
          rintro e w15 ⟨rfl, G15⟩
          have T15 := nxt T12 (nxt G1314 G15)
          rw [hsF]
          unfold talV
          go_wp2_with (fail)
          refine (live05_any _).mono ?_
          rintro e w16 ⟨rfl, G16⟩
          go_wp2_with (fail)
          go_ret
          exact ⟨rfl, nxt T15 G16⟩
end Go.Proofs.Ytldnomfjfipgiaa
