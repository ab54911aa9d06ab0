/- The walk of layer 21's HearerEnters, over the contracts of hearer. -/
import Derived.Test.YtpdnpfohcnpenaaEnF
import Derived.Test.YtpdnpfohcnpenaaMapC
import Derived.Deep.RegionHeld3
import Derived.IntWalk
namespace Go.Proofs.Ytpdnpfohcnpenaa
open Go.RowKit
set_option maxRecDepth 20000

/-- an object and a map of the law's own: they share no block -/
structure EnO (Q : World → (Nat → Prop) → Prop) (B mb n : Nat) (T : Int → Nat) (X : Nat → Prop) (w : World) : Prop where
  q : Q w X
  lt : ∀ k, X k → B ≤ k ∧ k < w.heap.size
  m : MapC w mb n T
  mx : ¬ X mb
  mB : B ≤ mb
  b : B ≤ w.heap.size
section
variable {Q Q' : World → (Nat → Prop) → Prop} {B mb n : Nat} {T : Int → Nat} {X X' : Nat → Prop} {w w' : World}
theorem EnO.below (HQ : Holds Q) (h : EnO Q B mb n T X w) (U : Below w.heap.size w w') : EnO Q B mb n T X w' :=
  ⟨HQ.below h.q U, fun k hk => ⟨(h.lt k hk).1, HQ.lt (HQ.below h.q U) k hk⟩, h.m.below U, h.mx, h.mB, Nat.le_trans h.b U.size⟩
theorem EnO.turn (HQ' : Holds Q') (h : EnO Q B mb n T X w) (q' : Q' w' X') (U : Turns X X' w w') : EnO Q' B mb n T X' w' ∧ Below B w w' := by
  have hg : ∀ k, X' k → B ≤ k := fun k hk => by
    rcases U.grow k hk with h1 | h1
    · exact (h.lt k h1).1
    · exact Nat.le_trans h.b h1
  refine ⟨⟨q', fun k hk => ⟨hg k hk, HQ'.lt q' k hk⟩, h.m.off U.off h.mx, fun hy => ?_, h.mB, Nat.le_trans h.b U.off.size⟩, U.off.below (fun k hk => (h.lt k hk).1) h.b⟩
  rcases U.grow mb hy with h1 | h1
  · exact h.mx h1
  · have := h.m.lt; omega
theorem EnO.marked (HQ : Holds Q) (h : EnO Q B mb n T X w) {n' : Nat} {T' : Int → Nat} (hm : MapC w' mb n' T') (hg : w.grownBy w' (some mb)) : EnO Q B mb n' T' X w' ∧ Below B w w' := by
  have O : Off (· = mb) w w' := (Off.refl _ w).grown hg (fun k hk => .inl (by injection hk with hk; exact hk.symm))
  have q' := HQ.off h.q O (fun k hx e => h.mx (e ▸ hx))
  exact ⟨⟨q', fun k hk => ⟨(h.lt k hk).1, HQ.lt q' k hk⟩, hm, h.mx, h.mB, Nat.le_trans h.b O.size⟩, O.below (fun k hk => by subst hk; exact h.mB) h.b⟩
theorem EnO.mk0 (HQ : Holds Q) (q : Q w X) (hx : ∀ k, X k → B ≤ k) (hB : B ≤ w.heap.size) : EnO Q B w.heap.size 0 (fun _ => 0) X (w.alloc (.map #[] 0)) ∧ Below w.heap.size w (w.alloc (.map #[] 0)) := by
  have U := (Below.refl _ w).alloc (Nat.le_refl _) (.map #[] 0)
  have q' := HQ.below q U
  exact ⟨⟨q', fun k hk => ⟨hx k hk, HQ.lt q' k hk⟩, MapC.made w, fun h => by have := HQ.lt q _ h; omega, hB, Nat.le_trans hB U.size⟩, U⟩
theorem EnO.one (h : EnO Q B mb n T X w) : OneAt B Q X w := ⟨h.q, fun k hk => (h.lt k hk).1, h.b⟩
end
theorem lit1e (w : World) (c : UInt8) : Bys (w.alloc (.cells #[.int .u8 (c.toNat : Int)] 5)) (some ⟨w.heap.size, 0, none⟩) 1 1 [c] := Bys.lit w [c] (by simp)
set_option maxHeartbeats 16000000 in
theorem walk_HearerEnters {F : Nat → Hs → World → (Nat → Prop) → Prop} (C : HeC F) (bg : Nat) (A : Option Addr) (n c : Nat) (os : List UInt8) (A' : Option Addr) (n' c' : Nat) (m : List UInt8) (w : World) (hbg : bg < 18446744073709551616) (hA : Bys w A n c os) (hA' : Bys w A' n' c' m) :
    Calls Try.prog 4 #[.int .u64 (bg : Int), .slice A n c, .slice A' n' c'] w fun e w' => e = .returned (.bool true) ∧ Below w.heap.size w w' := by
  have HL := Lib.hid (fun W => live21_any C W)
  have HN := Lib.hid num21_any
  have hl := hA.len
  have hl' := hA'.len
  have hnc := hA.le
  by_cases h0 : 20 < bg
  · have d0 : decide ((20 : Int) < (bg : Int)) = true := by simp; omega
    clear h0 hA hA'
    go_enter Try.func4, Try.ntmps4
    go_wp2_with (fail)
    refine (HL.out _).mono ?_
    rintro e w2 ⟨rfl, T2⟩
    go_wp2
    go_ret
    exact ⟨rfl, T2⟩
  have d0 : decide ((20 : Int) < (bg : Int)) = false := by simp; omega
  by_cases h1 : 20 < n
  · have d1 : decide ((20 : Int) < (n : Int)) = true := by simp; omega
    clear h0 h1 hA hA'
    go_enter Try.func4, Try.ntmps4
    go_wp2_with (fail)
    refine (HL.out _).mono ?_
    rintro e w2 ⟨rfl, T2⟩
    go_wp2
    go_ret
    exact ⟨rfl, T2⟩
  have d1 : decide ((20 : Int) < (n : Int)) = false := by simp; omega
  by_cases h2 : 64 < n'
  · have d2 : decide ((64 : Int) < (n' : Int)) = true := by simp; omega
    clear h0 h1 h2 hA hA'
    go_enter Try.func4, Try.ntmps4
    go_wp2_with (fail)
    refine (HL.out _).mono ?_
    rintro e w2 ⟨rfl, T2⟩
    go_wp2
    go_ret
    exact ⟨rfl, T2⟩
  have d2 : decide ((64 : Int) < (n' : Int)) = false := by simp; omega
  have hb20 : bg ≤ 20 := by omega
  have hn20 : n ≤ 20 := by omega
  have hm : m.length ≤ 64 := by omega
  have HB := Lib.hid (fun W (U : Below w.heap.size w W) => hA.below U)
  have HB' := Lib.hid (fun W (U : Below w.heap.size w W) => hA'.below U)
  have hav' : ∀ Z : Nat → Prop, (∀ k, Z k → w.heap.size ≤ k) → Av Z n' A' := fun Z hZ hn p e hx => by
    obtain ⟨b9, o9, e', hb9, _⟩ := hA'.at_ hn
    rw [e] at e'
    injection e' with e'
    subst e'
    have : w.heap.size ≤ b9 := hZ _ hx
    omega
  have HLN := Lib.hid hl
  have HV := Lib.hid hav'
  have G1 := Lib.hid (C.new_yes 2 bg w (by omega) (by omega) hbg)
  have G2 := Lib.hid (fun (j : Nat) (hj : j < 60) (g : Nat) (W : World) (X : Nat → Prop) (h : F g (eT bg j) W X) => by
    have q := C.tick g (eT bg j) W X h (eT_ok bg j hb20 (by omega))
    rw [(eT_tick bg j hb20 hj).1, (eT_tick bg j hb20 hj).2] at q
    exact q)
  have hbig : ∀ u al, ERows bg u al → u ≤ 70 → ∀ (lb : Int) (d : List UInt8), (eS bg u al).al.length < 1000 ∧ alCount (eS bg u al).al lb d < 1000000 ∧ (eS bg u al).ent < 1000000 := fun u al hr hu lb d => by
    refine ⟨by have := hr.1; show al.length < 1000; omega, ?_, by show 0 < 1000000; omega⟩
    have := alCount_le (l := al) (j := bg) (fun t ht => (hr.2 t ht).1) lb d
    show alCount al lb d < 1000000
    omega
  have G3 := Lib.hid (fun (u : Nat) (al : List Tal) (hu : u < bg + 60) (hu7 : u ≤ 69) (hr : ERows bg u al) (d : List UInt8) (hd : d.length ≤ 64) (hc : alCount al 0 d < bg) (D : Option Addr) (k kc : Nat) (g : Nat) (W : World) (X : Nat → Prop) (hD : Bys W D k kc d) (hav : Av X k D) (h : F g (eS bg u al) W X) => by
    obtain ⟨b1, b2, b3⟩ := hbig u al hr (by omega) 0 d
    have q := C.take g (eS bg u al) 3 0 D k kc d W X h (eS_ok hb20 (by omega) hr) b1 b2 b3 ⟨by omega, by omega⟩ ⟨by omega, by omega⟩ hD hav (fun _ => by have := hD.len; omega)
    rw [(eS_add bg u al d hb20 hu hr hd hc).1] at q
    exact q)
  have G4 := Lib.hid (fun (u : Nat) (al : List Tal) (hu : u < bg + 60) (hu7 : u ≤ 69) (hr : ERows bg u al) (g : Nat) (W : World) (X : Nat → Prop) (U : Below w.heap.size w W) (hX : ∀ k, X k → w.heap.size ≤ k) (h : F g (eS bg u al) W X) => by
    obtain ⟨b1, b2, b3⟩ := hbig u al hr (by omega) 1 m
    have q := C.take g (eS bg u al) 3 1 A' n' c' m W X h (eS_ok hb20 (by omega) hr) b1 b2 b3 ⟨by omega, by omega⟩ ⟨by omega, by omega⟩ (hA'.below U) (hav' X hX) (fun _ => by omega)
    rw [eS_one bg u al m hb20 hu] at q
    exact q)
  have G5 := Lib.hid (fun (u : Nat) (al : List Tal) (hu : u < bg + 60) (hu7 : u ≤ 69) (hr : ERows bg u al) (hc : alCount al 0 m = bg) (g : Nat) (W : World) (X : Nat → Prop) (U : Below w.heap.size w W) (hX : ∀ k, X k → w.heap.size ≤ k) (h : F g (eS bg u al) W X) => by
    obtain ⟨b1, b2, b3⟩ := hbig u al hr (by omega) 0 m
    have q := C.take g (eS bg u al) 3 0 A' n' c' m W X h (eS_ok hb20 (by omega) hr) b1 b2 b3 ⟨by omega, by omega⟩ ⟨by omega, by omega⟩ (hA'.below U) (hav' X hX) (fun _ => by omega)
    rw [eS_enter bg u al m hb20 hu hr hm hc] at q
    exact q)
  have G6 : Hid (∀ u al g W X, F g (eS bg u al) W X → Calls Try.prog 21 #[.pointer (some ⟨g, 0, none⟩)] W fun e w' => (∃ (y x z : Int) (q : Bool), e = .returned (.agg #[.int .i64 0, .int .i64 y, .int .u64 x, .int .u64 z, .bool q])) ∧ Below W.heap.size W w') := fun u al g W X h => (C.state g (eS bg u al) W X h).mono (fun _ _ ⟨h1, h2⟩ => ⟨⟨_, _, _, _, h1⟩, h2⟩)
  have G7 : Hid (∀ u g W X, F g (eM bg u m) W X → Calls Try.prog 21 #[.pointer (some ⟨g, 0, none⟩)] W fun e w' => (∃ (y x : Int) (q : Bool), e = .returned (.agg #[.int .i64 1, .int .i64 y, .int .u64 x, .int .u64 x, .bool q])) ∧ Below W.heap.size W w') := fun u g W X h => (C.state g (eM bg u m) W X h).mono (fun _ _ ⟨h1, h2⟩ => ⟨⟨_, _, _, h1⟩, h2⟩)
  have G8 : Hid (∀ u g W X, F g (eM bg u m) W X → Calls Try.prog 17 #[.pointer (some ⟨g, 0, none⟩)] W (GivesRf (F g (heRecv (eM bg u m))) X m true W)) := fun u g W X h => C.recv g (eM bg u m) W X h (eM_ok hb20 hm) (by show 1 < 1000000; omega) (by show 0 < 1000000; omega)
  have hf0 : ∀ (W : World) (x y : Int) (u v : Int) (q : Bool), (Instr.field 50 (.agg #[.int .i64 x, .int .i64 y, .int .u64 u, .int .u64 v, .bool q]) 0).run Try.prog W = .ok (.int .i64 x) W := fun _ _ _ _ _ _ => by kernel_rfl
  have hmm := @run_makeMap Try.prog
  have HADD := Lib.hid (fun (u : Nat) (al : List Tal) (hu : u < bg + 60) (hr : ERows bg u al) (d : List UInt8) (hd : d.length ≤ 64) (hc : alCount al 0 d < bg) => (eS_add bg u al d hb20 hu hr hd hc).2)
  clear h0 h1 h2 hA hA' hav' hl hl' hbig
  go_enter Try.func4, Try.ntmps4
  go_wp2_with (fail)
  refine G1.out.mono ?_
  rintro e w1 ⟨g, X0, rfl, q1, x1, T1⟩
  have O1 : Hid (OneAt w.heap.size (F g (eT bg 0)) X0 w1) := ⟨q1, x1, T1.size⟩
  clear q1 x1
  go_wp2_with (fail)
  refine (HN.out _ _).mono ?_
  rintro e w2 ⟨rfl, rfl⟩
  go_wp2_with (fail)
  go_loopw [9] (fun i wr => ∃ (j : Nat) (X : Nat → Prop), j ≤ 60 ∧ i = .int .i64 (j : Int) ∧ Hid (OneAt w.heap.size (F g (eT bg j)) X wr) ∧ Below w.heap.size w wr) (fun i _ => 60 - (intOf i).toNat)
  case atStart => exact ⟨0, X0, Nat.zero_le _, rfl, O1, T1⟩
  case round =>
    clear O1 T1 G1
    obtain ⟨j, X, hj, rfl, O, hbel⟩ := hrel
    by_cases hlt : j < 60
    · have dj : decide ((j : Int) < 60) = true := by simp; omega
      go_wp2_with (fail)
      refine (G2.out j hlt g _ X O.out.p).mono ?_
      rintro e w4 ⟨At4, nt4, ct4, X4, rfl, p4, q4, t4⟩
      obtain rfl : 1 = nt4 := p4.len
      obtain ⟨o4, b4⟩ := O.out.turn (P' := F g (eT bg (j + 1))) q4 t4
      have O4 := Lib.hid o4
      have U4 := hbel.trans b4
      clear q4 t4 o4 b4 p4 O hbel
      go_wp2
      go_roundw
      case rel => exact ⟨j + 1, _, by omega, by go_num, O4.out, U4⟩
      case measure => simp [intOf]; omega
    · obtain rfl : j = 60 := by omega
      have O2 : Hid (OneAt w.heap.size (F g (eS bg 0 [])) X wr) := O.out
      obtain ⟨mo, mu⟩ := EnO.mk0 (C.holds _ _) O2.out.p O2.out.2.1 O2.out.2.2
      have EO := Lib.hid mo
      have U2 := nxt hbel mu
      clear mo mu O
      clear O2 hbel G2
      go_wp2_with (fail)
      generalize wr.alloc (.map #[] 0) = w2 at *
      generalize wr.heap.size = mb at *
      go_loopw [11] (fun iv wz => ∃ (i u cnt : Nat) (al : List Tal) (T : Int → Nat) (Z : Nat → Prop), i ≤ n ∧ iv = .int .i64 (i : Int) ∧ Hid (u ≤ 2 * i ∧ cnt ≤ i ∧ ERows bg u al ∧ (∀ t ∈ al, t.2.1 ≠ m) ∧ (∀ c : UInt8, T (c.toNat : Int) = alCount al 0 [c])) ∧ Hid (EnO (F g (eS bg u al)) w.heap.size mb cnt T Z wz) ∧ Below w.heap.size w wz) (fun iv _ => n - (intOf iv).toNat)
      case atStart => exact ⟨0, 0, 0, [], _, X, Nat.zero_le _, rfl, ⟨Nat.zero_le _, Nat.zero_le _, ⟨Nat.zero_le _, fun t ht => by cases ht⟩, (fun t ht => by cases ht), fun c => rfl⟩, EO, U2⟩
      case round =>
        clear EO U2
        obtain ⟨i, u, cnt, al, T, Z, hi, rfl, HI, E, hbel⟩ := hrel
        by_cases hlt : i < n
        · have dj : decide ((i : Int) < (n : Int)) = true := by simp; omega
          have hin : (i : Int) < (n : Int) := by omega
          have hbw := HB.out _ hbel
          obtain ⟨b, o, rfl, hb, hcell⟩ := hbw.at_ (by omega)
          have hil : i < os.length := by rw [HLN.out]; exact hlt
          have c0 := hcell i hil
          clear hcell hbw
          generalize os[i] = ch at *
          have hch : ch.toNat < 256 := ch.toNat_lt
          obtain ⟨hu, hcnt, hr, hne, htab⟩ := HI.out
          have htc := htab ch
          obtain ⟨tc, htc2⟩ : ∃ tc, T (ch.toNat : Int) = tc := ⟨_, rfl⟩
          rw [htc2] at htc
          have look := E.out.m.look (ch.toNat : Int) ⟨by omega, by omega⟩
          rw [htc2] at look
          have htc64 : tc < 18446744073709551616 := by
            rw [htc]
            have := alCount_le (l := al) (j := bg) (fun t ht => (hr.2 t ht).1) 0 [ch]
            omega
          have H4 := Lib.hid (G4.out u al (by omega) (by omega) hr)
          have HR := Lib.hid hr
          have HNE := Lib.hid hne
          have HTAB := Lib.hid htab
          have HTC := Lib.hid htc
          clear hr hne htab htc HI
          by_cases hcb : tc < bg
          · have dc : decide ((tc : Int) < (bg : Int)) = true := by simp; omega
            have V0 := (Below.refl _ wr).alloc (Nat.le_refl _) (.cells #[.int .u8 (ch.toNat : Int)] 5)
            have L0 := lit1e wr ch
            have hSA := same_any A' _ n' c' _ _ m [ch] _ (HB'.out _ (nxt hbel V0)) L0
            have HV0 := Lib.hid V0
            clear V0 L0
            by_cases hmc : m = [ch]
            · rw [sameB_eq hmc] at hSA
              have HSA := Lib.hid hSA
              clear hSA hmc
              go_wp2_with (fail)
              refine HSA.out.mono ?_
              rintro e w3 ⟨rfl, kk, rfl⟩
              have V1 := below_drewN' HV0.out kk
              have E1 := Lib.hid (E.out.below (C.holds _ _) V1)
              have hb1 := nxt hbel V1
              clear V1 look c0
              go_wp2_with (fail)
              refine (H4.out g _ _ hb1 (fun k hk => (E1.out.lt k hk).1) E1.out.q).mono ?_
              rintro e w9 ⟨A9, n9, c9, Z9, rfl, -, q9, t9⟩
              obtain ⟨o9, b9⟩ := E1.out.turn (Q' := F g (eS bg (u + 1) al)) (C.holds _ _) q9 t9
              have O9 := Lib.hid o9
              have U9 := (hb1).trans b9
              clear q9 t9 o9 b9
              go_wp2
              refine ⟨?_, ?measure⟩
              (repeat apply Exists.intro)
              refine ⟨?rel, rfl⟩
              case rel => exact ⟨i + 1, u + 1, cnt, al, T, Z9, by omega, by go_num, ⟨by omega, by omega, ⟨by have := HR.out.1; omega, HR.out.2⟩, HNE.out, HTAB.out⟩, O9.out, U9⟩
              case measure => simp [intOf]; omega
            · have hs0 : sameB m [ch] = false := by cases hx : sameB m [ch] with | false => rfl | true => exact absurd ((sameB_iff _ _).1 hx) hmc
              rw [hs0] at hSA
              have HSA := Lib.hid hSA
              have G3a := Lib.hid (G3.out u al (by omega) (by omega) HR.out [ch] (by simp) (by have := HTC.out; omega))
              have HR2 := Lib.hid (HADD.out u al (by omega) HR.out [ch] (by simp) (by have := HTC.out; omega))
              have H4b := Lib.hid (G4.out (u + 1) (alAdd al 0 [ch]) (by omega) (by omega) HR2.out)
              have hw1 : IntKind.u64.wrap ((tc : Int) + 1) = ((tc + 1 : Nat) : Int) := by rw [IntWalk.u64_in _ (by omega)]; omega
              obtain ⟨td, htd⟩ : ∃ td, tc + 1 = td := ⟨_, rfl⟩
              rw [htd] at hw1
              clear hSA hs0
              go_wp2_with (fail)
              refine HSA.out.mono ?_
              rintro e w3 ⟨rfl, kk, rfl⟩
              have V1 := below_drewN' HV0.out kk
              have E1 := Lib.hid (E.out.below (C.holds _ _) V1)
              have hb1 := nxt hbel V1
              have look1 := E1.out.m.look (ch.toNat : Int) ⟨by omega, by omega⟩
              rw [htc2] at look1
              obtain ⟨w4, hrun, hset, hgr⟩ := E1.out.m.put (by unfold maxLen; omega) (ch.toNat : Int) ⟨by omega, by omega⟩ td (by omega)
              obtain ⟨k1, k2⟩ := E1.out.marked (C.holds _ _) hset hgr
              have E2 := Lib.hid k1
              have hb2 := hb1.trans k2
              clear hset hgr k1 k2 V1 look c0 HSA
              generalize hwx : (wr.alloc (.cells #[.int .u8 (ch.toNat : Int)] 5)).drewN kk = wx at *
              go_wp2_with (fail)
              have V5 := (Below.refl _ w4).alloc (Nat.le_refl _) (.cells #[.int .u8 (ch.toNat : Int)] 5)
              have E5 := Lib.hid (E2.out.below (C.holds _ _) V5)
              have hb5 := nxt hb2 V5
              have av5 : Hid (Av Z 1 (some ⟨w4.heap.size, 0, none⟩)) := Av.of (fun hx => by have := (E2.out.lt _ hx).2; omega)
              refine (G3a.out _ _ _ g _ Z (lit1e w4 ch) av5.out E5.out.q).mono ?_
              rintro e w6 ⟨A6, n6, c6, Z6, rfl, -, q6, t6⟩
              obtain ⟨o6, b6⟩ := E5.out.turn (Q' := F g (eS bg (u + 1) (alAdd al 0 [ch]))) (C.holds _ _) q6 t6
              have E6 := Lib.hid o6
              have hb6 := hb5.trans b6
              clear q6 t6 o6 b6 V5 av5
              have FN : Hid (u + 1 + 1 ≤ 2 * (i + 1) ∧ cnt + 1 ≤ i + 1 ∧ ERows bg (u + 1 + 1) (alAdd al 0 [ch]) ∧ (∀ t ∈ alAdd al 0 [ch], t.2.1 ≠ m) ∧ (∀ x : UInt8, (fun j => if j = (ch.toNat : Int) then td else T j) (x.toNat : Int) = alCount (alAdd al 0 [ch]) 0 [x])) := by
                refine ⟨by omega, by omega, ⟨by have := HR2.out.1; omega, HR2.out.2⟩, fun t ht => ?_, fun x => ?_⟩
                · rcases alAdd_mem al 0 [ch] t ht with h | h
                  · exact HNE.out t h
                  · subst h
                    exact fun e => hmc e.symm
                · rw [alCount_add]
                  by_cases hx : ch = x
                  · subst hx
                    rw [if_pos ⟨rfl, rfl⟩]
                    show (if (ch.toNat : Int) = (ch.toNat : Int) then td else _) = _
                    rw [if_pos rfl, ← HTC.out, htd]
                  · rw [if_neg (fun e => hx (by have := e.2; simpa using this))]
                    show (if (x.toNat : Int) = (ch.toNat : Int) then td else T (x.toNat : Int)) = _
                    rw [if_neg (fun e => hx (UInt8.toNat_inj.1 (by omega)))]
                    exact HTAB.out x
              go_wp2_with (fail)
              refine (H4b.out g _ _ hb6 (fun k hk => (E6.out.lt k hk).1) E6.out.q).mono ?_
              rintro e w9 ⟨A9, n9, c9, Z9, rfl, -, q9, t9⟩
              obtain ⟨o9, b9⟩ := E6.out.turn (Q' := F g (eS bg ((u + 1) + 1) (alAdd al 0 [ch]))) (C.holds _ _) q9 t9
              have O9 := Lib.hid o9
              have U9 := (hb6).trans b9
              clear q9 t9 o9 b9
              go_wp2
              refine ⟨?_, ?measure⟩
              (repeat apply Exists.intro)
              refine ⟨?rel, rfl⟩
              case rel => exact ⟨i + 1, (u + 1) + 1, (cnt + 1), (alAdd al 0 [ch]), (fun j => if j = (ch.toNat : Int) then td else T j), Z9, by omega, by go_num, FN.out, O9.out, U9⟩
              case measure => simp [intOf]; omega
          · have dc : decide ((tc : Int) < (bg : Int)) = false := by simp; omega
            go_wp2_with (fail)
            refine (H4.out g _ _ hbel (fun k hk => (E.out.lt k hk).1) E.out.q).mono ?_
            rintro e w9 ⟨A9, n9, c9, Z9, rfl, -, q9, t9⟩
            obtain ⟨o9, b9⟩ := E.out.turn (Q' := F g (eS bg (u + 1) al)) (C.holds _ _) q9 t9
            have O9 := Lib.hid o9
            have U9 := (hbel).trans b9
            clear q9 t9 o9 b9
            go_wp2
            refine ⟨?_, ?measure⟩
            (repeat apply Exists.intro)
            refine ⟨?rel, rfl⟩
            case rel => exact ⟨i + 1, u + 1, cnt, al, T, Z9, by omega, by go_num, ⟨by omega, by omega, ⟨by have := HR.out.1; omega, HR.out.2⟩, HNE.out, HTAB.out⟩, O9.out, U9⟩
            case measure => simp [intOf]; omega
        · obtain rfl : i = n := by omega
          have dj : decide ((i : Int) < (i : Int)) = false := by simp
          obtain ⟨hu, hcnt, hr, hne, -⟩ := HI.out
          have HI0 : Hid (u ≤ 40 + 0 ∧ ERows bg u al ∧ alCount al 0 m = 0) := ⟨by omega, hr, alCount_none al 0 m hne⟩
          have EO := Lib.hid E.out.one
          clear hu hcnt hr hne HI E
          go_wp2_with (fail)
          go_loopw [13] (fun iv wr => ∃ (j u : Nat) (al : List Tal) (Z : Nat → Prop), j ≤ bg ∧ iv = .int .u64 (j : Int) ∧ Hid (u ≤ 40 + j ∧ ERows bg u al ∧ alCount al 0 m = j) ∧ Hid (OneAt w.heap.size (F g (eS bg u al)) Z wr) ∧ Below w.heap.size w wr) (fun iv _ => bg - (intOf iv).toNat)
          case atStart => exact ⟨0, u, al, Z, Nat.zero_le _, rfl, HI0, EO, hbel⟩
          case round =>
            clear HI0 EO hbel
            obtain ⟨j, u, al, Z, hj, rfl, HI, O, hbel⟩ := hrel
            obtain ⟨hu, hr, hc⟩ := HI.out
            by_cases hlt : j < bg
            · have dk : decide ((j : Int) < (bg : Int)) = true := by simp; omega
              have hw1 : IntKind.u64.wrap ((j : Int) + 1) = (j : Int) + 1 := IntWalk.u64_in _ (by omega)
              have G3a := Lib.hid (G3.out u al (by omega) (by omega) hr m hm (by omega) A' n' c' g _ Z (HB'.out _ hbel) (HV.out Z O.out.2.1) O.out.p)
              have HR2 : Hid (u + 1 ≤ 40 + (j + 1) ∧ ERows bg (u + 1) (alAdd al 0 m) ∧ alCount (alAdd al 0 m) 0 m = j + 1) := ⟨by omega, HADD.out u al (by omega) hr m hm (by omega), by rw [alCount_add, if_pos ⟨rfl, rfl⟩, hc]⟩
              clear hr hc HI
              go_wp2_with (fail)
              refine G3a.out.mono ?_
              rintro e w6 ⟨A6, n6, c6, Z6, rfl, -, q6, t6⟩
              obtain ⟨o6, b6⟩ := O.out.turn (P' := F g (eS bg (u + 1) (alAdd al 0 m))) q6 t6
              have O6 := Lib.hid o6
              have U6 := hbel.trans b6
              clear q6 t6 o6 b6 G3a O hbel
              go_wp2
              refine ⟨?_, ?measure⟩
              (repeat apply Exists.intro)
              refine ⟨?rel, rfl⟩
              case rel => exact ⟨j + 1, u + 1, alAdd al 0 m, Z6, by omega, by go_num, HR2.out, O6.out, U6⟩
              case measure => simp [intOf]; omega
            · obtain rfl : j = bg := by omega
              have dk : decide ((j : Int) < (j : Int)) = false := by simp
              have G5a := Lib.hid (G5.out u al (by omega) (by omega) hr hc g)
              clear hr hc HI
              go_wp2_with (fail)
              refine (G6.out u al g _ Z O.out.p).mono ?_
              rintro e w6 ⟨⟨y6, x6, z6, b6, rfl⟩, T6⟩
              have O6 := Lib.hid (O.out.below (C.holds _ _) T6)
              have U6 := nxt hbel T6
              clear T6 O hbel
              go_wp2_with (fail)
              refine (G5a.out _ Z U6 O6.out.2.1 O6.out.p).mono ?_
              rintro e w7 ⟨A7, n7, c7, Z7, rfl, -, q7, t7⟩
              obtain ⟨o7, b7⟩ := O6.out.turn (P' := F g (eM j (u + 1) m)) q7 t7
              have O7 := Lib.hid o7
              have U7 := U6.trans b7
              clear q7 t7 o7 b7 U6 O6
              go_wp2_with (fail)
              refine (G7.out (u + 1) g _ Z7 O7.out.p).mono ?_
              rintro e w8 ⟨⟨y8, x8, b8, rfl⟩, T8⟩
              have V9 := (Below.refl _ w8).alloc (Nat.le_refl _) (.cells #[.int .i64 1, .int .i64 y8, .int .u64 x8, .int .u64 x8, .bool b8] 50)
              have hrow := heap_alloc_new w8 (.cells #[.int .i64 1, .int .i64 y8, .int .u64 x8, .int .u64 x8, .bool b8] 50)
              have T9 := nxt T8 V9
              have O9 := Lib.hid (O7.out.below (C.holds _ _) T9)
              have U9 := nxt U7 T9
              obtain ⟨sb, hsb⟩ : ∃ sb, w8.heap.size = sb := ⟨_, rfl⟩
              rw [hsb] at hrow
              have hns : ¬ Z7 sb := fun hx => by have := (C.holds _ _).lt ((C.holds _ _).below O7.out.p T8) _ hx; omega
              have HR9 := Lib.hid hrow
              have HNS := Lib.hid hns
              clear hns T8 V9 T9 O7 U7 hrow
              go_wp2_with (fail)
              generalize w8.alloc (.cells #[.int .i64 1, .int .i64 y8, .int .u64 x8, .int .u64 x8, .bool b8] 50) = w9 at *
              refine (G8.out (u + 1) g _ Z7 O9.out.p).mono ?_
              rintro e w10 ⟨An, nn, cn, X10, rfl, bn, an, -, q10, t10⟩
              have HR10 := (t10.off.block sb (lt_row HR9.out) HNS.out).trans HR9.out
              obtain ⟨o10, b10⟩ := O9.out.turn (P' := F g (heRecv (eM j (u + 1) m))) q10 t10
              have U10 := U9.trans b10
              have HS1 := Lib.hid (same_true _ _ _ _ _ _ _ _ bn (HB'.out _ U10))
              obtain ⟨z0, z1, z2, z3, -⟩ := row5 HR10
              have nx : ((x8 : Int) == x8) = true := by simp
              clear q10 t10 o10 b10 bn an U9 O9 HR9 HNS HR10
              go_wp2_with (fail)
              refine HS1.out.mono ?_
              rintro e w12 ⟨rfl, T12⟩
              have U12 := nxt U10 T12
              go_wp2_with (fail)
              refine (HL.out _).mono ?_
              rintro e w14 ⟨rfl, T14⟩
              have U14 := nxt U12 T14
              go_wp2
              go_ret
              exact ⟨rfl, U14⟩
end Go.Proofs.Ytpdnpfohcnpenaa
