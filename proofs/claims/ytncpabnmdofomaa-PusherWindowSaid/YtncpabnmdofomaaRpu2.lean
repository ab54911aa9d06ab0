/- What kedgeref24's slide, on, Tick answer. -/
import Derived.Test.YtncpabnmdofomaaRpu
import Derived.Deep.RegionHeld3
namespace Go.Proofs.Ytncpabnmdofomaa
open Go.RowKit
set_option maxRecDepth 20000

set_option maxHeartbeats 8000000 in
theorem rpslide_any (g gt : Nat) (v : Value) (s : Pus) (Xt Xl : Nat → Prop) (i : Nat) (w : World) (h : RPv g gt v s Xt Xl w) (hm : 1 ≤ s.c.m ∧ s.c.m ≤ 65536) (hi : i < s.ls.length) (hi6 : i < 1000000) (hall : ∀ m ∈ s.ls, m.length ≤ 64) :
    Calls Try.prog 36 #[.pointer (some ⟨g, 0, none⟩), .int .i64 (i : Int)] w fun e w' => ∃ A c, e = .returned (.agg #[.bool false, .int .i64 (rgMod i s.c.m), .int .u64 0, .slice A (s.ls[i]).length c]) ∧ Fre w' (· < w.heap.size) A (s.ls[i]).length c s.ls[i] ∧ Below w.heap.size w w' := by
  obtain ⟨⟨_, c2, _⟩, c7, _, _, _, _⟩ := h.cells
  obtain ⟨P, pc, rfl, hp1, hp2, hR⟩ := h.lst
  obtain ⟨b, o, A, d, rfl, hb, hk1, hc, hB⟩ := hR.at_ i hi
  have hlt := lt_row h.1
  have hall' := hall _ (List.getElem_mem hi)
  have HMD := Lib.hid (fun W => rrmod_any (i : Int) s.c.m W (by unfold J64; omega) (by unfold J64; omega))
  have HCP := Lib.hid (fun W (U : Below w.heap.size w W) => rcopy_any A _ d s.ls[i] W (hB.below U) (by omega))
  have HC : Hid (∀ W, Below w.heap.size w W → W.cell? ⟨g, 2, none⟩ = some (.int .i64 s.c.m) ∧ W.cell? ⟨g, 7, none⟩ = some (.slice (some ⟨b, o, none⟩) s.ls.length pc) ∧ W.cell? ⟨b, o + i, none⟩ = some (.slice A s.ls[i].length d)) := fun W U =>
    ⟨(U.cell (p := ⟨g, 2, none⟩) hlt).trans c2, (U.cell (p := ⟨g, 7, none⟩) hlt).trans c7, (U.cell (p := ⟨b, o + i, none⟩) hb).trans hc⟩
  have T0 := (Below.refl _ w).alloc (Nat.le_refl _) (.cells #[.bool false, .int .i64 0, .int .u64 0, .slice none 0 0] 38)
  have n0 := heap_alloc_new w (.cells #[.bool false, .int .i64 0, .int .u64 0, .slice none 0 0] 38)
  have HT0 := Lib.hid T0
  have HN0 := Lib.hid n0
  clear h hR hB hc c2 c7 T0 n0 hall
  generalize rgMod (i : Int) s.c.m = rm at *
  generalize s.ls[i] = x at *
  generalize s.ls.length = N at *
  obtain ⟨L, hL⟩ : ∃ L, x.length = L := ⟨_, rfl⟩
  rw [hL] at HCP HC hall'
  have HLL := Lib.hid hL
  rw [hL]
  clear hL
  have hi0 : (0 : Int) ≤ (i : Int) := by omega
  have hi1 : (i : Int) < (N : Int) := by omega
  generalize s.c.m = cm at *
  go_enter Try.func36, Try.ntmps36
  go_wp2_with (fail)
  generalize w.alloc (.cells #[.bool false, .int .i64 0, .int .u64 0, .slice none 0 0] 38) = W1 at *
  have P0 := Lib.hid (Below.refl W1.heap.size W1)
  have hW1 := lt_row HN0.out
  go_region_held3 (fun w' => w'.cell? ⟨g, 2, none⟩ = some (.int .i64 cm) ∧ w'.cell? ⟨g, 7, none⟩ = some (Value.slice (some ⟨b, o, none⟩) N pc) ∧ w'.cell? ⟨b, o + i, none⟩ = some (Value.slice A L d)) (first | (with_reducible exact HC.out _ HT0.out) | (with_reducible exact HC.out _ HT0.out.drew) | (with_reducible exact HC.out _ HT1.out) | (with_reducible exact HC.out _ HT2.out) | exact HC.out _ HT0.out)
    (first
      | (go_at_call 49; (with_reducible refine (HMD.out _).mono ?_); rintro e w2 ⟨rfl, rfl⟩)
      | (go_at_call 30; (with_reducible refine (HCP.out _ (by first | exact HT0.out | exact HT0.out.drew)).mono ?_); rintro e w2 ⟨v1, rfl, hw1, U2⟩; obtain ⟨A1, cA, rfl⟩ := own_shape hw1; have P1 : Hid (Below W1.heap.size W1 w2) := (by first | exact U2 | exact undrew U2); have HF : Hid (Fre w2 (fun k => k < W1.heap.size) A1 L cA x) := (by have h := Fre.of_own hw1; rw [HLL.out] at h; exact h); have HT1 := Lib.hid (HT0.out.trans (P1.out.mono HT0.out.size)); have HN1 := Lib.hid ((P1.out.block _ hW1).trans HN0.out); obtain ⟨⟨k0, k1, k2, k3⟩, f0, f1, f2, f3⟩ := row4 HN1.out; clear hw1; rw [HLL.out]; have HT2 := Lib.hid (below4 HT1.out (Nat.le_refl _) (.bool false) (.int .i64 rm) (.int .u64 0) (.slice A1 L cA))))
  all_goals
    go_wp2_with (fail)
    refine bodyPost_ret (v := .agg #[.bool false, .int .i64 rm, .int .u64 0, .slice A1 L cA]) (results_cell_row rfl _ _ w.heap.size 38 #[.bool false, .int .i64 rm, .int .u64 0, .slice A1 L cA] (0, 0) _ rfl (stored4 HN1.out _ _ _ _) Try.underlying38 rfl (by kernel_rfl)) rfl ?_
    have hs1 := HT0.out.size
    exact ⟨A1, cA, rfl, (HF.out.off (off4 w2 w.heap.size _ _ _ _) (fun k hk => by subst hk; exact hW1)).imp (fun k hk => by show k < _; omega), HT2.out⟩
/-- where a pointer's number stands -/
def nxtOf (g : Nat) (w : World) : Nat := match w.cell? ⟨g, 9, none⟩ with | some v => (intOf v).toNat | none => 0
set_option maxHeartbeats 16000000 in
theorem rpon_any (g gt : Nat) (v : Value) (s : Pus) (Xt Xl : Nat → Prop) (w : World) (h : RPv g gt v s Xt Xl w) (hok : PsOk s) (hb : s.ls.length ≤ 100000) :
    Calls Try.prog 31 #[.pointer (some ⟨g, 0, none⟩)] w fun e w' => ∃ vo Xt', e = .returned vo ∧ Out w (Tri g Xt' Xl) vo (puOnL s) w' ∧ RPv g gt v (puOn s) Xt' Xl w' ∧ Turns (Tri g Xt Xl) (Tri g Xt' Xl) w w' := by
  have HOK := Lib.hid hok
  have HH := Lib.hid h
  have hgw := lt_row h.1
  clear h hok
  go_enter Try.func31, Try.ntmps31
  go_wp2_with (fail)
  go_loopw [3] (fun vo wr => ∃ (s' : Pus) (l : List Sld) (Xt' : Nat → Prop), Hid (RPv g gt v s' Xt' Xl wr) ∧ Hid (PsOk s') ∧ Hid (s'.ls = s.ls ∧ puOn s' = puOn s ∧ l ++ puOnL s' = puOnL s ∧ l.length + s'.ls.length ≤ s'.next + s.ls.length) ∧ Hid (Out w (Tri g Xt' Xl) vo l wr) ∧ Hid (Turns (Tri g Xt Xl) (Tri g Xt' Xl) w wr)) (fun _ wr => s.ls.length - nxtOf g wr)
  case atStart => exact ⟨s, [], Xt, HH, HOK, ⟨rfl, rfl, rfl, by simp⟩, Out.nil _ _ _, Turns.of_below (Below.refl _ _)⟩
  case round =>
    obtain ⟨s', l, Xt', HR, HK, HE, HO, HT⟩ := hrel
    obtain ⟨⟨c1, c2, _⟩, c7, c8, c9, c10, hfz⟩ := HR.out.cells
    obtain ⟨P, pc, hv, hp1, hp2, _⟩ := HR.out.lst
    have hsl0 : s'.ls.length ≤ 100000 := by rw [HE.out.1]; exact hb
    have hcf := HK.out.1
    have hnl := HK.out.2.1
    have hwk := hcf.1
    subst hv
    have HN9 : Hid (nxtOf g wr = s'.next) := by show _ = _; unfold nxtOf; rw [c9]; rfl
    have hwb : IntKind.i64.wrap ((s'.base : Int) + s'.c.w) = (s'.base : Int) + s'.c.w := IntWalk.i64_in _ (by omega)
    by_cases h1 : s'.next < s'.ls.length
    · have d1 : decide ((s'.next : Int) < (s'.ls.length : Int)) = true := by simp; omega
      have d1' : decide (s'.next < s'.ls.length) = true := by simp; omega
      by_cases h2 : (s'.next : Int) < s'.base + s'.c.w
      · have d2 : decide ((s'.next : Int) < (s'.base : Int) + s'.c.w) = true := by simpa using h2
        have hpos : 0 < puK s' := (puK_pos HK.out).2 ⟨h1, h2⟩
        have hm : 1 ≤ s'.c.m ∧ s'.c.m ≤ 65536 := by obtain ⟨_, _, _, _, _⟩ := hcf; omega
        have hn6 : s'.next < 100000 := by omega
        have hs := (fun W (U : Below wr.heap.size wr W) => rpslide_any g gt _ s' Xt' Xl s'.next W (HR.out.below U) hm h1 (by omega) HK.out.2.2.2.1)
        have hsl : puSld s' s'.next = (false, rgMod s'.next s'.c.m, 0, s'.ls[s'.next]) := by unfold puSld; rw [List.getD_eq_getElem?_getD, List.getElem?_eq_getElem h1]; rfl
        have HLT := Lib.hid HR.out.lt
        have HST := Lib.hid (HK.out.step h1 h2 (by omega))
        have hen : puOn (puStep s') = puOn s := by rw [← puOn_step hpos]; exact HE.out.2.1
        have hel : (l ++ [puSld s' s'.next]) ++ puOnL (puStep s') = puOnL s := by rw [List.append_assoc, List.singleton_append, ← puOnL_step hpos]; exact HE.out.2.2.1
        have hll : (l ++ [puSld s' s'.next]).length + (puStep s').ls.length ≤ (puStep s').next + s.ls.length := by
          have := HE.out.2.2.2
          show (l ++ [puSld s' s'.next]).length + s'.ls.length ≤ s'.next + 1 + s.ls.length
          simp; omega
        have HEN : Hid ((puStep s').ls = s.ls ∧ puOn (puStep s') = puOn s ∧ (l ++ [puSld s' s'.next]) ++ puOnL (puStep s') = puOnL s ∧ (l ++ [puSld s' s'.next]).length + (puStep s').ls.length ≤ (puStep s').next + s.ls.length) := ⟨HE.out.1, hen, hel, hll⟩
        have hl6 : l.length ≤ 100000 := by have h3 := HE.out.2.2.2; rw [← HE.out.1] at h3; omega
        have hws := HT.out.off.size
        have hsg := lt_row HR.out.1
        have HTL := Lib.hid HK.out.tlen
        obtain ⟨nn, hnn⟩ : ∃ nn, s'.next + 1 = nn := ⟨_, rfl⟩
        have ean : (s'.next : Int) + 1 = (nn : Int) := by omega
        have HNN := Lib.hid hnn
        clear hen hel hll hpos hm hp1 hp2 hnl hcf hnn
        generalize rgMod (s'.next : Int) s'.c.m = rm at *
        generalize s'.ls[s'.next] = x at *
        generalize puSld s' s'.next = sl at *
        subst hsl
        obtain ⟨L, hL⟩ : ∃ L, x.length = L := ⟨_, rfl⟩
        rw [hL] at hs
        have HS := Lib.hid hs
        clear hL hs
        go_wp2_with (fail)
        go_quiet (fail)
        go_wp2_with (fail)
        have B := below_drewN' (Below.refl wr.heap.size wr) nq
        refine (HS.out _ B).mono ?_
        rintro e w1 ⟨A1, k1, rfl, hF, T1⟩
        have TB : Below wr.heap.size wr w1 := nxt B T1
        have hTB := TB.size
        have hBs := B.size
        have T1a := TB.alloc hTB (.cells #[.bool false, .int .i64 rm, .int .u64 0, .slice A1 L k1] 38)
        have HT1a := Lib.hid T1a
        have HF := Lib.hid hF
        have hs1 : (w1.alloc (.cells #[.bool false, .int .i64 rm, .int .u64 0, .slice A1 L k1] 38)).heap.size = w1.heap.size + 1 := by simp
        clear hF T1 T1a TB
        go_wp2_with ((with_reducible refine app_s _ rfl (.tmp 31) (.tmp 38) rfl w.heap.size (fun k => k < w.heap.size ∨ Tri g Xt' Xl k) u3 l rfl ?c1 (fun k => k < wr.heap.size) (some ⟨w1.heap.size, 0, none⟩) 1 1 [(false, rm, 0, x)] rfl ?c2 ?c3 ?c4 ?c5 ?c6 ?_); rotate_right; intro v2 w2 hown2 hgrow2 hwhere2)
        case c1 => exact HO.out.1.below HT1a.out
        case c2 => exact Sls.one (u := 0) HF.out.bys (HF.out.2.1.imp (fun k hk => Nat.lt_of_lt_of_le hk hBs)) (fun h => by omega)
        case c3 => omega
        case c4 => rw [hs1]; omega
        case c5 => exact fun k _ hz => hz.elim (fun h => Nat.lt_of_lt_of_le h hws) (HLT.out k)
        case c6 => exact fun k hk => (HO.out.1.lt k hk).2
        obtain ⟨hO2, hoff⟩ := HO.out.more HT1a.out HLT.out hown2 hgrow2 hwhere2
        have R2 := HR.out.off hoff (fun k hk hv => HO.out.2 k hv hk)
        have HT2 : Hid (Turns (Tri g Xt Xl) (Tri g Xt' Xl) w w2) := ⟨HT.out.off.thru hoff (fun i hi hv => absurd (HO.out.1.lt i hv).1 (by omega)), HT.out.grow⟩
        have HSET := Lib.hid (fun W (U : Below w2.heap.size w2 W) => rtset_any gt s'.c.b s'.tm s'.next W Xt' (R2.below U).2.1 ⟨by omega, by omega⟩ (by have := HTL.out; omega))
        obtain ⟨-, -, -, e9, e10, -⟩ := R2.cells
        have HR2 := Lib.hid R2
        have HO2 := Lib.hid hO2
        have K2 : Hid (w2.cell? ⟨g, 10, none⟩ = some (.pointer (some ⟨gt, 0, none⟩)) ∧ w2.cell? ⟨g, 9, none⟩ = some (.int .i64 (s'.next : Int))) := ⟨e10, e9⟩
        have P0 := Below.refl w2.heap.size w2
        clear R2 hO2 hoff hown2 hgrow2 hwhere2 c1 c2 c7 c8 c9 c10 hfz
        go_region_held3 (fun w' => w'.cell? ⟨g, 10, none⟩ = some (.pointer (some ⟨gt, 0, none⟩)) ∧ w'.cell? ⟨g, 9, none⟩ = some (.int .i64 (s'.next : Int))) (first | exact K2.out | exact K3.out)
          (first
            | (go_at_call 41; (with_reducible refine (HSET.out _ (by first | exact P0 | exact P0.drew)).mono ?_); rintro e w3 ⟨rfl, Xt2, q3, t3⟩; have t3' : Turns Xt' Xt2 w2 w3 := (by first | exact t3 | exact t3.undrew); have HR3 := Lib.hid (HR2.out.t q3 t3'); have K3 : Hid (w3.cell? ⟨g, 10, none⟩ = some (.pointer (some ⟨gt, 0, none⟩)) ∧ w3.cell? ⟨g, 9, none⟩ = some (.int .i64 (s'.next : Int))) := ⟨HR3.out.1.cells.2.2.2.2.1, HR3.out.1.cells.2.2.2.1⟩))
        all_goals
          have HO3 := Lib.hid (HO2.out.turn HR3.out.2)
          have HT3 := Lib.hid (HT2.out.trans HR3.out.2)
          obtain ⟨-, -, -, g9, -, gz⟩ := HR3.out.1.cells
          have g9 : w3.cell? ⟨g, 9, none⟩ = some (.int .i64 (s'.next : Int)) := g9
          have gf := gz 9
          have HE4 := Lib.hid (HR3.out.1.c (s' := puStep s') 9 (.int .i64 (nn : Int)) (by rw [← HNN.out]; rfl) rfl rfl rfl)
          clear gz e9 e10
          go_wp2_with (fail)
          generalize w3.setCell ⟨g, 9, none⟩ (.int .i64 (nn : Int)) = w4 at *
          go_roundw
          case rel => exact ⟨puStep s', l ++ [(false, rm, 0, x)], Xt2, HE4.out.1, HST.out, HEN.out, HO3.out.turn HE4.out.2, HT3.out.trans HE4.out.2⟩
          case measure =>
            have e : nxtOf g w4 = s'.next + 1 := by unfold nxtOf; rw [HE4.out.1.cells.2.2.2.1]; rfl
            rw [e, HN9.out]
            have := HE.out.1
            have : s'.next < s.ls.length := by rw [← this]; exact h1
            omega
      · have d2 : decide ((s'.next : Int) < (s'.base : Int) + s'.c.w) = false := by simpa using h2
        have hz : puK s' = 0 := by
          rcases Nat.eq_zero_or_pos (puK s') with e | e
          · exact e
          · exact absurd ((puK_pos HK.out).1 e).2 h2
        have HZ : Hid (s' = puOn s ∧ l = puOnL s) := ⟨by rw [← HE.out.2.1, puOn_none hz], by have := HE.out.2.2.1; rw [puOnL_none hz, List.append_nil] at this; exact this⟩
        clear hz h2
        go_wp2_with (fail)
        go_quiet (fail)
        go_wp2
        go_ret
        rw [← HZ.out.1, ← HZ.out.2]
        have B := below_drewN' (Below.refl wr.heap.size wr) nq
        exact ⟨_, Xt', rfl, HO.out.below B, HR.out.below B, HT.out.next B⟩
    · have d1 : decide ((s'.next : Int) < (s'.ls.length : Int)) = false := by simp; omega
      have d1' : decide (s'.next < s'.ls.length) = false := by simp; omega
      have hz : puK s' = 0 := by
        rcases Nat.eq_zero_or_pos (puK s') with e | e
        · exact e
        · exact absurd ((puK_pos HK.out).1 e).1 h1
      have HZ : Hid (s' = puOn s ∧ l = puOnL s) := ⟨by rw [← HE.out.2.1, puOn_none hz], by have := HE.out.2.2.1; rw [puOnL_none hz, List.append_nil] at this; exact this⟩
      clear hz h1
      go_wp2_with (fail)
      go_quiet (fail)
      go_wp2
      go_ret
      rw [← HZ.out.1, ← HZ.out.2]
      have B := below_drewN' (Below.refl wr.heap.size wr) nq
      exact ⟨_, Xt', rfl, HO.out.below B, HR.out.below B, HT.out.next B⟩
theorem tmDue_keys (l : List Tmr) : ∀ k ∈ tmDue l, k ∈ tmKeys l := fun _ hk => by
  unfold tmDue at hk
  obtain ⟨t, ht, rfl⟩ := List.mem_map.1 hk
  exact List.mem_map.2 ⟨t, (List.mem_filter.1 ht).1, rfl⟩
set_option maxHeartbeats 16000000 in
theorem rptick_any (g gt : Nat) (v : Value) (s : Pus) (Xt Xl : Nat → Prop) (w : World) (h : RPv g gt v s Xt Xl w) (hok : PsOk s) (hb : s.ls.length ≤ 100000) :
    Calls Try.prog 15 #[.pointer (some ⟨g, 0, none⟩)] w fun e w' => ∃ vo, e = .returned vo ∧ Out w (Tri g Xt Xl) vo (puTickL s) w' ∧ RPv g gt v (puTick s) Xt Xl w' ∧ Turns (Tri g Xt Xl) (Tri g Xt Xl) w w' := by
  have HTK := Lib.hid (rttick_any gt s.c.b s.tm w Xt h.2.1)
  have HV := Lib.hid h
  obtain ⟨-, -, -, -, c10, -⟩ := h.cells
  have hlen : (tmDue s.tm).length ≤ 64 := Nat.le_trans (tmDue_len s.tm) hok.tlen
  have hm : 1 ≤ s.c.m ∧ s.c.m ≤ 65536 := by obtain ⟨⟨_, _⟩, ⟨_, _⟩, ⟨_, _⟩, _⟩ := hok.1; omega
  have HKEY : Hid (∀ j (hj : j < (tmDue s.tm).length), ∃ p : Nat, (tmDue s.tm)[j] = (p : Int) ∧ p < s.ls.length ∧ (puTickL s).take (j + 1) = (puTickL s).take j ++ [puSld s p]) := fun j hj => by
    have hk := hok.2.2.2.2.2.1 _ (tmDue_keys s.tm _ (List.getElem_mem hj))
    have h2 := hok.2.1.2
    refine ⟨((tmDue s.tm)[j]).toNat, by omega, by omega, ?_⟩
    have hj' : j < (puTickL s).length := by unfold puTickL; simpa using hj
    rw [List.take_succ_eq_append_getElem hj']
    congr 2
    simp [puTickL]
  have HALL := Lib.hid hok.2.2.2.1
  have HLN : Hid ((puTickL s).length = (tmDue s.tm).length) := by show _ = _; unfold puTickL; simp
  clear h hok
  go_enter Try.func15, Try.ntmps15
  go_wp2_with (fail)
  refine HTK.out.mono ?_
  rintro e w1 ⟨A, n, c, rfl, hZ, q1, t1⟩
  obtain ⟨R1, k1⟩ := HV.out.t q1 t1
  have HR1 : Hid (RPv g gt v (puTick s) Xt Xl w1) := R1
  have HK1 := Lib.hid k1
  have hn : (tmDue s.tm).length = n := hZ.len
  have HZ := Lib.hid hZ
  have HNL := Lib.hid hn
  rw [hn] at hlen
  have hc63 : n ≤ c ∧ c ≤ 9223372036854775807 := ⟨hZ.le, by have := hZ.cap; unfold maxLen at this; omega⟩
  clear q1 t1 R1 k1 hZ c10 hn
  go_wp2_with (fail)
  go_loopw [4, 5] (fun vo i wr => ∃ j : Nat, j ≤ n ∧ i = .int .i64 (j : Int) ∧ Hid (Out w1 (Tri g Xt Xl) vo ((puTickL s).take j) wr) ∧ Below w1.heap.size w1 wr) (fun _ i _ => n - (intOf i).toNat)
  case atStart => exact ⟨0, Nat.zero_le _, rfl, Out.nil _ _ _, Below.refl _ _⟩
  case round =>
    obtain ⟨j, hj, rfl, HO, hbel⟩ := hrel
    by_cases hlt : j < n
    · have d0 : decide ((j : Int) < (n : Int)) = true := by simp; omega
      have hjn : (j : Int) < (n : Int) := by omega
      have hj0 : (0 : Int) ≤ (j : Int) := by omega
      obtain ⟨p, hp, hpl, htk⟩ := HKEY.out j (by rw [HNL.out]; exact hlt)
      obtain ⟨b, o, rfl, hb1, hcl⟩ := HZ.out.cell (by omega)
      have cj := (hbel.cell (p := ⟨b, o + j, none⟩) hb1).trans (hcl j (by rw [HNL.out]; exact hlt))
      rw [hp] at cj
      have HRR := Lib.hid (HR1.out.below hbel)
      have hs := (fun W (U : Below wr.heap.size wr W) => rpslide_any g gt v (puTick s) Xt Xl p W (HRR.out.below U) hm hpl (by omega) HALL.out)
      have hsl : puSld s p = (false, rgMod p s.c.m, 0, s.ls[p]) := by unfold puSld; rw [List.getD_eq_getElem?_getD, List.getElem?_eq_getElem hpl]; rfl
      have e1 : (puTick s).c.m = s.c.m := rfl
      have hs2 : ∀ W, Below wr.heap.size wr W → Calls Try.prog 36 #[.pointer (some ⟨g, 0, none⟩), .int .i64 (p : Int)] W fun e w' => ∃ A c, e = .returned (.agg #[.bool false, .int .i64 (rgMod p s.c.m), .int .u64 0, .slice A (s.ls[p]).length c]) ∧ Fre w' (· < W.heap.size) A (s.ls[p]).length c s.ls[p] ∧ Below W.heap.size W w' := hs
      have HLT := Lib.hid HRR.out.lt
      clear hs e1
      rw [hsl] at htk
      clear hsl hcl hp
      generalize rgMod (p : Int) s.c.m = rm at *
      generalize s.ls[p] = x at *
      obtain ⟨L, hL⟩ : ∃ L, x.length = L := ⟨_, rfl⟩
      rw [hL] at hs2
      have HS := Lib.hid hs2
      have HTKE := Lib.hid htk
      have hs10 := hbel.size
      have htl : ((puTickL s).take j).length = j := by rw [List.length_take, HLN.out, HNL.out]; omega
      generalize hll : (puTickL s).take j = l at *
      clear hL hs2 htk hll hpl
      go_wp2_with (fail)
      refine (HS.out _ (Below.refl _ _)).mono ?_
      rintro e w2 ⟨A1, k1, rfl, hF, T1⟩
      have hTB := T1.size
      have HT1a := Lib.hid (T1.alloc hTB (.cells #[.bool false, .int .i64 rm, .int .u64 0, .slice A1 L k1] 38))
      have HF := Lib.hid hF
      have hs1 : (w2.alloc (.cells #[.bool false, .int .i64 rm, .int .u64 0, .slice A1 L k1] 38)).heap.size = w2.heap.size + 1 := by simp
      clear hF T1
      go_wp2_with ((with_reducible refine app_s _ rfl (.tmp 17) (.tmp 24) rfl w1.heap.size (fun k => k < w1.heap.size ∨ Tri g Xt Xl k) u4 l rfl ?c1 (fun k => k < wr.heap.size) (some ⟨w2.heap.size, 0, none⟩) 1 1 [(false, rm, 0, x)] rfl ?c2 ?c3 ?c4 ?c5 ?c6 ?_); rotate_right; intro v2 w3 hown2 hgrow2 hwhere2)
      case c1 => exact HO.out.1.below HT1a.out
      case c2 => exact Sls.one (u := 0) HF.out.bys HF.out.2.1 (fun h => by omega)
      case c3 => omega
      case c4 => rw [hs1]; omega
      case c5 => exact fun k _ hz => hz.elim (fun h => Nat.lt_of_lt_of_le h hs10) (HLT.out k)
      case c6 => exact fun k hk => (HO.out.1.lt k hk).2
      have HO2 := Lib.hid (HO.out.more HT1a.out HLT.out hown2 hgrow2 hwhere2)
      have hb2 : Below w1.heap.size w1 w3 := (hbel.trans (HT1a.out.mono hs10)).grown hgrow2 (by rw [hs1]; omega) (fun k hk => (HO.out.1.lt k hk).1)
      clear hown2 hgrow2 hwhere2
      go_roundw
      case rel => exact ⟨j + 1, by omega, by go_num, by rw [HTKE.out]; exact HO2.out.1, hb2⟩
      case measure => simp [intOf]; omega
    · have d0 : decide ((j : Int) < (n : Int)) = false := by simp; omega
      obtain rfl : j = n := by omega
      have hO := HO.out
      rw [List.take_of_length_le (by rw [HLN.out, HNL.out]; exact Nat.le_refl _)] at hO
      have HOE := Lib.hid hO
      clear hO HO
      go_wp2
      go_ret
      exact ⟨_, rfl, HOE.out.base HK1.out.off.size, HR1.out.below hbel, HK1.out.next hbel⟩
end Go.Proofs.Ytncpabnmdofomaa
