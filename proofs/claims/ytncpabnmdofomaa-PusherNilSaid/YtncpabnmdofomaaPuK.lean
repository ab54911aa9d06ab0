/- Package pusher, as landed: take, Take; it answers as its contracts say. -/
import Derived.Test.YtncpabnmdofomaaPuK10
import Derived.Test.YtncpabnmdofomaaTmK
namespace Go.Proofs.Ytncpabnmdofomaa
open Go.RowKit
set_option maxRecDepth 20000

def GivesTake (T : Nat → Int → List Tmr → World → (Nat → Prop) → Prop) (x gt : Nat) (P : Option Addr) (pc : Nat) (s' : Pus) (l : List Sld) (Xt Xc : Nat → Prop) (w : World) (e : Ending) (w' : World) : Prop := ∃ vo P' n' pc' vs' Xt', e = .returned vo ∧ Out w (EnX x P' pc' Xt' Xc) vo l w' ∧ EnV T x gt P' n' pc' vs' s' s'.base Xt' Xc w' ∧ Turns (EnX x P pc Xt Xc) (EnX x P' pc' Xt' Xc) w w'
section
variable {T : Nat → Int → List Tmr → World → (Nat → Prop) → Prop} {x gt : Nat} {P : Option Addr} {n pc : Nat} {vs : List Value} {s : Pus} {Xt Xc : Nat → Prop} {w : World}
set_option maxHeartbeats 8000000 in
theorem putake_none (C : TmC T) (seq : Int) (bits : Nat) (h : EnV T x gt P n pc vs s s.base Xt Xc w) (hok : PsOk s) (hq : puNear s seq = none) :
    Calls Try.prog 37 #[.pointer (some ⟨x, 0, none⟩), .int .i64 seq, .int .u64 (bits : Int)] w (GivesTake T x gt P pc s [] Xt Xc w) := by
  obtain ⟨c0, c1, -, -, c4, c5, -⟩ := h.cells.1
  have HR := Lib.hid h
  have hw := hok.1.1
  have hwr : IntKind.i64.wrap (s.c.w + 1) = s.c.w + 1 := IntWalk.i64_in _ (by omega)
  unfold puNear at hq
  unfold GivesTake
  cases hn : rgNear s.base (s.c.w + 1) seq s.c.m with
  | none =>
    have HNR := Lib.hid (fun W => (rgnear_any s.base (s.c.w + 1) seq s.c.m W).mono (fun _ _ h => And.intro h.1 h.2.symm))
    rw [hn] at HNR
    have HNR : Hid (∀ W, Calls Try.prog 50 #[.int .i64 (s.base : Int), .int .i64 (s.c.w + 1), .int .i64 seq, .int .i64 s.c.m] W fun e w' => e = .returned (.tuple #[.int .i64 0, .bool false]) ∧ w' = W) := HNR.out
    clear h hok hq hn
    go_enter Try.func37, Try.ntmps37
    go_wp2_with (fail)
    go_quiet ((go_at_call 50; refine Calls.quiet_of_same (HNR.out _)))
    go_wp2
    go_ret
    have B := below_drewN' (Below.refl w.heap.size w) nq
    exact ⟨_, P, n, pc, vs, Xt, rfl, Out.nil _ _ _, HR.out.below C B, Turns.of_below B⟩
  | some z =>
    rw [hn] at hq
    simp only at hq
    have hz : (s.next : Int) < z := by
      by_cases e : (s.next : Int) < z
      · exact e
      · rw [if_neg e] at hq; cases hq
    have dz : decide ((s.next : Int) < z) = true := by simpa using hz
    have HNR := Lib.hid (fun W => (rgnear_any s.base (s.c.w + 1) seq s.c.m W).mono (fun _ _ h => And.intro h.1 h.2.symm))
    rw [hn] at HNR
    have HNR : Hid (∀ W, Calls Try.prog 50 #[.int .i64 (s.base : Int), .int .i64 (s.c.w + 1), .int .i64 seq, .int .i64 s.c.m] W fun e w' => e = .returned (.tuple #[.int .i64 z, .bool true]) ∧ w' = W) := HNR.out
    clear h hok hq hn hz
    go_enter Try.func37, Try.ntmps37
    go_wp2_with (fail)
    go_quiet ((go_at_call 50; refine Calls.quiet_of_same (HNR.out _)))
    go_wp2
    go_ret
    have B := below_drewN' (Below.refl w.heap.size w) nq
    exact ⟨_, P, n, pc, vs, Xt, rfl, Out.nil _ _ _, HR.out.below C B, Turns.of_below B⟩
set_option maxHeartbeats 8000000 in
theorem putake_some (C : TmC T) (seq : Int) (bits : Nat) (h : EnV T x gt P n pc vs s s.base Xt Xc w) (hok : PsOk s) (hb : s.ls.length < 100000) (hbits : bits < 18446744073709551616) (q : Nat) (hq : puNear s seq = some q) :
    Calls Try.prog 37 #[.pointer (some ⟨x, 0, none⟩), .int .i64 seq, .int .u64 (bits : Int)] w (GivesTake T x gt P pc (puOn (puAck s q bits)) (puOnL (puAck s q bits)) Xt Xc w) := by
  obtain ⟨c0, c1, -, -, c4, c5, -⟩ := h.cells.1
  have HR := Lib.hid h
  have hw := hok.1.1
  have hwr : IntKind.i64.wrap (s.c.w + 1) = s.c.w + 1 := IntWalk.i64_in _ (by omega)
  obtain ⟨hbq, hqn, hrg⟩ := puNear_some hq
  have dz : decide ((s.next : Int) < (q : Int)) = false := by simp; omega
  have dz' : decide (s.next < q) = false := by simp; omega
  have HNR := Lib.hid (fun W => (rgnear_any s.base (s.c.w + 1) seq s.c.m W).mono (fun _ _ h => And.intro h.1 h.2.symm))
  rw [hrg] at HNR
  have HNR : Hid (∀ W, Calls Try.prog 50 #[.int .i64 (s.base : Int), .int .i64 (s.c.w + 1), .int .i64 seq, .int .i64 s.c.m] W fun e w' => e = .returned (.tuple #[.int .i64 (q : Int), .bool true]) ∧ w' = W) := HNR.out
  have HACK := Lib.hid (hok.ack q bits hbq hqn (by omega))
  have hnl := hok.2.1
  have hcl := puClr_keys (most := s.c.b) (q - s.base) s.base s.tm hok.2.2.2.2.1
  have hkp := puKeep_keys q s.next hcl.1 (by omega)
  have htl := hok.tlen
  have h64 : s.next ≤ q + 64 := by have := hok.2.2.1; omega
  have HTHR := Lib.hid (fun W (U : Below w.heap.size w W) => puthere_any C (h.below C U) hok hb q hbq hqn)
  have HKT : Hid (TmOk s.c.b (puKeep q s.next (puClr (q - s.base) s.base s.tm)) ∧ (puKeep q s.next (puClr (q - s.base) s.base s.tm)).length ≤ 100) := ⟨hkp.1, by have := hkp.2.2.2; have := hcl.2.2; omega⟩
  unfold GivesTake
  clear h hok hq hrg hcl hkp
  go_enter Try.func37, Try.ntmps37
  go_wp2_with (fail)
  go_quiet ((go_at_call 50; refine Calls.quiet_of_same (HNR.out _)))
  go_wp2_with (fail)
  have B := below_drewN' (Below.refl w.heap.size w) nq
  refine (HTHR.out _ B).mono ?_
  rintro e w1 ⟨rfl, P1, n1, pc1, vs1, Xt1, R1, t1⟩
  have HT1 := Lib.hid ((Turns.of_below B).trans t1)
  have R1 : EnV T x gt P1 n1 pc1 vs1 { s with base := q, tm := puKeep q s.next (puClr (q - s.base) s.base s.tm) } ({ s with base := q, tm := puKeep q s.next (puClr (q - s.base) s.base s.tm) } : Pus).base Xt1 Xc w1 := R1
  have HTLD := Lib.hid (putold_any C R1 bits hbits HKT.out.1 HKT.out.2 hqn h64 (by show s.next ≤ _; omega))
  clear R1 t1 c0 c1 c4 c5
  go_wp2_with (fail)
  refine HTLD.out.mono ?_
  rintro e w2 ⟨rfl, Xt2, R2, t2⟩
  have HT2 := Lib.hid (HT1.out.trans t2)
  have R2 : EnV T x gt P1 n1 pc1 vs1 (puAck s q bits) (puAck s q bits).base Xt2 Xc w2 := R2
  have HON := Lib.hid (pugoon_any C x gt P1 n1 pc1 vs1 (puAck s q bits) Xt2 Xc w2 R2 HACK.out (by show s.ls.length ≤ _; omega))
  clear R2 t2
  go_wp2_with (fail)
  refine HON.out.mono ?_
  rintro e w3 ⟨vo, Xt3, rfl, hO3, R3, t3⟩
  have HE := Lib.hid (And.intro hO3 (And.intro R3 t3))
  clear hO3 R3 t3
  go_wp2
  go_ret
  exact ⟨vo, P1, n1, pc1, vs1, Xt3, rfl, HE.out.1.base HT2.out.off.size, HE.out.2.1, HT2.out.trans HE.out.2.2⟩
theorem putake_all (C : TmC T) (seq : Int) (bits : Nat) (h : EnV T x gt P n pc vs s s.base Xt Xc w) (hok : PsOk s) (hb : s.ls.length < 100000) (hbits : bits < 18446744073709551616) :
    Calls Try.prog 37 #[.pointer (some ⟨x, 0, none⟩), .int .i64 seq, .int .u64 (bits : Int)] w (GivesTake T x gt P pc (puTake s true seq bits) (puTakeL s true seq bits) Xt Xc w) := by
  cases hq : puNear s seq with
  | none =>
    have e1 : puTake s true seq bits = s := by unfold puTake; rw [if_neg (by decide), hq]
    have e2 : puTakeL s true seq bits = [] := by unfold puTakeL; rw [if_neg (by decide), hq]
    rw [e1, e2]
    exact putake_none C seq bits h hok hq
  | some q =>
    have e1 : puTake s true seq bits = puOn (puAck s q bits) := by unfold puTake; rw [if_neg (by decide), hq]
    have e2 : puTakeL s true seq bits = puOnL (puAck s q bits) := by unfold puTakeL; rw [if_neg (by decide), hq]
    rw [e1, e2]
    exact putake_some C seq bits h hok hb hbits q hq
end
set_option maxHeartbeats 8000000 in
theorem putk_any {T : Nat → Int → List Tmr → World → (Nat → Prop) → Prop} (C : TmC T) (g : Nat) (s : Pus) (a : Bool) (sq : Int) (u : Nat) (A : Option Addr) (k c : Nat) (w : World) (X : Nat → Prop) (hF : PuP T g s w X) (hok : PsOk s) (hb : s.ls.length < 100000) (hu : u < 18446744073709551616) :
    Calls Try.prog 16 #[.pointer (some ⟨g, 0, none⟩), .agg #[.bool a, .int .i64 sq, .int .u64 (u : Int), .slice A k c]] w (GivesSls (PuP T g (puTake s a sq u)) X (puTakeL s a sq u) w) := by
  have T0 := (Below.refl _ w).alloc (Nat.le_refl _) (.cells #[.bool a, .int .i64 sq, .int .u64 (u : Int), .slice A k c] 38)
  have n0 := heap_alloc_new w (.cells #[.bool a, .int .i64 sq, .int .u64 (u : Int), .slice A k c] 38)
  have HF := Lib.hid ((PuP.holds C g s).below hF T0)
  have HX := Lib.hid ((PuP.holds C g s).lt hF)
  obtain ⟨x, Y, hg1, ⟨gt, P, n, pc, vs, Xt, Xc, h, rfl⟩, hg3, rfl⟩ := hF
  have hgw := lt_row hg1
  have c0 : (w.alloc (.cells #[.bool a, .int .i64 sq, .int .u64 (u : Int), .slice A k c] 38)).cell? ⟨g, 0, none⟩ = some (.pointer (some ⟨x, 0, none⟩)) := cell_of_row _ _ _ _ _ _ ((T0.block g hgw).trans hg1)
  have HM := Lib.hid (pumade_any g ⟨x, 0, none⟩ _ c0)
  obtain ⟨⟨p0, p1, p2, -⟩, -⟩ := row4 n0
  have HT0 := Lib.hid T0
  cases a with
  | false =>
    have e1 : puTake s false sq u = s := by unfold puTake; rw [if_pos rfl]
    have e2 : puTakeL s false sq u = [] := by unfold puTakeL; rw [if_pos rfl]
    rw [e1, e2]
    clear h hok T0 n0 e1 e2 hg1 hg3
    go_enter Try.func16, Try.ntmps16
    go_wp2_with (fail)
    refine HM.out.mono ?_
    rintro e w1 ⟨rfl, rfl⟩
    go_wp2
    go_ret
    exact ⟨none, 0, 0, _, rfl, Sls.nil _ _, HF.out, Turns.of_below HT0.out⟩
  | true =>
    have HTK := Lib.hid (fun W (U : Below w.heap.size w W) => putake_all C sq u (h.below C U) hok hb hu)
    have HG1 := Lib.hid hg1
    have HG3 := Lib.hid hg3
    have hlt := h.lt C
    have hpx : ¬ EnX x P pc Xt Xc w.heap.size := fun e => by have := hlt _ e; omega
    have HPX := Lib.hid hpx
    have HNW : Hid (w.heap.size < (w.alloc (.cells #[.bool true, .int .i64 sq, .int .u64 (u : Int), .slice A k c] 38)).heap.size) := by show _ < _; simp
    have HGN : Hid (g < (w.alloc (.cells #[.bool true, .int .i64 sq, .int .u64 (u : Int), .slice A k c] 38)).heap.size) := by show _ < _; simp; omega
    generalize puTake s true sq u = s' at *
    generalize puTakeL s true sq u = l' at *
    clear h hok T0 n0 hg1 hg3 hlt hpx
    go_enter Try.func16, Try.ntmps16
    go_wp2_with (fail)
    generalize w.alloc (.cells #[.bool true, .int .i64 sq, .int .u64 (u : Int), .slice A k c] 38) = W1 at *
    refine HM.out.mono ?_
    rintro e w1 ⟨rfl, rfl⟩
    go_wp2_with (fail)
    have K2 : Hid (W1.cell? ⟨g, 0, none⟩ = some (.pointer (some ⟨x, 0, none⟩)) ∧ W1.cell? ⟨w.heap.size, 1, none⟩ = some (.int .i64 sq) ∧ W1.cell? ⟨w.heap.size, 2, none⟩ = some (.int .u64 (u : Int))) := ⟨c0, p1, p2⟩
    clear c0 p0 p1 p2
    go_region_held3 (fun w' => w'.cell? ⟨g, 0, none⟩ = some (.pointer (some ⟨x, 0, none⟩)) ∧ w'.cell? ⟨w.heap.size, 1, none⟩ = some (.int .i64 sq) ∧ w'.cell? ⟨w.heap.size, 2, none⟩ = some (.int .u64 (u : Int))) (first | exact K2.out | exact K3.out)
      (first
        | (go_at_call 37; (with_reducible refine (HTK.out _ (by first | exact HT0.out | exact HT0.out.drew)).mono ?_); rintro e w2 ⟨vo, P2, n2, pc2, vs2, Xt2, rfl, hO2, R2, t2⟩; have HE : Hid (Out W1 (EnX x P2 pc2 Xt2 Xc) vo l' w2 ∧ EnV T x gt P2 n2 pc2 vs2 s' s'.base Xt2 Xc w2 ∧ Turns (EnX x P pc Xt Xc) (EnX x P2 pc2 Xt2 Xc) W1 w2) := ⟨hO2, R2, by first | exact t2 | exact t2.undrew⟩; have K3 : Hid (w2.cell? ⟨g, 0, none⟩ = some (.pointer (some ⟨x, 0, none⟩)) ∧ w2.cell? ⟨w.heap.size, 1, none⟩ = some (.int .i64 sq) ∧ w2.cell? ⟨w.heap.size, 2, none⟩ = some (.int .u64 (u : Int))) := ⟨(HE.out.2.2.off.cell (p := ⟨g, 0, none⟩) HGN.out HG3.out).trans K2.out.1, (HE.out.2.2.off.cell (p := ⟨w.heap.size, 1, none⟩) HNW.out HPX.out).trans K2.out.2.1, (HE.out.2.2.off.cell (p := ⟨w.heap.size, 2, none⟩) HNW.out HPX.out).trans K2.out.2.2⟩))
    all_goals
      clear hO2 R2 t2
      go_wp2
      go_ret
      have TT : Turns (EnX x P pc Xt Xc) (EnX x P2 pc2 Xt2 Xc) w w2 := ⟨(Off.of_below HT0.out).trans HE.out.2.2.off, fun i hi => (HE.out.2.2.grow i hi).imp id (fun h => Nat.le_trans HT0.out.size h)⟩
      obtain ⟨A', c', rfl, hS⟩ := ((HE.out.1.base HT0.out.size).gx hgw).sls
      obtain ⟨hP, hT⟩ := PuP.turn (s' := s') HG1.out HG3.out ⟨gt, P2, n2, pc2, vs2, Xt2, Xc, HE.out.2.1, rfl⟩ TT
      exact ⟨A', _, c', _, rfl, hS, hP, hT⟩
theorem puC : PuC (PuP TmP) where
  holds := fun g s => PuP.holds tmC g s
  new_no := fun c w hi h => punew_no tmC c w hi h
  new_yes := fun c w _ h => punew_yes tmC c w h
  send := fun g s A n c m w X hF hok hB _ hb => pusend_any tmC g s A n c m w X hF hok hB hb
  poll := fun g s i w X hF _ _ hb => pupoll_any tmC g s i w X hF hb
  tick := fun g s w X hF hok hb => putick_any tmC g s w X hF hok hb
  take := fun g s a sq u A n c _ w X hF hok hb _ hu _ => putk_any tmC g s a sq u A n c w X hF hok hb hu
  state := fun g s w X hF _ hb => pustate_any tmC g s w X hF hb
  timers := fun g s w X hF hok _ => putimers_any tmC g s w X hF hok
  nsend := fun A n c _ w _ => punsend_any A n c w
  npoll := fun i w _ => punpoll_any i w
  ntick := puntick_any
  ntake := fun a sq u A n c _ w _ _ _ => puntake_any a sq u A n c w
  ntimers := puntimers_any
end Go.Proofs.Ytncpabnmdofomaa
