/- Package caller, as landed: Take. -/
import Derived.Test.YtepmecmhnefhkaaCaK3
namespace Go.Proofs.Ytepmecmhnefhkaa
open Go.RowKit
set_option maxRecDepth 20000

/-- an engine in the state s, its blocks X -/
def CeA (ge gq gl : Nat) (s : Cs) (w : World) (X : Nat → Prop) : Prop := ∃ Xq, CeV ge gq gl s Xq w ∧ X = Al ge gl Xq
set_option maxHeartbeats 4000000 in
theorem caetake_oth (ge gq gl : Nat) (s : Cs) (Xq : Nat → Prop) (kd lb : Int) (A : Option Addr) (n c : Nat) (w : World) (h : CeV ge gq gl s Xq w) (h0 : kd ≠ 0) (h4 : kd ≠ 4) :
    Calls Try.prog 33 #[.pointer (some ⟨ge, 0, none⟩), .agg #[.int .i64 kd, .int .i64 lb, .slice A n c]] w (GivesPks (CeA ge gq gl s) (Al ge gl Xq) [] w) := by
  have HR := Lib.hid h
  have e0 : (kd == 0) = false := by simpa using h0
  have e4 : (kd == 4) = false := by simpa using h4
  clear h h0 h4
  go_enter Try.func33, Try.ntmps33
  go_wp2
  go_ret
  have T0 := ((Below.refl _ w).alloc (Nat.le_refl _) (.cells #[.int .i64 kd, .int .i64 lb, .slice A n c] 36))
  have T1 := T0.alloc T0.size (.cells #[.int .i64 2, .int .i64 0, .slice none 0 0] 36)
  exact ⟨_, _, _, Al ge gl Xq, rfl, Pks.nil _ _, ⟨Xq, HR.out.below T1, rfl⟩, Turns.of_below T1⟩
set_option maxHeartbeats 4000000 in
theorem caetake_ack (ge gq gl : Nat) (s : Cs) (Xq : Nat → Prop) (lb : Int) (A : Option Addr) (n c : Nat) (w : World) (h : CeV ge gq gl s Xq w) (hok : CaOk s) (hacks : s.acks < 1000000) :
    Calls Try.prog 33 #[.pointer (some ⟨ge, 0, none⟩), .agg #[.int .i64 4, .int .i64 lb, .slice A n c]] w (GivesPks (CeA ge gq gl (caAck s lb)) (Al ge gl Xq) [] w) := by
  have HAN := Lib.hid (fun W (U : Below w.heap.size w W) => caanswered_any ge gq gl s Xq lb W (h.below U) hok hacks)
  clear h hok
  have T0 := ((Below.refl _ w).alloc (Nat.le_refl _) (.cells #[.int .i64 4, .int .i64 lb, .slice A n c] 36))
  have T1 := Lib.hid (T0.alloc T0.size (.cells #[.int .i64 2, .int .i64 0, .slice none 0 0] 36))
  clear T0
  go_enter Try.func33, Try.ntmps33
  go_wp2_with (fail)
  refine (HAN.out _ T1.out).mono ?_
  rintro e w1 ⟨rfl, Xq', R1, k1⟩
  have HE := Lib.hid (And.intro R1 ((Turns.of_below T1.out).trans k1))
  clear R1 k1
  go_wp2
  go_ret
  exact ⟨_, _, _, Al ge gl Xq', rfl, Pks.nil _ _, ⟨Xq', HE.out.1, rfl⟩, HE.out.2⟩
set_option maxHeartbeats 4000000 in
theorem caetake_ask (ge gq gl : Nat) (s : Cs) (Xq : Nat → Prop) (lb : Int) (A : Option Addr) (n c : Nat) (w : World) (h : CeV ge gq gl s Xq w) :
    Calls Try.prog 33 #[.pointer (some ⟨ge, 0, none⟩), .agg #[.int .i64 0, .int .i64 lb, .slice A n c]] w (GivesPks (CeA ge gq gl s) (Al ge gl Xq) (caTakeL s 0) w) := by
  have T0 := ((Below.refl _ w).alloc (Nat.le_refl _) (.cells #[.int .i64 0, .int .i64 lb, .slice A n c] 36))
  have T1 := T0.alloc T0.size (.cells #[.int .i64 2, .int .i64 0, .slice none 0 0] 36)
  have hs1 : (w.alloc (.cells #[.int .i64 0, .int .i64 lb, .slice A n c] 36)).heap.size = w.heap.size + 1 := by simp
  have r1 := heap_alloc_new (w.alloc (.cells #[.int .i64 0, .int .i64 lb, .slice A n c] 36)) (.cells #[.int .i64 2, .int .i64 0, .slice none 0 0] 36)
  rw [hs1] at r1
  have hlt := h.lt
  have hge : ge < w.heap.size := hlt ge (.inl rfl)
  have HR := Lib.hid (fun W (U : Below w.heap.size w W) => h.below U)
  obtain ⟨c0, c1, c2, -, -⟩ := (h.below T1).cells
  have HL := Lib.hid (qulen_any gq s.ls.length _ (h.below T1).qlen)
  have HT1 := Lib.hid T1
  have hk : ∀ k, (Al ge gl Xq k ∨ k < w.heap.size) → k < w.heap.size := fun k hk => hk.elim (hlt k) id
  have HK := Lib.hid hk
  have z0 : ((w.alloc (.cells #[.int .i64 0, .int .i64 lb, .slice A n c] 36)).alloc (.cells #[.int .i64 2, .int .i64 0, .slice none 0 0] 36)).cell? ⟨w.heap.size, 0, none⟩ = some (.int .i64 0) := cell_of_row _ _ _ _ _ _ (hp_old (heap_alloc_new w _) _)
  clear h T0 T1 hs1 hlt hk
  by_cases h0 : s.ls = []
  · have H1 : Hid (caTakeL s 0 = [(2, 0, [])]) := by show _ = _; unfold caTakeL; rw [if_pos rfl, if_pos h0]
    have hl0 : s.ls.length = 0 := by rw [h0]; rfl
    rw [hl0] at HL
    obtain ⟨p0, p1, p2, -, -, -⟩ := row3 r1
    clear h0 hl0 r1
    go_enter Try.func33, Try.ntmps33
    go_wp2_with (fail)
    refine HL.out.mono ?_
    rintro e w2 ⟨rfl, rfl⟩
    generalize (w.alloc (.cells #[.int .i64 0, .int .i64 lb, .slice A n c] 36)).alloc (.cells #[.int .i64 2, .int .i64 0, .slice none 0 0] 36) = W2 at *
    generalize w.heap.size + 1 = P1 at *
    go_wp2
    go_ret
    rw [H1.out]
    have hs := HT1.out.size
    have T2 := HT1.out.alloc HT1.out.size (.cells #[.int .i64 2, .int .i64 0, .slice none 0 0] 36)
    refine ⟨_, _, _, Al ge gl Xq, rfl, Pks.one (Bys.nil _) (Av.none _ _) (fun hk => ?_), ⟨Xq, HR.out _ T2, rfl⟩, Turns.of_below T2⟩
    have := HK.out _ hk
    omega
  · have H1 : Hid (caTakeL s 0 = [(3, ((s.done % 2 : Nat) : Int), s.ls.headD [])]) := by show _ = _; unfold caTakeL; rw [if_pos rfl, if_neg h0]
    have hp : 0 < s.ls.length := by
      rcases Nat.eq_zero_or_pos s.ls.length with e | e
      · exact absurd (List.eq_nil_of_length_eq_zero e) h0
      · exact e
    have hl0 : decide ((0 : Int) < (s.ls.length : Int)) = true := by simp; omega
    have hl1 : decide (0 < s.ls.length) = true := by simp; omega
    have HLB := Lib.hid (calabel_any ge s.done _ c2)
    have HF := Lib.hid (fun W (U : Below w.heap.size w W) => qufront_any gq s.room s.ls W Xq (HR.out W U).2.1)
    generalize s.done % 2 = dm at *
    generalize s.ls.headD [] = t at *
    generalize s.ls.length = N at *
    clear h0 hp
    go_enter Try.func33, Try.ntmps33
    go_wp2_with (fail)
    refine HL.out.mono ?_
    rintro e w2 ⟨rfl, rfl⟩
    go_wp2_with (fail)
    refine HLB.out.mono ?_
    rintro e w2 ⟨rfl, rfl⟩
    have hP : ge ≠ w.heap.size + 1 := by omega
    have hPw : w.heap.size ≤ w.heap.size + 1 := by omega
    generalize (w.alloc (.cells #[.int .i64 0, .int .i64 lb, .slice A n c] 36)).alloc (.cells #[.int .i64 2, .int .i64 0, .slice none 0 0] 36) = W2 at *
    generalize w.heap.size + 1 = P1 at *
    obtain ⟨p0, p1, p2, f0, f1, f2⟩ := row3 r1
    have U3 := (HT1.out.setCell (p := ⟨P1, 0, none⟩) hPw (.int .i64 3)).setCell (p := ⟨P1, 1, none⟩) hPw (.int .i64 (dm : Int))
    have r3 : ((W2.setCell ⟨P1, 0, none⟩ (.int .i64 3)).setCell ⟨P1, 1, none⟩ (.int .i64 (dm : Int))).heap[P1]? = some (.cells #[.int .i64 3, .int .i64 (dm : Int), .slice none 0 0] 36 (0, 0)) := heap_setCell_same _ _ _ _ _ _ (heap_setCell_same _ _ _ _ _ _ r1)
    have hlt3 := lt_row r3
    clear HL HLB hl0 hl1 hP
    go_wp2_with (fail)
    refine (HF.out _ U3).mono ?_
    rintro e w4 ⟨A1, n1, k1, rfl, f4, T4⟩
    have U4 := nxt U3 T4
    have r4 := (T4.block P1 hlt3).trans r3
    obtain ⟨p0, p1, p2, f0, f1, f2⟩ := row3 r4
    have HF4 := Lib.hid f4
    have HP1 := Lib.hid hlt3
    clear f4 c0 c1 c2 r1 r3 T4 U3 hlt3
    go_wp2
    go_ret
    rw [H1.out]
    have U5 := U4.setCell (p := ⟨P1, 2, none⟩) hPw (.slice A1 n1 k1)
    have U6 := U5.alloc U5.size (.cells #[.int .i64 3, .int .i64 (dm : Int), .slice A1 n1 k1] 36)
    have hs := U5.size
    have hsz := HT1.out.size
    have F5 := HF4.out.off (X := (· = P1)) ((Off.refl (· = P1) w4).setCell (p := ⟨P1, 2, none⟩) (.inl rfl) (.slice A1 n1 k1)) (fun k hk => by subst hk; exact HP1.out)
    have e5 : (w4.setCell ⟨P1, 2, none⟩ (.slice A1 n1 k1)).heap.size = w4.heap.size := by simp [World.setCell]
    have hpk := fun Y h1 h2 => Pks.one (Y := Y) (k := 3) (lb := (dm : Int)) F5.bys h1 h2
    rw [e5] at hpk
    refine ⟨_, _, _, Al ge gl Xq, rfl, hpk _ (F5.2.1.imp (fun k hk => ?_)) (fun hk => ?_), ⟨Xq, HR.out _ U6, rfl⟩, Turns.of_below U6⟩
    · have h1 := HK.out _ hk
      have h2 := HP1.out
      show k < _
      omega
    · have h1 := HK.out _ hk
      omega
theorem caetake_any (ge gq gl : Nat) (s : Cs) (Xq : Nat → Prop) (kd lb : Int) (A : Option Addr) (n c : Nat) (w : World) (h : CeV ge gq gl s Xq w) (hok : CaOk s) (hacks : s.acks < 1000000) :
    Calls Try.prog 33 #[.pointer (some ⟨ge, 0, none⟩), .agg #[.int .i64 kd, .int .i64 lb, .slice A n c]] w (GivesPks (CeA ge gq gl (caTake s kd lb)) (Al ge gl Xq) (caTakeL s kd) w) := by
  by_cases h0 : kd = 0
  · subst h0
    have e : caTake s 0 lb = s := by unfold caTake; rw [if_neg (by omega)]
    rw [e]
    exact caetake_ask ge gq gl s Xq lb A n c w h
  · have eL : caTakeL s kd = [] := by unfold caTakeL; rw [if_neg h0]
    rw [eL]
    by_cases h4 : kd = 4
    · subst h4
      have e : caTake s 4 lb = caAck s lb := by unfold caTake; rw [if_pos rfl]
      rw [e]
      exact caetake_ack ge gq gl s Xq lb A n c w h hok hacks
    · have e : caTake s kd lb = s := by unfold caTake; rw [if_neg h4]
      rw [e]
      exact caetake_oth ge gq gl s Xq kd lb A n c w h h0 h4
theorem caTake_acc {s : Cs} (kd lb : Int) (h : s.acc = s.done + s.ls.length) : (caTake s kd lb).acc = (caTake s kd lb).done + (caTake s kd lb).ls.length := by
  unfold caTake
  split
  · unfold caAck
    split
    · rename_i h1
      have h2 : s.ls.tail.length + 1 = s.ls.length := by
        cases h3 : s.ls with
        | nil => exact absurd h3 h1.2.1
        | cons a r => simp
      split
      · split
        · show s.acc = s.done + 1 + s.ls.tail.length
          omega
        · show s.acc = s.done + 1 + s.ls.tail.length
          omega
      · exact h
    · exact h
  · exact h
set_option maxHeartbeats 4000000 in
theorem catake_any (g : Nat) (s : Cs) (kd lb : Int) (A : Option Addr) (n c : Nat) (w : World) (X : Nat → Prop) (hF : CaP g s w X) (hok : CaOk s) (hacks : s.acks < 1000000) :
    Calls Try.prog 15 #[.pointer (some ⟨g, 0, none⟩), .agg #[.int .i64 kd, .int .i64 lb, .slice A n c]] w (GivesPks (CaP g (caTake s kd lb)) X (caTakeL s kd) w) := by
  obtain ⟨ge, gq, gl, Xq, h1, h2, h3, h4, rfl⟩ := hF
  have T0 := ((Below.refl _ w).alloc (Nat.le_refl _) (.cells #[.int .i64 kd, .int .i64 lb, .slice A n c] 36))
  have hg1 := (T0.block g (lt_row h1)).trans h1
  have c0 : (w.alloc (.cells #[.int .i64 kd, .int .i64 lb, .slice A n c] 36)).cell? ⟨g, 0, none⟩ = some (.pointer (some ⟨ge, 0, none⟩)) := cell_of_row _ _ _ _ _ _ hg1
  have HM := Lib.hid (camade_any g ⟨ge, 0, none⟩ _ c0)
  have hE : ∀ W, Below w.heap.size w W → Calls Try.prog 33 #[.pointer (some ⟨ge, 0, none⟩), .agg #[.int .i64 kd, .int .i64 lb, .slice A n c]] W (GivesPks (CaP g (caTake s kd lb)) (fun k => k = g ∨ Al ge gl Xq k) (caTakeL s kd) w) := fun W U => by
    refine (caetake_any ge gq gl s Xq kd lb A n c W (h2.below U) hok hacks).mono ?_
    rintro e w' ⟨A1, n1, c1, X', rfl, hp, ⟨Xq', h2', rfl⟩, t⟩
    have hW := (U.block g (lt_row h1)).trans h1
    obtain ⟨k1, k2⟩ := CaP.turn hW h3 h2' (caTake_acc kd lb h4) t
    have hl := lt_row h1
    have hs := U.size
    exact ⟨A1, n1, c1, _, rfl, hp.imp (fun k _ hk => by
      rcases hk with (rfl | hk) | hk
      · exact .inr (by omega)
      · exact .inl hk
      · exact .inr (by omega)), k1, (Turns.of_below U).trans k2⟩
  have HE := Lib.hid hE
  have p1 := heap_alloc_new w (.cells #[.int .i64 kd, .int .i64 lb, .slice A n c] 36)
  obtain ⟨p0, p1, p2, -, -, -⟩ := row3 p1
  have HT0 := Lib.hid T0
  clear h1 h2 h3 h4 T0 hE hok hg1
  go_enter Try.func15, Try.ntmps15
  go_wp2_with (fail)
  refine HM.out.mono ?_
  rintro e w1 ⟨rfl, rfl⟩
  go_wp2_with (fail)
  go_region_with ((go_at_call 33; (with_reducible refine (HE.out _ (by first | exact HT0.out | exact HT0.out.drew)).mono ?_); rintro e w2 ⟨A2, n2, c2, X2, rfl, hp, hF, ht⟩; have HG := Lib.hid (And.intro hp (And.intro hF ht))))
  all_goals
    go_wp2
    go_ret
    exact ⟨_, _, _, _, rfl, HG.out.1, HG.out.2.1, HG.out.2.2⟩
end Go.Proofs.Ytepmecmhnefhkaa
