/- Package puller, as landed: a place is kept. -/
import Derived.Test.YtpidbgnlehikeaaPlK2
namespace Go.Proofs.Ytpidbgnlehikeaa
open Go.RowKit
set_option maxRecDepth 20000

/-- bytes.Join of one part -/
theorem plbjoin_any (A : Option Addr) (n c b : Nat) (l : List UInt8) (w : World) (hc : w.cell? ⟨b, 0, none⟩ = some (.slice A n c)) (hB : Bys w A n c l) (hn : n ≤ 140737488355328) :
    Calls Try.prog 55 #[.slice (some ⟨b, 0, none⟩) 1 1, .slice none 0 0] w (GivesW w l) := by
  have HB := Lib.hid hB
  have HL := Lib.hid hB.len
  clear hB
  go_enter Try.func55, Try.ntmps55
  go_wp2_with ((with_reducible refine app_bys _ rfl (.const (.slice none 0 0)) (.tmp 21) rfl w.heap.size (.slice none 0 0) 0 [] rfl ?_ A n c l rfl ?_ ?_ ?_ ?_); (exact World.ownsRow_nil _ _ _ _); (exact HB.out); (omega); (exact Nat.le_refl _); intro v1 w1 hown1 hgrow1 hwhere1)
  go_ret
  simp only [Nat.zero_add, List.nil_append] at hown1
  refine ⟨_, rfl, ?_, (Below.refl _ w).grown hgrow1 (by simp) (by intro k hk; simp [Value.ownBlock] at hk)⟩
  rw [HL.out]
  exact hown1
theorem plojoin_any (A : Option Addr) (n c b : Nat) (l : List UInt8) (w : World) (hc : w.cell? ⟨b, 0, none⟩ = some (.slice A n c)) (hB : Bys w A n c l) (hn : n ≤ 140737488355328) :
    Calls Try.prog 41 #[.slice (some ⟨b, 0, none⟩) 1 1] w (GivesW w l) := by
  have H := Lib.hid (plbjoin_any A n c b l w hc hB hn)
  clear hc hB hn
  go_enter Try.func41, Try.ntmps41
  go_wp2_with (fail)
  refine H.out.mono ?_
  rintro e w1 ⟨v, rfl, hv, T1⟩
  obtain ⟨A1, c1, rfl⟩ := own_shape hv
  have HV := Lib.hid hv
  clear hv H
  go_wp2
  go_ret
  exact ⟨_, rfl, HV.out, T1⟩
/-- a copy, as it comes from a literal of one slice that was laid at w -/
def GivesCp (w : World) (l : List UInt8) (e : Ending) (w' : World) : Prop := ∃ A1 c1, e = .returned (.slice A1 l.length c1) ∧ Bys w' A1 l.length c1 l ∧ Av (· < w.heap.size) l.length A1 ∧ Below w.heap.size w w'
theorem plcopy (A : Option Addr) (n c : Nat) (l : List UInt8) (w V : World) (hr : V.heap[w.heap.size]? = some (.cells #[.slice A n c] 36 (0, 0))) (U : Below w.heap.size w V) (hB : Bys w A n c l) (hn : n ≤ 140737488355328) :
    Calls Try.prog 41 #[.slice (some ⟨w.heap.size, 0, none⟩) 1 1] V (GivesCp w l) := by
  refine (plojoin_any A n c w.heap.size l _ (cell_of_row _ _ _ _ _ _ hr) (hB.below U) hn).mono ?_
  rintro e w1 ⟨v, rfl, hv, T1⟩
  obtain ⟨A1, c1, rfl⟩ := own_shape hv
  exact ⟨A1, c1, rfl, Bys.of_own hv, (own_fr hv).mono U.size, nxt U T1⟩
theorem LtP.ks {m : Nat} {l : List Lt} {w : World} {X : Nat → Prop} {T : Int → Option Value} (h : ∀ k : Int, LtV w X m (T k) (ltGet l k)) : ∀ x, x ∈ l.map (fun t => (t.1 : Int)) ↔ (T x).isSome = true := fun x => by
  rw [(h x).some_eq, ltGet_some]
section
variable {Q : Nat → Nat → List (List UInt8) → World → (Nat → Prop) → Prop} {x gq m : Nat} {s : Pls} {Xq Xl : Nat → Prop} {w : World}
set_option maxHeartbeats 8000000 in
theorem plkeep_any (C : QuC Q) (h : PeV Q x gq m s Xq Xl w) (hok : PlOk s) (seq : Int) (A : Option Addr) (n c : Nat) (d : List UInt8) (hb : s.ent ≤ 300000) (hB : Bys w A n c d) :
    Calls Try.prog 27 #[.pointer (some ⟨x, 0, none⟩), .int .i64 seq, .slice A n c] w fun e w' => e = .returned (.tuple #[]) ∧ ∃ Xl', PeV Q x gq m (plKept s seq d) Xq Xl' w' ∧ Turns (Ob3 x Xq Xl) (Ob3 x Xq Xl') w w' := by
  obtain ⟨⟨c0, c1, -, c3, c4⟩, -⟩ := h.cells
  have HR := Lib.hid h
  have hxw := obrow_lt h.1
  obtain ⟨T, hT, hmX, hXl, hLV⟩ := h.2.2.1
  have hw := hok.1.1
  have hs := hok.2.2.1
  have HNR := Lib.hid (fun W => (rgnear_any (s.ent : Int) s.c.w seq s.c.m W).mono (fun _ _ h => And.intro h.1 h.2.symm))
  have HLK := Lib.hid (fun W (U : Below w.heap.size w W) k (hk : I64s k) => (hT.off (X := fun _ => False) (Off.of_below U) (fun h => h)).look k hk)
  have hln := hB.len
  cases hn : rgNear (s.ent : Int) s.c.w seq s.c.m with
  | none =>
    rw [hn] at HNR
    have HNR : Hid (∀ W, Calls Try.prog 40 #[.int .i64 (s.ent : Int), .int .i64 s.c.w, .int .i64 seq, .int .i64 s.c.m] W fun e w' => e = .returned (.tuple #[.int .i64 0, .bool false]) ∧ w' = W) := HNR.out
    have e1 : plKept s seq d = s := by unfold plKept plNear; rw [hn]
    rw [e1]
    have HL0 := Lib.hid (fun W (U : Below w.heap.size w W) => HLK.out W U 0 ⟨by omega, by omega⟩)
    generalize (T 0).getD (.slice none 0 0) = v0 at HL0
    generalize (T 0).isSome = b0 at HL0
    clear h hok hn e1 hT hLV HLK hB
    go_enter Try.func27, Try.ntmps27
    go_wp2_with (fail)
    go_quiet ((go_at_call 40; refine Calls.quiet_of_same (HNR.out _)))
    have B := below_drewN' (Below.refl w.heap.size w) nq
    have hlook := HL0.out _ B
    go_wp2_with (fail)
    refine bodyPost_ret (results_none rfl _ _ _) rfl ?_
    exact ⟨rfl, Xl, HR.out.below C B, Turns.of_below B⟩
  | some q0 =>
    obtain ⟨hq1, hq2, -⟩ := plNear_some hn
    obtain ⟨q, rfl⟩ : ∃ q : Nat, q0 = (q : Int) := ⟨q0.toNat, by omega⟩
    rw [hn] at HNR
    have HNR : Hid (∀ W, Calls Try.prog 40 #[.int .i64 (s.ent : Int), .int .i64 s.c.w, .int .i64 seq, .int .i64 s.c.m] W fun e w' => e = .returned (.tuple #[.int .i64 (q : Int), .bool true]) ∧ w' = W) := HNR.out
    have e1 : plKept s seq d = if d.length ≤ 64 then { s with late := ltKeep s.late q d } else s := by unfold plKept plNear; rw [hn]; rfl
    rw [e1]
    have hget := ltHas_get hs q
    have hTq := (hLV (q : Int)).some_eq
    rw [hget] at hTq
    have HL0 := Lib.hid (fun W (U : Below w.heap.size w W) => HLK.out W U (q : Int) ⟨by omega, by omega⟩)
    rw [hTq] at HL0
    cases hh : ltHas s.late q with
    | true =>
      have e2 : (if d.length ≤ 64 then { s with late := ltKeep s.late q d } else s) = s := by
        split
        · unfold ltKeep; rw [hh, if_pos rfl]
        · rfl
      rw [e2]
      rw [hh] at HL0
      generalize (T (q : Int)).getD (.slice none 0 0) = v0 at HL0
      clear h hok hn e1 e2 hT hLV HLK hB hget hTq
      go_enter Try.func27, Try.ntmps27
      go_wp2_with (fail)
      go_quiet ((go_at_call 40; refine Calls.quiet_of_same (HNR.out _)))
      have B := below_drewN' (Below.refl w.heap.size w) nq
      have hlook := HL0.out _ B
      go_wp2_with (fail)
      refine bodyPost_ret (results_none rfl _ _ _) rfl ?_
      exact ⟨rfl, Xl, HR.out.below C B, Turns.of_below B⟩
    | false =>
      rw [hh] at HL0
      generalize (T (q : Int)).getD (.slice none 0 0) = v0 at HL0
      by_cases h64 : d.length ≤ 64
      · rw [if_pos h64]
        have d1 : decide ((64 : Int) < (n : Int)) = false := by simp; omega
        have d1' : ¬ 64 < n := by omega
        have hHS := Lib.hid hh
        have HKS := Lib.hid (ltKeysZ hs)
        have HLL : Hid ((s.late.map (fun t => (t.1 : Int))).length < 100000) := by show _ < _; have := hok.llen; simp; omega
        have HLT := Lib.hid (fun W (U : Below w.heap.size w W) => (hT.off (X := fun _ => False) (Off.of_below U) (fun h => h)))
        have HLV := Lib.hid (fun W (U : Below w.heap.size w W) (k : Int) => (hLV k).off (X' := Xl) (Off.of_below (X := fun _ => False) U) (fun _ _ _ h => h) (fun _ h => h))
        have HQ : Hid (∀ W X' l', LtP m l' W X' → Turns Xl X' w W → PeV Q x gq m { s with late := l' } Xq X' W ∧ Turns (Ob3 x Xq Xl) (Ob3 x Xq X') w W) := fun W X' l' hl t => Ob.q (C.holds _ _ _) HR.out hl t
        have HXL := Lib.hid (And.intro hmX hXl)
        have HXM : Hid (some m ≠ some x) := fun e => by injection e with e; subst e; exact h.2.2.2.2.1 hmX
        have HKQ := Lib.hid (fun W (U : Below w.heap.size w W) => hB.below U)
        have HLN := Lib.hid hln
        have hbq : I64s (q : Int) := ⟨by omega, by omega⟩
        have HBQ := Lib.hid hbq
        have hn7 : n ≤ 140737488355328 := by omega
        clear h hok hn e1 hT hLV HLK hB hget hTq hh h64 hln hbq hs hmX hXl
        go_enter Try.func27, Try.ntmps27
        go_wp2_with (fail)
        go_quiet ((go_at_call 40; refine Calls.quiet_of_same (HNR.out _)))
        have B := below_drewN' (Below.refl w.heap.size w) nq
        have hlook := HL0.out _ B
        have C3 : Hid (∀ W, Below w.heap.size w W → W.cell? ⟨x, 3, none⟩ = some (.map (some m))) := fun W U => (HR.out.below C U).cells.1.2.2.2.1
        generalize w.drewN nq = W at *
        clear c0 c1 c3 c4
        have c3 := C3.out _ B
        go_wp2_with (fail)
        have HB := Lib.hid B
        have P0 := Lib.hid (Below.refl W.heap.size W)
        have hr0 := heap_alloc_new W (.cells #[.slice A n c] 36)
        have U0 := (Below.refl W.heap.size W).alloc (Nat.le_refl _) (.cells #[.slice A n c] 36)
        have hJ1 := plcopy A n c d W _ hr0 U0 (HKQ.out _ B) hn7
        have hJ2 := plcopy A n c d W ((W.alloc (.cells #[.slice A n c] 36)).drew) hr0 U0.drew (HKQ.out _ B) hn7
        have hJ3 := plcopy A n c d W (W.drew.alloc (.cells #[.slice A n c] 36)) (heap_alloc_new W.drew _) ((Below.refl W.heap.size W).drew.alloc (Nat.le_refl _) _) (HKQ.out _ B) hn7
        have HJ1 := Lib.hid hJ1
        have HJ2 := Lib.hid hJ2
        have HJ3 := Lib.hid hJ3
        clear c3 hJ1 hJ2 hJ3 hr0 U0 hlook B
        go_region_held3 (fun w' => w'.cell? ⟨x, 3, none⟩ = some (.map (some m))) (first | exact K3.out | (with_reducible exact C3.out _ HB.out) | (with_reducible exact C3.out _ HB.out.drew) | exact C3.out _ HB2.out | exact C3.out _ (HB.out.alloc HB.out.size _) | exact C3.out _ (HB.out.drew.alloc HB.out.size _))
          (first
            | (go_at_call 41; (first | (with_reducible refine HJ1.out.mono ?_) | (with_reducible refine HJ2.out.mono ?_) | (with_reducible refine HJ3.out.mono ?_)); rintro e w2 ⟨A1, k1, rfl, hB1, hA1, U1⟩; have HB2 := Lib.hid (nxt HB.out U1); have HE2 := Lib.hid (And.intro hB1 hA1); obtain ⟨w3, hrun, hM3, hg3⟩ := (HLT.out _ HB2.out).put _ HKS.out (LtP.ks (HLV.out _ HB2.out)) HLL.out (q : Int) HBQ.out (.slice A1 d.length k1); have HE3 := Lib.hid (And.intro hM3 hg3); have K3 := Lib.hid (grown_cell hg3 (p := ⟨x, 3, none⟩) (Nat.lt_of_lt_of_le hxw HB2.out.size) HXM.out (C3.out _ HB2.out)); clear hB1 hA1 hM3 hg3))
        all_goals
          go_wp2_with (fail)
          go_end0
          obtain ⟨X', hL, tt⟩ := LtP.put (w0 := w) HXL.out.2 HXL.out.1 (HLV.out _ HB2.out) HB2.out HE2.out.1 (HE2.out.2.mono HB.out.size) hHS.out HE3.out.1 HE3.out.2
          exact ⟨rfl, X', HQ.out _ _ _ hL tt⟩
      · rw [if_neg h64]
        have d1 : decide ((64 : Int) < (n : Int)) = true := by simp; omega
        have d1' : 64 < n := by omega
        clear h hok hn e1 hT hLV HLK hB hget hTq
        go_enter Try.func27, Try.ntmps27
        go_wp2_with (fail)
        go_quiet ((go_at_call 40; refine Calls.quiet_of_same (HNR.out _)))
        have B := below_drewN' (Below.refl w.heap.size w) nq
        have hlook := HL0.out _ B
        go_wp2_with (fail)
        refine bodyPost_ret (results_none rfl _ _ _) rfl ?_
        exact ⟨rfl, Xl, HR.out.below C B, Turns.of_below B⟩
end
end Go.Proofs.Ytpidbgnlehikeaa
