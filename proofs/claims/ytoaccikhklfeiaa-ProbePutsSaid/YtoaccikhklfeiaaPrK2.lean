/- Contracts of the landed probe (at 22a70fa): Get, and all of them. -/
import Derived.Test.YtoaccikhklfeiaaPrK
namespace Go.Proofs.Ytoaccikhklfeiaa
open Go.RowKit
set_option maxRecDepth 20000

/-- what told says, held to the rule of a right packet, is what is a packet's -/
theorem prOk_told (x : UInt8) (d : List UInt8) : prOk (x :: d) = prRight (prToldK x.toNat) (prToldL x.toNat) d.length := by
  rw [prOk_cons]
  unfold prToldK prToldL
  by_cases h : x.toNat = 3 ∨ 8 ≤ x.toNat
  · rw [if_pos h, if_pos h]
    have hr : prRight (-1) 0 d.length = false := by unfold prRight; rw [if_pos (by omega)]
    rw [hr]
    rcases h with h | h
    · simp [h]
    · have : decide (x.toNat < 8) = false := by simp; omega
      rw [this]; simp
  · rw [if_neg h, if_neg h]
    have h1 : decide (x.toNat ≠ 3) = true := by simp; omega
    have h2 : decide (x.toNat < 8) = true := by simp; omega
    rw [h1, h2]
    simp
theorem prTold_ok {x : UInt8} {d : List UInt8} (h : prOk (x :: d) = true) : prToldK x.toNat = prKind x.toNat ∧ prToldL x.toNat = prLabel x.toNat := by
  rw [prOk_cons] at h
  simp only [Bool.and_eq_true, decide_eq_true_eq] at h
  unfold prToldK prToldL
  rw [if_neg (by omega), if_neg (by omega)]
  exact ⟨rfl, rfl⟩
theorem prget_nil (A : Option Addr) (c : Nat) (w : World) :
    Calls Try.prog 11 #[.slice A 0 c] w (GivesPr w 0 0 [] 130) := by
  go_enter Try.func11, Try.ntmps11
  go_wp2
  (try simp only [Exit.inBlock, Exit.then])
  refine bodyPost_ret (v := .tuple #[.agg #[.int .i64 0, .int .i64 0, .slice none 0 0], .int .i64 130]) (res_cell_tmp rfl _ _ w.heap.size 24 #[.int .i64 0, .int .i64 0, .slice none 0 0] (0, 0) _ _ rfl rfl (heap_alloc_new w _) Try.underlying24 rfl (by kernel_rfl)) rfl ?_
  exact ⟨_, _, _, rfl, Bys.nil _, (Below.refl _ _).alloc (Nat.le_refl _) _⟩
set_option maxHeartbeats 8000000 in
theorem prget_cons (A : Option Addr) (n c : Nat) (x : UInt8) (d : List UInt8) (w : World) (hB : Bys w A n c (x :: d)) (hn : n ≤ 140737488355328) (K L : Int) (hK : prToldK x.toNat = K) (hL : prToldL x.toNat = L) (R : Bool) (hR : prRight K L d.length = R) :
    Calls Try.prog 11 #[.slice A n c] w (GivesPr w (if R then K else 0) (if R then L else 0) (if R then d else []) (if R then 0 else 130)) := by
  have hl := hB.len
  simp at hl
  obtain ⟨g, o, rfl, hg, hc⟩ := hB.at_ (by omega)
  have q1 := hc 0 (by simp)
  have hle := hB.le
  have hcap := hB.cap
  simp only [List.getElem_cons_zero, Nat.add_zero] at q1
  obtain ⟨A2, s1, hD⟩ := cut_lo hB 1 (by omega)
  simp only [List.drop_succ_cons, List.drop_zero] at hD
  clear hc hB
  have hn1 : ((n : Int) == 0) = false := by simp; omega
  have hn0 : 0 < n := by omega
  have hHd := Lib.hid (fun W => prheader_any K L A2 (n - 1) (c - 1) W)
  rw [show n - 1 = d.length by omega, hR] at hHd
  have hT := Lib.hid (fun W => prtold_any x.toNat (by have := x.toNat_lt; omega) W)
  rw [hK, hL] at hT
  have hD := Lib.hid hD
  have hl' : n - 1 = d.length := by omega
  have s2 : ∀ W, (Instr.sliceAt 22 (.slice (some ⟨g, o, none⟩) n c) (some (.int .i64 1)) none none).run Try.prog W = .ok (.slice A2 d.length (c - 1)) W := by rw [← hl']; exact s1
  have hdl : d.length ≤ 140737488355328 := by omega
  rw [hl'] at hD
  clear s1
  generalize c - 1 = c2 at *
  have HL := Lib.hid (And.intro hl hn)
  clear hl hn hl' hK hL hR
  cases R with
  | false =>
    go_enter Try.func11, Try.ntmps11
    go_wp2_with (fail)
    refine (hT.out _).mono ?_
    rintro e w1 ⟨rfl, rfl⟩
    go_wp2_with (fail)
    refine (hHd.out _).mono ?_
    rintro e w2 ⟨rfl, T1⟩
    obtain ⟨b0, b1⟩ := two_rows T1
    have T1 := nxt (((Below.refl _ w).alloc (Nat.le_refl _) _).alloc (by simp) _) T1
    have B0 := Lib.hid b0
    obtain ⟨c0, c1, c3, f0, f1, f2⟩ := row3 b0
    clear b0 b1
    go_wp2_with (fail)
    (try simp only [Exit.inBlock, Exit.then])
    refine bodyPost_ret (v := .tuple #[.agg #[.int .i64 0, .int .i64 0, .slice none 0 0], .int .i64 130]) (res_cell_tmp rfl _ _ w.heap.size 24 #[.int .i64 0, .int .i64 0, .slice none 0 0] (0, 0) _ _ rfl rfl (stored3 B0.out _ _ _) Try.underlying24 rfl (by kernel_rfl)) rfl ?_
    exact ⟨_, _, _, rfl, Bys.nil _, ((T1.setCell (Nat.le_refl _) _).setCell (Nat.le_refl _) _).setCell (Nat.le_refl _) _⟩
  | true =>
    go_enter Try.func11, Try.ntmps11
    go_wp2_with (fail)
    refine (hT.out _).mono ?_
    rintro e w1 ⟨rfl, rfl⟩
    go_wp2_with (fail)
    refine (hHd.out _).mono ?_
    rintro e w2 ⟨rfl, T1⟩
    obtain ⟨b0, b1⟩ := two_rows T1
    have T1 := nxt (((Below.refl _ w).alloc (Nat.le_refl _) _).alloc (by simp) _) T1
    have hD2 := Lib.hid (hD.out.below T1)
    have B0 := Lib.hid b0
    have B1 := Lib.hid b1
    have HT1 := Lib.hid T1
    obtain ⟨c3, c4, c5, f3, f4, f5⟩ := row3 b1
    clear b0 b1 T1
    go_wp2_with ((with_reducible refine app_bys _ rfl (.const (.slice none 0 0)) (.tmp 34) rfl w2.heap.size (.slice none 0 0) 0 [] rfl ?_ A2 d.length c2 d rfl ?_ ?_ ?_ ?_); (exact World.ownsRow_nil _ _ _ _); (exact hD2.out); (omega); (exact Nat.le_refl _); intro v3 w3 hown3 hgrow3 hwhere3; obtain ⟨A3, c6, rfl⟩ := own_shape hown3; simp only [Nat.zero_add, List.nil_append] at hown3 hgrow3 hwhere3 ⊢; have hT3 := Lib.hid (show Below w2.heap.size w2 w3 from (Below.refl _ w2).grown hgrow3 (Nat.le_refl _) (by intro k hk; simp [Value.ownBlock] at hk)); have hO3 := Lib.hid hown3; have b1' := Lib.hid ((hT3.out.block _ (lt_row B1.out)).trans B1.out); have b0' := Lib.hid ((hT3.out.block _ (lt_row B0.out)).trans B0.out); obtain ⟨c7, c8, c9, f7, f8, f9⟩ := row3 b1'.out; obtain ⟨cA, cB, cC, fA, fB, fC⟩ := row3 b0'.out; clear hown3 hgrow3 hwhere3 c3 c4 c5 f3 f4 f5)
    (try simp only [Exit.inBlock, Exit.then])
    have hfr : Av (· < w2.heap.size) d.length A3 := own_fr hO3.out
    have hle2 := HT1.out.size
    have hlt := lt_row B1.out
    have g0 : (w3.setCell ⟨w.heap.size + 1, 2, none⟩ (.slice A3 d.length c6)).heap[w.heap.size]? = _ := (Below.heap_setCell w3 _ _ _ (by simp)).trans b0'.out
    refine bodyPost_ret (v := .tuple #[.agg #[.int .i64 K, .int .i64 L, .slice A3 d.length c6], .int .i64 0]) (res_cell_tmp rfl _ _ w.heap.size 24 #[.int .i64 K, .int .i64 L, .slice A3 d.length c6] (0, 0) _ _ rfl rfl (stored3 g0 _ _ _) Try.underlying24 rfl (by kernel_rfl)) rfl ?_
    refine ⟨_, _, _, rfl, ?_, (((((nxt HT1.out hT3.out).setCell (by simp) _).setCell (Nat.le_refl _) _).setCell (Nat.le_refl _) _).setCell (Nat.le_refl _) _)⟩
    have k1 : Off (· < w2.heap.size) w3 (w3.setCell ⟨w.heap.size + 1, 2, none⟩ (.slice A3 d.length c6)) := (Off.refl _ _).setCell (.inl hlt) _
    have k2 := ((k1.setCell (p := ⟨w.heap.size, 0, none⟩) (.inl (by show w.heap.size < w2.heap.size; omega)) (.int .i64 K)).setCell (p := ⟨w.heap.size, 1, none⟩) (.inl (by show w.heap.size < w2.heap.size; omega)) (.int .i64 L)).setCell (p := ⟨w.heap.size, 2, none⟩) (.inl (by show w.heap.size < w2.heap.size; omega)) (.slice A3 d.length c6)
    exact (Bys.of_own hO3.out).off hfr k2
theorem prget_any (A : Option Addr) (n c : Nat) (b : List UInt8) (w : World) (hB : Bys w A n c b) (hn : n ≤ 140737488355328) :
    Calls Try.prog 11 #[.slice A n c] w (GivesPr w (prGetK b) (prGetL b) (prGetD b) (prGetE b)) := by
  match b, hB with
  | [], hB =>
    obtain rfl : n = 0 := by have := hB.len; simpa using this.symm
    exact prget_nil A c w
  | x :: d, hB =>
    have h := prget_cons A n c x d w hB hn _ _ rfl rfl _ rfl
    rw [prGetK_cons, prGetL_cons, prGetD_cons]
    unfold prGetE
    rw [prOk_told]
    by_cases ho : prOk (x :: d) = true
    · have e := prTold_ok ho
      rw [prOk_told] at ho
      rw [ho] at h ⊢
      rw [e.1, e.2] at h
      exact h
    · rw [Bool.not_eq_true, prOk_told] at ho
      rw [ho] at h ⊢
      exact h
theorem prC : PrC where
  put := fun k l A n c d w _ _ hB => prput_any k l A n c d w hB
  get := prget_any
  same := prsame_any
end Go.Proofs.Ytoaccikhklfeiaa
