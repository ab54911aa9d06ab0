/- Package nonce, as landed: a block with whether it was made, what was handed in, and how many were drawn. -/
import Derived.Test.YtoajbocpebfjoaaNoC
import Derived.Test.YtoajbocpebfjoaaMapI
namespace Go.Proofs.Ytoajbocpebfjoaa
open Go.RowKit
set_option maxRecDepth 20000

theorem vals_off {X : Nat → Prop} {w w' : World} {A : Option Addr} {n c : Nat} {vs : List Value} (h : Vals w A n c vs) (hA : Av X n A) (o : Off X w w') : Vals w' A n c vs :=
  ⟨h.len, h.le, h.cap, fun hn => by
    obtain ⟨b, p, e, hb, hc⟩ := h.at_ hn
    exact ⟨b, p, e, Nat.lt_of_lt_of_le hb o.size, fun j hj => (o.cell (p := ⟨b, p + j, none⟩) hb (hA hn ⟨b, p, none⟩ e)).trans (hc j hj)⟩⟩
/-- the landed source -/
def NoP (g : Nat) (l : List Nat) (k : Nat) (w : World) (X : Nat → Prop) : Prop :=
  X g ∧ (∀ j, X j → j < w.heap.size) ∧ (l.length ≤ 17592186044416 ∧ k ≤ 1000000) ∧ ∃ A c, w.heap[g]? = some (.cells #[.bool true, .slice A l.length c, .int .i64 (k : Int)] 82 (0, 0)) ∧ Us w A l.length c l ∧ Av (fun j => ¬ X j ∨ j = g) l.length A
theorem NoP.holds (g : Nat) (l : List Nat) (k : Nat) : Holds (NoP g l k) where
  lt := fun h => h.2.1
  off := fun {w w' X Y} h o hd => by
    obtain ⟨h1, h2, h3, A, c, h4, h5, h6⟩ := h
    exact ⟨h1, fun k hk => Nat.lt_of_lt_of_le (h2 k hk) o.size, h3, A, c, (o.block g (h2 g h1) (hd g h1)).trans h4, vals_off h5 (h6.imp fun j hj => Classical.byContradiction fun hn => hd j (Classical.byContradiction fun hx => hn (.inl hx)) hj) o, h6⟩
theorem row3n {w : World} {g : Nat} {t : TypeId} {a b c : Value} (h : w.heap[g]? = some (.cells #[a, b, c] t (0, 0))) :
    w.cell? ⟨g, 0, none⟩ = some a ∧ w.cell? ⟨g, 1, none⟩ = some b ∧ w.cell? ⟨g, 2, none⟩ = some c ∧ w.frozen? ⟨g, 2, none⟩ = false :=
  ⟨cell_of_row _ _ _ _ _ _ h, cell_of_row _ _ _ _ _ _ h, cell_of_row _ _ _ _ _ _ h, frozen_of_row w _ _ _ _ h⟩
set_option maxHeartbeats 1000000 in
theorem noclone_any (A : Option Addr) (n c : Nat) (l : List Nat) (w : World) (hU : Us w A n c l) (hn : n ≤ 17592186044416) :
    Calls Try.prog 26 #[.slice A n c] w fun e w' => ∃ A' c', e = .returned (.slice A' n c') ∧ Us w' A' n c' l ∧ Av (· < w.heap.size) n A' ∧ Below w.heap.size w w' := by
  have q22 : ∀ (w : World) (a : Option Addr) (n c n' c' : Nat), (binOp .eql 22 (.slice a n c) (.slice none n' c')).run Try.prog w = .ok (.bool a.isNone) w := fun w a n c n' c' => Lib.run_eql_slice_nil w _ _ a n c n' c' Try.underlying22
  have hlen := Lib.hid hU.len
  rcases A with _ | ad
  · have h0 : n = 0 := by
      rcases Nat.eq_zero_or_pos n with h | h
      · exact h
      · obtain ⟨b, o, e, _⟩ := hU.at_ h
        cases e
    have hl : l = [] := List.eq_nil_of_length_eq_zero (by rw [hU.len, h0])
    subst h0
    subst hl
    clear hU
    go_enter Try.func26, Try.ntmps26
    go_wp2
    go_ret
    exact ⟨none, 0, rfl, Us.nil _, Av.zero _ _, Below.refl _ _⟩
  · have HE := Lib.hid (empty_rowu w)
    have HU := Lib.hid (Vals.alloc hU (.cells #[] 38))
    clear hU
    go_enter Try.func26, Try.ntmps26
    go_wp2_with ((refine app_u _ rfl (.tmp 5) (.tmp 6) rfl w.heap.size (.slice (some ⟨w.heap.size, 0, none⟩) 0 0) [] rfl ?_ (some ad) n c l rfl ?_ ?_ ?_ ?_); (exact HE.out); (exact HU.out); (simp; omega); (simp); intro v1 w1 hown1 hgrow1 hwhere1)
    go_ret
    simp only [List.nil_append] at hown1
    obtain ⟨A', c', hv, k1, k2, k3⟩ := hown1.shape
    rw [hlen.out] at hv k1 k3
    subst hv
    refine ⟨A', c', rfl, k1, fun hn p hp => ?_, ((Below.refl _ w).alloc (Nat.le_refl _) _).grown hgrow1 (by simp) (by intro k hk; simp [Value.ownBlock] at hk; omega)⟩
    obtain ⟨b, rfl, hb⟩ := k3 hn
    injection hp with hp
    subst hp
    have := (hown1.lt b hb).1
    show ¬ b < w.heap.size
    omega
set_option maxHeartbeats 1000000 in
theorem nonew_any (A : Option Addr) (n c : Nat) (l : List Nat) (w : World) (hU : Us w A n c l) (hn : n ≤ 17592186044416) :
    Calls Try.prog 9 #[.slice A n c] w fun e w' => ∃ g X, e = .returned (.pointer (some ⟨g, 0, none⟩)) ∧ NoP g l 0 w' X ∧ (∀ k, X k → w.heap.size ≤ k) ∧ Below w.heap.size w w' := by
  have HC := Lib.hid (noclone_any A n c l w hU hn)
  have hl := hU.len
  have HL := Lib.hid hl
  clear hU hl
  go_enter Try.func9, Try.ntmps9
  go_wp2_with (fail)
  refine HC.out.mono ?_
  rintro e w1 ⟨A', c', rfl, hU1, hA1, T1⟩
  have HU1 := Lib.hid (And.intro hU1 hA1)
  clear hU1 hA1
  go_wp2
  go_ret
  have U := (Below.refl _ w1).alloc (Nat.le_refl _) (.cells #[.bool true, .slice A' n c', .int .i64 0] 82)
  have hs := T1.size
  refine ⟨w1.heap.size, fun j => w.heap.size ≤ j ∧ j ≤ w1.heap.size, rfl, ⟨⟨hs, Nat.le_refl _⟩, fun j hj => by have := hj.2; simp; omega, ⟨by rw [HL.out]; omega, by omega⟩, A', c', ?_, ?_, ?_⟩, fun k hk => hk.1, nxt T1 U⟩
  · rw [HL.out]; exact heap_alloc_new w1 _
  · rw [HL.out]; exact Vals.below HU1.out.1 U
  · rw [HL.out]
    intro h0 p hp
    have h1 := HU1.out.2 h0 p hp
    obtain ⟨b, o, e, hb, _⟩ := HU1.out.1.at_ h0
    rw [hp] at e
    injection e with e
    subst e
    simp only at h1 ⊢
    omega
set_option maxHeartbeats 1000000 in
/-- the number that is drawn i'th -/
theorem noat_any (g i : Nat) (l : List Nat) (A : Option Addr) (c : Nat) (w : World) (h1 : w.cell? ⟨g, 1, none⟩ = some (.slice A l.length c)) (hU : Us w A l.length c l) (hl : l.length ≤ 17592186044416) (hi : i ≤ 1000000) :
    Calls Try.prog 40 #[.pointer (some ⟨g, 0, none⟩), .int .i64 (i : Int)] w fun e w' => e = .returned (.int .u64 ((nx l i : Nat) : Int)) ∧ w = w' := by
  obtain ⟨N, hN⟩ : ∃ N, l.length = N := ⟨_, rfl⟩
  rw [hN] at h1 hl hU
  by_cases hlt : i < N
  · obtain ⟨b, o, rfl, hb, hc⟩ := hU.cell (by omega)
    have c1 := hc i (by omega)
    have e : nx l i = l[i]'(by omega) := by unfold nx; rw [if_pos (by omega)]; simp [hN, hlt]
    rw [← e] at c1
    have hnc := hU.le
    have hcm := hU.cap
    have d1 : decide ((i : Int) < (N : Int)) = true := by simp; omega
    have d2 : (i : Int) < (N : Int) := by omega
    generalize nx l i = x at *
    clear hU hc e hN
    go_enter Try.func40, Try.ntmps40
    go_wp2
    go_ret
    exact ⟨rfl, rfl⟩
  · have d1 : decide ((i : Int) < (N : Int)) = false := by simp; omega
    have d2 : ¬ ((i : Int) < (N : Int)) := by omega
    have e : ((nx l i : Nat) : Int) = 9223372036854775808 + ((i : Int) - (N : Int)) := by unfold nx; rw [if_neg (by omega), hN]; omega
    have w1 : IntKind.i64.wrap ((i : Int) - (N : Int)) = (i : Int) - (N : Int) := IntWalk.i64_in _ (by omega)
    have w2 : wrap64 ((i : Int) - (N : Int)) = (i : Int) - (N : Int) := IntWalk.wrap64_in _ (by omega)
    have w3 : IntKind.u64.wrap ((i : Int) - (N : Int)) = (i : Int) - (N : Int) := IntWalk.u64_in _ (by omega)
    have w4 : IntKind.u64.wrap (9223372036854775808 + ((i : Int) - (N : Int))) = 9223372036854775808 + ((i : Int) - (N : Int)) := IntWalk.u64_in _ (by omega)
    rw [e]
    clear hU e hN
    go_enter Try.func40, Try.ntmps40
    go_wp2
    go_ret
    exact ⟨rfl, rfl⟩
set_option maxHeartbeats 1000000 in
theorem nonext_any (g : Nat) (l : List Nat) (k : Nat) (w : World) (X : Nat → Prop) (hS : NoP g l k w X) (hk : k < 1000000) :
    Calls Try.prog 25 #[.pointer (some ⟨g, 0, none⟩)] w fun e w' => e = .returned (.int .u64 ((nx l k : Nat) : Int)) ∧ ∃ X', NoP g l (k + 1) w' X' ∧ Turns X X' w w' := by
  obtain ⟨hX, hlt, hb, A, c, hg, hU, hA⟩ := hS
  obtain ⟨c0, c1, c2, f2⟩ := row3n hg
  have O : Off (· = g) w (w.setCell ⟨g, 2, none⟩ (.int .i64 ((k : Int) + 1))) := (Off.refl (· = g) w).setCell (p := ⟨g, 2, none⟩) (.inl rfl) _
  have hg2 := heap_setCell_same w g 2 _ _ (.int .i64 ((k : Int) + 1)) hg
  have hg3 : (w.setCell ⟨g, 2, none⟩ (.int .i64 ((k : Int) + 1))).heap[g]? = some (.cells #[.bool true, .slice A l.length c, .int .i64 ((k : Int) + 1)] 82 (0, 0)) := by simpa using hg2
  have hU3 := vals_off hU (hA.imp fun j hj => .inr hj) O
  obtain ⟨e0, e1, e2, _⟩ := row3n hg3
  have HA := Lib.hid (noat_any g k l A c _ e1 hU3 hb.1 (by omega))
  have HE : Hid (NoP g l (k + 1) (w.setCell ⟨g, 2, none⟩ (.int .i64 ((k : Int) + 1))) X ∧ Turns X X w (w.setCell ⟨g, 2, none⟩ (.int .i64 ((k : Int) + 1)))) :=
    ⟨⟨hX, fun j hj => Nat.lt_of_lt_of_le (hlt j hj) O.size, ⟨hb.1, by omega⟩, A, c, by simpa using hg3, hU3, hA⟩, (Off.refl X w).setCell (p := ⟨g, 2, none⟩) (.inl hX) _, fun j hj => .inl hj⟩
  have w1 : IntKind.i64.wrap ((k : Int) + 1) = (k : Int) + 1 := IntWalk.i64_in _ (by omega)
  have w2 : (k : Int) + 1 - 1 = (k : Int) := by omega
  clear hX hlt hb hg hU hA O hg2 hg3 hU3
  go_enter Try.func25, Try.ntmps25
  go_wp2_with (fail)
  refine HA.out.mono ?_
  rintro e w1 ⟨rfl, rfl⟩
  go_wp2
  go_ret
  exact ⟨rfl, X, HE.out⟩
theorem nonnext_any (w : World) : Calls Try.prog 25 #[.pointer none] w fun e w' => e = .returned (.int .u64 0) ∧ Below w.heap.size w w' := by
  go_enter Try.func25, Try.ntmps25
  go_wp2
  go_ret
  exact ⟨rfl, Below.refl _ _⟩
theorem nonused_any (w : World) : Calls Try.prog 23 #[.pointer none] w fun e w' => (∃ P c, e = .returned (.slice P 0 c)) ∧ Below w.heap.size w w' := by
  go_enter Try.func23, Try.ntmps23
  go_wp2
  go_ret
  exact ⟨⟨_, _, rfl⟩, Below.refl _ _⟩
theorem drawn_set (l : List Nat) (i k : Nat) (h : i < k) : (uvs (drawn l i) ++ List.replicate (k - i) (Value.int .u64 0)).set i (.int .u64 ((nx l i : Nat) : Int)) = uvs (drawn l (i + 1)) ++ List.replicate (k - (i + 1)) (.int .u64 0) := by
  have e : (uvs (drawn l i)).length = i := by rw [uvs_len, drawn_len]
  rw [List.set_append_right _ _ (by omega), e, Nat.sub_self, show k - i = (k - (i + 1)) + 1 by omega, List.replicate_succ, List.set_cons_zero, drawn_succ, uvs_append, List.append_assoc]
  rfl
set_option maxHeartbeats 2000000 in
theorem noused_any (g : Nat) (l : List Nat) (k : Nat) (w : World) (X : Nat → Prop) (hS : NoP g l k w X) :
    Calls Try.prog 23 #[.pointer (some ⟨g, 0, none⟩)] w (GivesUF w (drawn l k)) := by
  obtain ⟨hX, hlt, hb, A, c, hg, hU, hA⟩ := hS
  obtain ⟨c0, c1, c2, f2⟩ := row3n hg
  have hgw := hlt g hX
  have HAT : Hid (∀ (W : World) (i : Nat), Below w.heap.size w W → i ≤ 1000000 → Calls Try.prog 40 #[.pointer (some ⟨g, 0, none⟩), .int .i64 (i : Int)] W fun e w' => e = .returned (.int .u64 ((nx l i : Nat) : Int)) ∧ W = w') := fun W (i : Nat) T hi =>
    noat_any g i l A c W ((T.cell (p := ⟨g, 1, none⟩) hgw).trans c1) (Vals.below hU T) hb.1 hi
  have hk := hb.2
  obtain ⟨i0, hi, hz0, hz1, hz2⟩ := info_parts Try.infoU
  clear hX hlt hb hg hU hA c0 c1
  go_enter Try.func23, Try.ntmps23
  go_wp2_with (at_make; refine wpList_make_full _ rfl _ _ 22 rfl w.heap.size 38 i0 (.int .u64 0) 1 Try.underlying22 hi hz0 hz1 .i64 .i64 _ _ k rfl rfl rfl rfl (by rw [hz2]; omega) (by unfold maxLen; omega) (Nat.le_refl _) ?_; intro w1 hown hgrow; have HON := Lib.hid (And.intro hown hgrow); clear hown hgrow)
  go_loopw [14] (fun i wr => ∃ j : Nat, j ≤ k ∧ i = .int .i64 (j : Int) ∧ wr.ownsRow w.heap.size 38 1 (.slice (some ⟨w.heap.size, 0, none⟩) k k) k (uvs (drawn l j) ++ List.replicate (k - j) (.int .u64 0)) ∧ Below w.heap.size w wr) (fun i _ => k - (intOf i).toNat)
  case atStart => exact ⟨0, Nat.zero_le _, rfl, by simpa [toList_madeCells_one, Value.cells, drawn, uvs] using HON.out.1, (Below.refl _ _).grown HON.out.2 (Nat.le_refl _) (by simp)⟩
  case round =>
    obtain ⟨j, hj, rfl, hown, hbel⟩ := hrel
    by_cases hlt : j < k
    · have d1 : (j : Int) < (k : Int) := by omega
      have hcl : (uvs (drawn l j) ++ List.replicate (k - j) (Value.int .u64 0)).length = k := by simp [uvs_len, drawn_len]; omega
      have HO := Lib.hid hown
      have HB := Lib.hid hbel
      have f1 := hown.frozenAt j
      have c1 : wr.cell? ⟨w.heap.size, j, none⟩ = some (.int .u64 0) := by
        rw [hown.cellAt _ (by omega), List.getElem?_append_right (by simp [uvs_len, drawn_len]), uvs_len, drawn_len, Nat.sub_self, List.getElem?_replicate, if_pos (by omega)]
      have HST := Lib.hid (fun v => (hown.stored j v).1)
      have HSE := Lib.hid (drawn_set l j k hlt)
      clear hown hbel hcl
      go_wp2_with (fail)
      refine (HAT.out _ _ HB.out (by omega)).mono ?_
      rintro e w2 ⟨rfl, rfl⟩
      go_wp2_with (fail)
      go_roundw
      case rel => exact ⟨j + 1, by omega, by go_num, by rw [← HSE.out]; exact HST.out _, HB.out.setCell (Nat.le_refl _) _⟩
      case measure => simp [intOf]; omega
    · have d1 : ¬ ((j : Int) < (k : Int)) := by omega
      obtain rfl : j = k := by omega
      go_wp2
      go_ret
      rw [Nat.sub_self, List.replicate_zero, List.append_nil] at hown
      exact ⟨_, _, _, rfl, UFre.of_own hown, hbel⟩
/-- what a number has among those ahead of the p'th -/
def atN (l : List Nat) (p : Nat) (x : Nat) : Option Nat := if l.idxOf x < p then some (l.idxOf x) else none
theorem at0 (l : List Nat) : atN l 0 = fun _ => none := by funext x; simp [atN]
theorem idx_le (l : List Nat) : ∀ (p : Nat) (hp : p < l.length), l.idxOf l[p] ≤ p := by
  induction l with
  | nil => intro p hp; exact absurd hp (by simp)
  | cons a l ih =>
    intro p hp
    cases p with
    | zero => simp
    | succ p =>
      have := ih p (by simpa using hp)
      simp only [List.getElem_cons_succ, List.idxOf_cons]
      cases (a == l[p]'(by simpa using hp)) <;> simp <;> omega
theorem idx_ne (l : List Nat) (x : Nat) : ∀ (a : Nat) (ha : a < l.length), a < l.idxOf x → l[a] ≠ x := by
  induction l with
  | nil => intro a ha; exact absurd ha (by simp)
  | cons b l ih =>
    intro a ha h
    rw [List.idxOf_cons] at h
    cases hb : (b == x) with
    | true => rw [hb] at h; simp at h
    | false =>
      rw [hb] at h
      cases a with
      | zero => simpa using hb
      | succ a =>
        simp only [cond_false] at h
        simpa using ih a (by simpa using ha) (by omega)
theorem idx_at (l : List Nat) (x : Nat) (h : l.idxOf x < l.length) : l[l.idxOf x] = x := List.getElem_idxOf h
theorem atN_succ (l : List Nat) (p : Nat) (hp : p < l.length) (hn : atN l p l[p] = none) (x : Nat) : atN l (p + 1) x = if x = l[p] then some p else atN l p x := by
  unfold atN at *
  have hge : ¬ l.idxOf l[p] < p := fun h => by rw [if_pos h] at hn; cases hn
  have hle := idx_le l p hp
  by_cases e : x = l[p]
  · rw [if_pos e, e, if_pos (by omega)]
    congr 1
    omega
  · rw [if_neg e]
    have hne : l.idxOf x ≠ p := fun h => e (by have := idx_at l x (by omega); simp only [h] at this; exact this.symm)
    by_cases h : l.idxOf x < p
    · rw [if_pos h, if_pos (by omega)]
    · rw [if_neg h, if_neg (by omega)]
set_option maxHeartbeats 2000000 in
theorem nofirst_any (A : Option Addr) (n c : Nat) (l : List Nat) (w : World) (h : Us w A n c l) (hu : ∀ x ∈ l, x < 18446744073709551616) (hn : n ≤ 1000000) :
    Calls Try.prog 39 #[.slice A n c] w (GivesDup w l) := by
  have hl := h.len
  have hc := h.le
  have hm := h.cap
  have HA := Lib.hid (fun hn => h.cell hn)
  have HLN := Lib.hid hl
  have HU := Lib.hid hu
  have HDN : Hid (∀ i j (hi : i < l.length) (hj : j < l.length), l[i] ≠ l[j] → l.getD i 0 ≠ l.getD j 0) := fun i j hi hj e e' => e (by simpa [hi, hj] using e')
  have HDY : Hid (∀ i j (hi : i < l.length) (hj : j < l.length), l[i] = l[j] → l.getD i 0 = l.getD j 0) := fun i j hi hj e => by simpa [hi, hj] using e
  have HB0 := Lib.hid ((Below.refl w.heap.size w).alloc (Nat.le_refl _) (.map #[] 0))
  have HM0 := Lib.hid (MapI.made w)
  have hmm := @run_makeMap Try.prog
  clear h hl hu
  go_enter Try.func39, Try.ntmps39
  go_wp2_with (fail)
  go_loopw [13] (fun i wr => ∃ p : Nat, p ≤ n ∧ i = .int .i64 (p : Int) ∧ Hid (∀ a b, a < b → b < p → l.getD a 0 ≠ l.getD b 0) ∧ Hid (MapI wr w.heap.size p (atN l p)) ∧ Below w.heap.size w wr) (fun i _ => n - (intOf i).toNat)
  case atStart => exact ⟨0, Nat.zero_le _, rfl, fun a b _ hb => absurd hb (by omega), (by rw [at0]; exact HM0.out), HB0.out⟩
  case round =>
    obtain ⟨p, hp, rfl, HP, HM, hbel⟩ := hrel
    by_cases hlt : p < n
    · have hpl : p < l.length := by rw [HLN.out]; exact hlt
      obtain ⟨b, o, rfl, hb, hcl⟩ := HA.out (by omega)
      have c1 := (hbel.cell (p := ⟨b, o + p, none⟩) hb).trans (hcl p hpl)
      have hx := HU.out _ (List.getElem_mem hpl)
      have hlk := HM.out.look l[p] hx
      have d1 : (p : Int) < (n : Int) := by omega
      have HBEL := Lib.hid hbel
      clear hcl hbel
      cases hT : atN l p l[p] with
      | some a =>
        have hap : l.idxOf l[p] < p ∧ l.idxOf l[p] = a := by
          unfold atN at hT
          by_cases h : l.idxOf l[p] < p
          · rw [if_pos h] at hT; injection hT with hT; exact ⟨h, hT⟩
          · rw [if_neg h] at hT; cases hT
        obtain ⟨ha, rfl⟩ := hap
        have HF : Hid (Dup l (l.idxOf l[p], p, true)) := .inl ⟨_, p, rfl, ha, hpl, HDY.out _ p (by omega) hpl (idx_at l _ (by omega)), HP.out, fun a' h' => HDN.out a' p (by omega) hpl (idx_ne l _ a' (by omega) h')⟩
        rw [hT] at hlk
        simp only [Option.getD_some, Option.isSome_some] at hlk
        clear hT ha
        generalize l.idxOf l[p] = a at *
        generalize l[p] = x at *
        go_wp2
        go_ret3
        exact ⟨⟨a, p, true, rfl, HF.out⟩, HBEL.out⟩
      | none =>
        obtain ⟨w2, hrun, hM2, hg2⟩ := HM.out.put (by unfold maxLen; omega) l[p] p hx (by omega)
        have HN : Hid (∀ a b, a < b → b < p + 1 → l.getD a 0 ≠ l.getD b 0) := fun a b' hab hb' => (Nat.lt_or_ge b' p).elim (HP.out a b' hab) (fun h => by
          obtain rfl : b' = p := by omega
          refine HDN.out a b' (by omega) hpl fun e => ?_
          unfold atN at hT
          have h1 := idx_le l a (by omega)
          rw [e] at h1
          rw [if_pos (by omega)] at hT
          cases hT)
        have HM2 : Hid (MapI w2 w.heap.size (p + 1) (atN l (p + 1))) := by
          have e : atN l (p + 1) = fun j => if j = l[p] then some p else atN l p j := funext fun j => atN_succ l p hpl hT j
          rw [e]
          exact hM2
        have HB2 := Lib.hid (HBEL.out.grown hg2 HBEL.out.size (fun k hk => by injection hk with hk; omega))
        rw [hT] at hlk
        simp only [Option.getD_none, Option.isSome_none] at hlk
        clear hT hM2 hg2
        generalize l[p] = x at *
        go_wp2_with (fail)
        go_roundw
        case rel => exact ⟨p + 1, by omega, by go_num, HN, HM2, HB2.out⟩
        case measure => simp [intOf]; omega
    · have d1 : ¬ ((p : Int) < (n : Int)) := by omega
      obtain rfl : p = n := by omega
      have HF : Hid (Dup l (0, 0, false)) := .inr ⟨rfl, fun a b hab hb' => HP.out a b hab (by rw [HLN.out] at hb'; exact hb')⟩
      go_wp2
      go_ret3
      exact ⟨⟨0, 0, false, rfl, HF.out⟩, hbel⟩
set_option maxHeartbeats 1000000 in
theorem noapart_any (A : Option Addr) (n c : Nat) (l : List Nat) (r : Nat × Nat × Bool) (w : World) (h : Us w A n c l) (hu : ∀ x ∈ l, x < 18446744073709551616) (hn : n ≤ 1000000) (hd : Dup l r) :
    Calls Try.prog 22 #[.slice A n c] w fun e w' => e = .returned (.bool (!r.2.2)) ∧ Below w.heap.size w w' := by
  have HF := Lib.hid (nofirst_any A n c l w h hu hn)
  have HD := Lib.hid hd
  clear h hu hd
  go_enter Try.func22, Try.ntmps22
  go_wp2_with (fail)
  refine HF.out.mono ?_
  rintro e w1 ⟨⟨k, i, t, rfl, hd'⟩, T1⟩
  obtain rfl := HD.out.unique hd'
  clear hd'
  go_wp2
  go_ret
  exact ⟨rfl, T1⟩
theorem noC : NoC NoP where
  holds := NoP.holds
  new := fun A n c l w hU _ hn => nonew_any A n c l w hU (by omega)
  next := nonext_any
  used := noused_any
  nnext := nonnext_any
  nused := nonused_any
  first := nofirst_any
  apart := noapart_any
end Go.Proofs.Ytoajbocpebfjoaa
