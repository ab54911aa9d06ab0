/- The document's own tally (kedgeref18) as an object: at, Count, Add, Best. -/
import Derived.Test.YtpdnpfohcnpenaaTalV
import Derived.Test.YtpdnpfohcnpenaaRcopy
import Derived.Test.YtpdnpfohcnpenaaSame
import Derived.Deep.RegionHeld3
import Derived.Deep.RegionLaw
import Derived.IntWalk
namespace Go.Proofs.Ytpdnpfohcnpenaa
open Go.RowKit
set_option maxRecDepth 20000

/-- the document's tally, at block g, its blocks X -/
def RA (g : Nat) (l : List Tal) (w : World) (X : Nat → Prop) : Prop :=
  X g ∧ (∀ j, X j → j < w.heap.size) ∧ AlOk l ∧ ∃ v, w.heap[g]? = some (.cells #[v] 76 (0, 0)) ∧ OwnA w 0 (fun k => ¬ X k ∨ k = g) v l ∧ ∀ j, v.ownBlock = some j → X j ∧ j ≠ g
theorem RA.holds (g : Nat) (l : List Tal) : Holds (RA g l) where
  lt := fun h => h.2.1
  off := fun {w w' X Y} h o hd => by
    obtain ⟨h1, h2, h3, v, h4, h5, h6⟩ := h
    exact ⟨h1, fun k hk => Nat.lt_of_lt_of_le (h2 k hk) o.size, h3, v, (o.block g (h2 g h1) (hd g h1)).trans h4, h5.off o (fun k _ hy => .inl (fun hx => hd k hx hy)) (fun k hk => hd k (h6 k hk).1), h6⟩
theorem row1a {w : World} {g : Nat} {t : TypeId} {a : Value} (h : w.heap[g]? = some (.cells #[a] t (0, 0))) : w.cell? ⟨g, 0, none⟩ = some a ∧ w.frozen? ⟨g, 0, none⟩ = false :=
  ⟨cell_of_row _ _ _ _ _ _ h, frozen_of_row w _ _ _ _ h⟩
theorem RA.cells {g : Nat} {l : List Tal} {w : World} {X : Nat → Prop} (h : RA g l w X) : ∃ P c, w.cell? ⟨g, 0, none⟩ = some (.slice P l.length c) ∧ l.length ≤ c ∧ c ≤ maxLen ∧ (0 < l.length → ∃ b, P = some ⟨b, 0, none⟩ ∧ b < w.heap.size ∧
      ∀ j (h : j < l.length), ∃ A d, w.cell? ⟨b, j * 3, none⟩ = some (.int .i64 l[j].1) ∧ w.cell? ⟨b, j * 3 + 1, none⟩ = some (.slice A l[j].2.1.length d) ∧ w.cell? ⟨b, j * 3 + 2, none⟩ = some (.int .u64 (l[j].2.2 : Int)) ∧ Bys w A l[j].2.1.length d l[j].2.1) := by
  obtain ⟨h1, h2, h3, v, h4, h5, h6⟩ := h
  obtain ⟨c0, _⟩ := row1a h4
  obtain ⟨P, c, rfl, k1, k2, k3⟩ := h5.shape
  refine ⟨P, c, c0, k1, k2, fun hn => ?_⟩
  obtain ⟨b, e, _, hb, _, hc⟩ := k3 hn
  refine ⟨b, e, hb, fun j hj => ?_⟩
  obtain ⟨A, d, q1, q2, q3, q4, _⟩ := hc j hj
  exact ⟨A, d, q1, q2, q3, q4⟩
def alPlace (l : List Tal) (a : Int) (d : List UInt8) : Int := if alAt l a d < l.length then (alAt l a d : Int) else -1
set_option maxHeartbeats 2000000 in
theorem raat_any (g : Nat) (l : List Tal) (a : Int) (A : Option Addr) (n c : Nat) (d : List UInt8) (w : World) (X : Nat → Prop) (hT : RA g l w X) (hB : Bys w A n c d) :
    Calls Try.prog 48 #[.pointer (some ⟨g, 0, none⟩), .int .i64 a, .slice A n c] w fun e w' => e = .returned (.int .i64 (alPlace l a d)) ∧ Below w.heap.size w w' := by
  obtain ⟨P, cc, c0, hc1, hc2, kL⟩ := hT.cells
  have hgw := hT.2.1 g hT.1
  have h1000 := hT.2.2.1.1
  have HA := Lib.hid kL
  obtain ⟨m, hm⟩ : ∃ m, l.length = m := ⟨_, rfl⟩
  have HLN := Lib.hid hm
  obtain ⟨r, hr⟩ : ∃ r, alPlace l a d = r := ⟨_, rfl⟩
  have HGE : Hid (∀ k (h : k < l.length), (∀ j, j < k → ∀ h : j < l.length, ¬ (l[j].1 = a ∧ l[j].2.1 = d)) → l[k].1 = a ∧ l[k].2.1 = d → (k : Int) = r) := fun k h h1 h2 => by
    have e := alAt_unique l a d k (by omega) h1 (fun _ => h2)
    rw [← hr]; unfold alPlace; rw [e, if_pos h]
  have HEND : Hid ((∀ j, j < m → ∀ h : j < l.length, ¬ (l[j].1 = a ∧ l[j].2.1 = d)) → r = -1) := fun h1 => by
    have e := alAt_unique l a d m (by omega) h1 (fun h => absurd h (by omega))
    rw [← hr]; unfold alPlace; rw [if_neg (by omega)]
  have HB := Lib.hid (fun W (U : Below w.heap.size w W) => hB.below U)
  rw [hr]
  rw [hm] at c0 hc1 h1000
  clear hT kL hm hr hB
  go_enter Try.func48, Try.ntmps48
  go_wp2_with (fail)
  go_loopw [7] (fun i wr => ∃ k : Nat, k ≤ m ∧ i = .int .i64 (k : Int) ∧ Hid (∀ j, j < k → ∀ h : j < l.length, ¬ (l[j].1 = a ∧ l[j].2.1 = d)) ∧ Below w.heap.size w wr) (fun i _ => m - (intOf i).toNat)
  case atStart => exact ⟨0, Nat.zero_le _, rfl, fun j hj => absurd hj (by omega), Below.refl _ _⟩
  case round =>
    obtain ⟨k, hk1, rfl, HK, hbel⟩ := hrel
    have cr0 := (hbel.cell (p := ⟨g, 0, none⟩) hgw).trans c0
    by_cases hlt : k < m
    · have hkl : k < l.length := by rw [HLN.out]; exact hlt
      obtain ⟨b, rfl, hb, hcl⟩ := HA.out (by omega)
      obtain ⟨A2, d2, t0, t1, _, hB2⟩ := hcl k hkl
      have e0 := (hbel.cell (p := ⟨b, k * 3, none⟩) hb).trans t0
      have e1 := (hbel.cell (p := ⟨b, k * 3 + 1, none⟩) hb).trans t1
      have E := Lib.hid (HGE.out k hkl HK.out)
      have d1 : (k : Int) < (m : Int) := by omega
      have HX : Hid (¬ (l[k].1 = a ∧ l[k].2.1 = d) → ∀ j, j < k + 1 → ∀ h : j < l.length, ¬ (l[j].1 = a ∧ l[j].2.1 = d)) := fun hz j hj h => by
        rcases Nat.lt_or_ge j k with h' | h'
        · exact HK.out j h' h
        · obtain rfl : j = k := by omega
          exact hz
      have HS := Lib.hid (same_any A2 A l[k].2.1.length d2 n c l[k].2.1 d wr (hB2.below hbel) (HB.out _ hbel))
      clear hcl t0 t1 hB2
      generalize l[k] = x at *
      obtain ⟨xa, xd, xn⟩ := x
      simp only at e0 e1 E HX HS
      obtain ⟨L, hL⟩ : ∃ L, xd.length = L := ⟨_, rfl⟩
      rw [hL] at e1 HS
      clear hL
      by_cases hx : xa = a
      · subst hx
        have n1 : (xa == xa) = true := by simp
        by_cases hd : xd = d
        · have hs : sameB xd d = true := (sameB_iff _ _).2 hd
          rw [hs] at HS
          have hE := Lib.hid (E.out ⟨rfl, hd⟩)
          clear E HX
          go_wp2_with (fail)
          refine HS.out.mono ?_
          rintro e w2 ⟨rfl, kk, rfl⟩
          have T2 := below_drewN' hbel kk
          go_wp2
          go_ret
          exact ⟨by rw [← hE.out]; rfl, T2⟩
        · have hs : sameB xd d = false := by rw [Bool.eq_false_iff]; exact fun h => hd ((sameB_iff _ _).1 h)
          rw [hs] at HS
          have HXX := Lib.hid (HX.out (fun h => hd h.2))
          clear E HX
          go_wp2_with (fail)
          refine HS.out.mono ?_
          rintro e w2 ⟨rfl, kk, rfl⟩
          have T2 := below_drewN' hbel kk
          go_wp2_with (fail)
          go_roundw
          case rel => exact ⟨k + 1, by omega, by go_num, HXX.out, T2⟩
          case measure => simp [intOf]; omega
      · have n1 : (xa == a) = false := by simpa using hx
        have HXX := Lib.hid (HX.out (fun h => hx h.1))
        clear E HX
        go_wp2_with (fail)
        go_roundw
        case rel => exact ⟨k + 1, by omega, by go_num, HXX.out, hbel⟩
        case measure => simp [intOf]; omega
    · have d1 : ¬ ((k : Int) < (m : Int)) := by omega
      obtain rfl : k = m := by omega
      obtain rfl := HEND.out HK.out
      go_wp2
      go_ret
      exact ⟨rfl, hbel⟩
/-- behind a row more -/
theorem RA.pushed {g : Nat} {l : List Tal} {t : Tal} {w w1 w3 : World} {X : Nat → Prop} {v v' : Value} {o : Obj} (hT : RA g l w X) (hok : AlOk (l ++ [t])) (hg : w.heap[g]? = some (.cells #[v] 76 (0, 0))) (hob : ∀ k, v.ownBlock = some k → X k ∧ k ≠ g) (T1 : Below w.heap.size w w1)
    (hown : OwnA w3 0 (fun k => ¬ (X k ∨ w.heap.size ≤ k) ∨ k = g) v' (l ++ [t])) (hgrow : (w1.alloc o).grownBy w3 v.ownBlock) (hwhere : v'.ownBlock = v.ownBlock ∨ v'.ownBlock = some (w1.alloc o).heap.size) :
    ∃ X', RA g (l ++ [t]) (w3.setCell ⟨g, 0, none⟩ v') X' ∧ Turns X X' w (w3.setCell ⟨g, 0, none⟩ v') := by
  have hX := hT.1
  have hlt := hT.2.1
  have hgw := hlt g hX
  have O3 : Off X w w3 := ((Off.of_below T1).alloc o).grown hgrow (fun k hk => .inl (hob k hk).1)
  have hs1 : w.heap.size < (w1.alloc o).heap.size := by have := T1.size; simp; omega
  have hg1 : (w1.alloc o).heap[g]? = some (.cells #[v] 76 (0, 0)) := hp_old ((T1.block g hgw).trans hg) o
  have hg3 : w3.heap[g]? = some (.cells #[v] 76 (0, 0)) := (hgrow.block g (by omega) (fun e => (hob g e.symm).2 rfl)).trans hg1
  have hg4 := heap_setCell_same w3 g 0 _ _ v' hg3
  have hsz : (w3.setCell ⟨g, 0, none⟩ v').heap.size = w3.heap.size := by simp [World.setCell]
  have hob' : ∀ k, v'.ownBlock = some k → (X k ∨ w.heap.size ≤ k) ∧ k ≠ g := fun k hk => by
    rcases hwhere with h | h
    · exact ⟨.inl (hob k (h ▸ hk)).1, (hob k (h ▸ hk)).2⟩
    · rw [h] at hk; injection hk with hk; exact ⟨.inr (by omega), by omega⟩
  have O4 : Off (· = g) w3 (w3.setCell ⟨g, 0, none⟩ v') := (Off.refl (· = g) w3).setCell (p := ⟨g, 0, none⟩) (.inl rfl) v'
  have hown4 := hown.off O4 (fun k _ hk => .inr hk) (fun k hk => (hob' k hk).2)
  refine ⟨fun k => X k ∨ (w.heap.size ≤ k ∧ k < (w3.setCell ⟨g, 0, none⟩ v').heap.size), ⟨.inl hX, fun k hk => ?_, hok, v', by simpa using hg4, hown4.imp (fun k hk hz => ?_), fun k hk => ?_⟩, ⟨O3.setCell (p := ⟨g, 0, none⟩) (.inl hX) v', fun k hk => ?_⟩⟩
  · rcases hk with hk | hk
    · have := hlt k hk; have := O3.size; omega
    · exact hk.2
  · rcases hz with hz | hz
    · exact .inl (fun h => hz (h.elim .inl (fun h => .inr ⟨h, hk⟩)))
    · exact .inr hz
  · refine ⟨?_, (hob' k hk).2⟩
    rcases (hob' k hk).1 with h | h
    · exact .inl h
    · exact .inr ⟨h, by rw [hsz]; exact (hown.lt k hk).2⟩
  · rcases hk with hk | hk
    · exact .inl hk
    · exact .inr hk.1
theorem row_a (w1 : World) (a : Int) (v : Value) (k : Int) : (w1.alloc (.cells #[.int .i64 a, v, .int .u64 k] 101)).heap[w1.heap.size]? = some (.cells #[.int .i64 a, v, .int .u64 k] 101 (0, 0)) := heap_alloc_new w1 _
set_option maxHeartbeats 4000000 in
theorem raadd_any (g : Nat) (l : List Tal) (a : Int) (A : Option Addr) (n c : Nat) (d : List UInt8) (w : World) (X : Nat → Prop) (hT : RA g l w X) (hB : Bys w A n c d) (hl : l.length < 1000) (hcnt : alCount l a d < 1000000) (hn : n ≤ 140737488355328) :
    Calls Try.prog 34 #[.pointer (some ⟨g, 0, none⟩), .int .i64 a, .slice A n c] w fun e w' => e = .returned (.int .u64 ((alCount l a d : Nat) + 1 : Int)) ∧ ∃ X', RA g (alAdd l a d) w' X' ∧ Turns X X' w w' := by
  have HA := Lib.hid (raat_any g l a A n c d w X hT hB)
  have HT := Lib.hid hT
  have hdl := hB.len
  have hok2 := alAdd_ok (a := a) (d := d) hT.2.2.1 hl hcnt (by omega)
  obtain ⟨hX, hlt, hok, v, hg, hown, hob⟩ := hT
  obtain ⟨c0, f0⟩ := row1a hg
  have hgw := hlt g hX
  have hcf := alCount_found l a d
  have hcn := alCount_new l a d
  have haf := alAdd_found l a d
  have han := alAdd_new l a d
  unfold alPlace at HA
  generalize alAt l a d = k at *
  generalize alCount l a d = cnt at *
  generalize alAdd l a d = l2 at *
  obtain ⟨P, cc, rfl, k1, k2, k3⟩ := hown.shape
  by_cases hk : k < l.length
  · rw [if_pos hk] at HA
    obtain rfl := haf hk
    have hcf2 := hcf hk
    obtain ⟨b, rfl, hob1, hbw, hbf, hcl⟩ := k3 (by omega)
    obtain ⟨A2, d2, _, _, t2, _⟩ := hcl k hk
    rw [← hcf2] at t2 hok2
    obtain ⟨hbX, hbg⟩ := hob b hob1
    have HE : Hid (∀ w1, Below w.heap.size w w1 → ∃ X', RA g (l.set k (l[k].1, l[k].2.1, l[k].2.2 + 1)) (w1.setCell ⟨b, k * 3 + 2, none⟩ (.int .u64 ((cnt : Int) + 1))) X' ∧ Turns X X' w (w1.setCell ⟨b, k * 3 + 2, none⟩ (.int .u64 ((cnt : Int) + 1)))) := fun w1 T => by
      have h1 := (hown.below T).counted rfl hk (cnt + 1)
      rw [← hcf2]
      have o0 : Off (· = b) w w1 := Off.of_below T
      have O : Off (· = b) w (w1.setCell ⟨b, k * 3 + 2, none⟩ (.int .u64 ((cnt : Int) + 1))) := o0.setCell (p := ⟨b, k * 3 + 2, none⟩) (.inl rfl) _
      refine ⟨X, ⟨hX, fun j hj => Nat.lt_of_lt_of_le (hlt j hj) O.size, hok2, _, (O.block g hgw (fun e => hbg e.symm)).trans hg, by simpa using h1, hob⟩, ⟨⟨O.os, O.tape, O.output, O.size, fun j hj h => O.block j hj (fun e => h (e ▸ hbX))⟩, fun j hj => .inl hj⟩⟩
    obtain ⟨m, hm⟩ : ∃ m, l.length = m := ⟨_, rfl⟩
    have hkm : k < m := by omega
    rw [hm] at c0 k1
    have d1 : (k : Int) < (m : Int) := by omega
    have d2' : ¬ ((k : Int) < 0) := by omega
    have hw1 : IntKind.u64.wrap ((cnt : Int) + 1) = (cnt : Int) + 1 := IntWalk.u64_in _ (by omega)
    clear hB hown hob hok2 hok hg haf han hcn hcf hcf2 k3 hcl hlt
    go_enter Try.func34, Try.ntmps34
    go_wp2_with (fail)
    refine HA.out.mono ?_
    rintro e w1 ⟨rfl, T1⟩
    have e0 := (T1.cell (p := ⟨g, 0, none⟩) hgw).trans c0
    have e2 := (T1.cell (p := ⟨b, k * 3 + 2, none⟩) hbw).trans t2
    have ef := (frozen_of_block (T1.block b hbw) (k * 3 + 2)).trans (hbf _)
    have e0' := ((Off.refl (· = b) w1).setCell (p := ⟨b, k * 3 + 2, none⟩) (.inl rfl) (.int .u64 ((cnt : Int) + 1))).cell (p := ⟨g, 0, none⟩) (Nat.lt_of_lt_of_le hgw T1.size) (fun e => hbg e.symm) |>.trans e0
    have HEE := Lib.hid (HE.out w1 T1)
    go_wp2
    go_ret
    exact ⟨rfl, HEE.out⟩
  · rw [if_neg hk] at HA
    obtain rfl := han hk
    obtain rfl := hcn hk
    have HE := Lib.hid (fun w1 w3 v' o (T1 : Below w.heap.size w w1) hown hgrow hwhere => RA.pushed (w1 := w1) (w3 := w3) (v' := v') (o := o) (t := (a, d, 1)) HT.out hok2 hg hob T1 hown hgrow hwhere)
    have HC : Hid (∀ W, Below w.heap.size w W → Calls Try.prog 49 #[.slice A n c] W (GivesW W d)) := fun W T => rcopy_any A n c d W (hB.below T) hn
    have HOW := Lib.hid (hown.imp (Z' := fun k => ¬ (X k ∨ w.heap.size ≤ k) ∨ k = g) (fun k _ hz => hz.elim (fun h => .inl (fun hx => h (.inl hx))) .inr))
    have hz1 : ∀ k, ¬ (X k ∨ w.heap.size ≤ k) ∨ k = g → k < w.heap.size := fun k hz => by
      rcases hz with hz | hz
      · exact Nat.lt_of_not_le (fun h => hz (.inr h))
      · omega
    have HZ1 := Lib.hid hz1
    have HOB := Lib.hid (fun k hk => And.intro (hlt k (hob k hk).1) (hob k hk).2)
    obtain ⟨m, hm⟩ : ∃ m, l.length = m := ⟨_, rfl⟩
    have HLM := Lib.hid hm
    have h3l : Hid (List.length (α := Tal) (l ++ [(a, d, 1)]) = m + 1) := by show _ = _; simp [hm]
    rw [hm] at c0 k1 hl HOB HE
    have HTW := Lib.hid (fun W (T : Below w.heap.size w W) => (T.cell (p := ⟨g, 0, none⟩) hgw).trans c0)
    rw [hm] at HOW
    clear hB hown hob hok2 hok hg haf han hcn hcf k3 hlt hz1
    go_enter Try.func34, Try.ntmps34
    go_wp2_with (fail)
    refine HA.out.mono ?_
    rintro e w1 ⟨rfl, T1⟩
    have e0 := HTW.out _ T1
    have P0 := T1.drew
    have f1 := (frozen_of_block (T1.block g hgw) 0).trans f0
    have HF := Lib.hid (fun W (T : Below w.heap.size w W) => (frozen_of_block (T.block g hgw) 0).trans f0)
    go_wp2_with (fail)
    go_region_law
      (first
        | (go_simp; go_at_call 49; (with_reducible refine (HC.out _ (by first | exact P0 | exact P0.drew)).mono ?_); rintro e w2 ⟨v2, rfl, hw2, U2⟩; (rw [hdl] at hw2); obtain ⟨A1, cA, rfl⟩ := own_shape hw2; have T2 := nxt (by first | exact P0 | exact P0.drew) U2; have C1 := HTW.out _ T2; have C2 := fun o => HTW.out _ (T2.alloc T2.size o))
        | ((refine step_a _ rfl (.tmp 18) (.tmp 23) rfl 0 (fun k => ¬ (X k ∨ w.heap.size ≤ k) ∨ k = g) (.slice P m cc) l rfl ?_ (fun k => k < w.heap.size) w2.heap.size a A1 n cA d 1 rfl ?_ ?_ ?_ ?_ ?_ ?_ ?_ ?_); (exact HOW.out.below (T2.alloc T2.size _)); (exact row_a w2 a _ 1); (exact (Bys.of_own hw2).alloc _); (exact (own_fr hw2).imp (fun k hk => Nat.lt_of_lt_of_le hk T1.size)); (rw [HLM.out]; omega); (exact Nat.zero_le _); (exact fun k _ hz => HZ1.out k hz); (exact fun k hk => (HOB.out k hk).1); (intro v3 w3 hown3 hgrow3 hwhere3); (have HEE := Lib.hid (HE.out w2 w3 v3 _ T2 hown3 hgrow3 hwhere3)); obtain ⟨P3, c3, hv3, _⟩ := hown3.shape; (rw [h3l.out] at hv3); subst hv3; have C3 := grown_cell (p := ⟨g, 0, none⟩) hgrow3 (by have := T2.size; simp; omega) (fun e => (HOB.out g e).2 rfl) (C2 _); have f3 := (frozen_of_block (hgrow3.block g (by have := T2.size; simp; omega) (fun e => (HOB.out g e.symm).2 rfl)) 0).trans (HF.out _ (T2.alloc T2.size _))))
    all_goals
      go_wp2
      go_ret
      exact ⟨rfl, HEE.out⟩
def GivesBest (w : World) (l : List Tal) (a : Int) (e : Ending) (w' : World) : Prop := ∃ A n c, e = .returned (.tuple #[.slice A n c, .int .u64 (((alBest l a).2 : Nat) : Int)]) ∧ Fre w' (· < w.heap.size) A n c (alBest l a).1 ∧ Below w.heap.size w w'
theorem three_row {w : World} {g : Nat} {a0 a1 a2 b0 b1 b2 : Value} {t : TypeId} (h : w.heap[g]? = some (.cells #[a0, a1, a2] t (0, 0))) :
    (((w.setCell ⟨g, 0, none⟩ b0).setCell ⟨g, 1, none⟩ b1).setCell ⟨g, 2, none⟩ b2).heap[g]? = some (.cells #[b0, b1, b2] t (0, 0)) := by
  have h1 := heap_setCell_same w g 0 _ _ b0 h
  have h2 := heap_setCell_same _ g 1 _ _ b1 h1
  have h3 := heap_setCell_same _ g 2 _ _ b2 h2
  simpa using h3
theorem row3c {w : World} {g : Nat} {t : TypeId} {a b c : Value} (h : w.heap[g]? = some (.cells #[a, b, c] t (0, 0))) :
    w.cell? ⟨g, 0, none⟩ = some a ∧ w.cell? ⟨g, 1, none⟩ = some b ∧ w.cell? ⟨g, 2, none⟩ = some c ∧ ∀ j, w.frozen? ⟨g, j, none⟩ = false :=
  ⟨cell_of_row _ _ _ _ _ _ h, cell_of_row _ _ _ _ _ _ h, cell_of_row _ _ _ _ _ _ h, fun _ => frozen_of_row w _ _ _ _ h⟩
set_option maxHeartbeats 4000000 in
theorem rabest_any (g : Nat) (l : List Tal) (a : Int) (w : World) (X : Nat → Prop) (hT : RA g l w X) :
    Calls Try.prog 50 #[.pointer (some ⟨g, 0, none⟩), .int .i64 a] w (GivesBest w l a) := by
  obtain ⟨P, cc, c0, hc1, hc2, kL⟩ := hT.cells
  have hgw := hT.2.1 g hT.1
  have h1000 := hT.2.2.1.1
  have HOK := Lib.hid hT.2.2.1.2
  have HA := Lib.hid kL
  obtain ⟨m, hm⟩ : ∃ m, l.length = m := ⟨_, rfl⟩
  have HLN := Lib.hid hm
  rw [hm] at c0 hc1 h1000
  clear hT kL hm
  go_enter Try.func50, Try.ntmps50
  go_wp2_with (fail)
  have HB0 : Hid ((w.alloc (.cells #[.int .i64 0, .slice none 0 0, .int .u64 0] 101)).heap[w.heap.size]? = some (.cells #[.int .i64 0, .slice none 0 0, .int .u64 ((0 : Nat) : Int)] 101 (0, 0))) := heap_alloc_new w _
  go_loopw [7] (fun i wr => ∃ (k : Nat) (la : Int) (A : Option Addr) (n' c' cnt : Nat), k ≤ m ∧ n' ≤ 140737488355328 ∧ i = .int .i64 (k : Int) ∧ Hid (wr.heap[w.heap.size]? = some (.cells #[.int .i64 la, .slice A n' c', .int .u64 (cnt : Int)] 101 (0, 0))) ∧ Hid (Bys wr A n' c' (alBest (l.take k) a).1 ∧ Av (w.heap.size ≤ ·) n' A) ∧ Hid ((alBest (l.take k) a).2 = cnt) ∧ Below w.heap.size w wr) (fun i _ => m - (intOf i).toNat)
  case atStart => exact ⟨0, 0, none, 0, 0, 0, Nat.zero_le _, Nat.zero_le _, rfl, HB0, ⟨Bys.nil _, Av.none _ _⟩, rfl, (Below.refl _ _).alloc (Nat.le_refl _) _⟩
  case round =>
    obtain ⟨k, la, A, n', c', cnt, hk1, hn1, rfl, HR, HB, HCN, hbel⟩ := hrel
    have cr0 := (hbel.cell (p := ⟨g, 0, none⟩) hgw).trans c0
    obtain ⟨b0, b1, b2, bf⟩ := row3c HR.out
    by_cases hlt : k < m
    · have hkl : k < l.length := by rw [HLN.out]; exact hlt
      obtain ⟨b, rfl, hb, hcl⟩ := HA.out (by omega)
      obtain ⟨A2, d2, t0, t1, t2, hB2⟩ := hcl k hkl
      have e0 := (hbel.cell (p := ⟨b, k * 3, none⟩) hb).trans t0
      have e1 := (hbel.cell (p := ⟨b, k * 3 + 1, none⟩) hb).trans t1
      have e2 := (hbel.cell (p := ⟨b, k * 3 + 2, none⟩) hb).trans t2
      have d1 : (k : Int) < (m : Int) := by omega
      have HST := alBest_step l a k hkl
      rw [HCN.out] at HST
      have hbx := hB2.below hbel
      have hav : Av (w.heap.size ≤ ·) l[k].2.1.length A2 := fun hn p e hy => by
        obtain ⟨b', o', e', hb', _⟩ := hB2.at_ hn
        rw [e] at e'
        injection e' with e'
        subst e'
        exact absurd hb' (Nat.not_lt.2 hy)
      have hbne : b ≠ w.heap.size := by omega
      have hxd := (HOK.out _ (List.getElem_mem hkl)).2
      clear hcl t0 t1 t2 hB2
      generalize l[k] = x at *
      obtain ⟨xa, xd, xn⟩ := x
      simp only at e0 e1 e2 HST hbx hav hxd
      by_cases hx : xa = a ∧ cnt < xn
      · rw [if_pos hx] at HST
        obtain ⟨rfl, hcx⟩ := hx
        have n1 : (xa == xa) = true := by simp
        have d3 : decide ((cnt : Int) < (xn : Int)) = true := by simp; omega
        have d3' : (cnt : Int) < (xn : Int) := by omega
        have HR2 := Lib.hid (three_row (b0 := .int .i64 xa) (b1 := .slice A2 xd.length d2) (b2 := .int .u64 (xn : Int)) HR.out)
        have bf0 := bf 0
        have bf1 := bf 1
        have bf2 := bf 2
        have O1 : Off (· = w.heap.size) wr (wr.setCell ⟨w.heap.size, 0, none⟩ (.int .i64 xa)) := (Off.refl (· = w.heap.size) wr).setCell (p := ⟨w.heap.size, 0, none⟩) (.inl rfl) _
        have O2 : Off (· = w.heap.size) wr ((wr.setCell ⟨w.heap.size, 0, none⟩ (.int .i64 xa)).setCell ⟨w.heap.size, 1, none⟩ (.slice A2 xd.length d2)) := O1.setCell (p := ⟨w.heap.size, 1, none⟩) (.inl rfl) _
        have O3 : Off (· = w.heap.size) wr (((wr.setCell ⟨w.heap.size, 0, none⟩ (.int .i64 xa)).setCell ⟨w.heap.size, 1, none⟩ (.slice A2 xd.length d2)).setCell ⟨w.heap.size, 2, none⟩ (.int .u64 (xn : Int))) := O2.setCell (p := ⟨w.heap.size, 2, none⟩) (.inl rfl) _
        have HO := Lib.hid O3
        have HBX := Lib.hid hbx
        have HAV := Lib.hid hav
        have HSTH := Lib.hid HST
        clear O1 O2 O3 hbx hav HST bf
        go_wp2_with (fail)
        go_region
        go_wp2_with (fail)
        go_roundw
        case rel => exact ⟨k + 1, xa, A2, xd.length, d2, xn, by omega, hxd, by go_num, HR2.out, by
            show Bys _ _ _ _ _ ∧ _
            rw [HSTH.out]
            exact ⟨(HBX.out.off (X := (· = w.heap.size)) (HAV.out.imp (fun j hj => Nat.le_of_eq hj.symm)) HO.out).below (Below.refl _ _).drew, HAV.out⟩, by show _ = _; rw [HSTH.out], hbel.trans (HO.out.drew.below (fun j hj => Nat.le_of_eq hj.symm) hbel.size)⟩
        case measure => simp [intOf]; omega
      · rw [if_neg hx] at HST
        have HSTH := Lib.hid HST
        clear hbx hav HST bf
        by_cases hxa : xa = a
        · subst hxa
          have n1 : (xa == xa) = true := by simp
          have hcx : ¬ cnt < xn := fun h => hx ⟨rfl, h⟩
          have d3 : decide ((cnt : Int) < (xn : Int)) = false := by simp; omega
          have d3' : ¬ ((cnt : Int) < (xn : Int)) := by omega
          go_wp2_with (fail)
          go_region
          go_wp2_with (fail)
          go_roundw
          case rel => exact ⟨k + 1, la, A, n', c', cnt, by omega, hn1, by go_num, HR.out, by
              show Bys _ _ _ _ _ ∧ _
              rw [HSTH.out]
              exact ⟨HB.out.1.below (below_drewN' (Below.refl _ _) _), HB.out.2⟩, by show _ = _; rw [HSTH.out]; exact HCN.out, below_drewN' hbel _⟩
          case measure => simp [intOf]; omega
        · have n1 : (xa == a) = false := by simpa using hxa
          go_wp2_with (fail)
          go_region
          go_wp2_with (fail)
          go_roundw
          case rel => exact ⟨k + 1, la, A, n', c', cnt, by omega, hn1, by go_num, HR.out, by
              show Bys _ _ _ _ _ ∧ _
              rw [HSTH.out]
              exact ⟨HB.out.1.below (below_drewN' (Below.refl _ _) _), HB.out.2⟩, by show _ = _; rw [HSTH.out]; exact HCN.out, below_drewN' hbel _⟩
          case measure => simp [intOf]; omega
    · have d1 : ¬ ((k : Int) < (m : Int)) := by omega
      obtain rfl : k = m := by omega
      have e1 : l.take k = l := List.take_of_length_le (by rw [HLN.out]; omega)
      have hb2 := HB.out.1
      have hcn := HCN.out
      rw [e1] at hb2 hcn
      have HB2 := Lib.hid hb2
      have HCN2 := Lib.hid hcn
      have hbs := hbel.size
      have HCP := Lib.hid (rcopy_any A n' c' (alBest l a).1 wr.drew (hb2.below (Below.refl _ _).drew) hn1)
      have hlt2 : w.heap.size < wr.heap.size := lt_of_block HR.out
      have K := Lib.hid (fun W (T : Below wr.heap.size wr W) => And.intro ((T.cell (p := ⟨w.heap.size, 1, none⟩) hlt2).trans b1) ((T.cell (p := ⟨w.heap.size, 2, none⟩) hlt2).trans b2))
      have HLB : Hid ((alBest l a).1.length = n') := hb2.len
      clear hb2 hcn e1 HB HCN bf
      go_wp2_with (fail)
      go_region_held3 (fun w' => w'.cell? ⟨w.heap.size, 1, none⟩ = some (.slice A n' c') ∧ w'.cell? ⟨w.heap.size, 2, none⟩ = some (.int .u64 (cnt : Int))) (first | exact K.out _ (Below.refl _ _) | exact K.out _ (Below.drew (Below.refl _ _)) | exact K.out _ Z1)
        (first
          | (go_at_call 49; (with_reducible refine HCP.out.mono ?_); rintro e z1 ⟨v1, rfl, hw1, U1⟩; (rw [HLB.out] at hw1); obtain ⟨A1, cA, rfl⟩ := own_shape hw1; have Z1 := undrew U1))
      all_goals
        have HF := Lib.hid ((Fre.of_own hw1).imp (Y' := (· < w.heap.size)) (fun j hj => Nat.lt_of_lt_of_le hj hbs))
        have hb6 := hbel.trans (Z1.mono hbs)
        clear hw1
        go_wp2
        go_ret2
        exact ⟨A1, n', cA, by rw [HCN2.out]; rfl, HF.out, hb6⟩
end Go.Proofs.Ytpdnpfohcnpenaa
