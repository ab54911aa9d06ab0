/- The document's own timers (kedgeref23) as an object: New, At, Set, Clear, Tick. -/
import Derived.Test.YtncpabnmdofomaaTimV
import Derived.Deep.RegionHeld3
import Derived.Deep.RegionLaw
import Derived.IntWalk
namespace Go.Proofs.Ytncpabnmdofomaa
open Go.RowKit
set_option maxRecDepth 20000

/-- the document's timers, at block g, their blocks X -/
def RT (g : Nat) (most : Int) (l : List Tmr) (w : World) (X : Nat → Prop) : Prop :=
  X g ∧ (∀ j, X j → j < w.heap.size) ∧ TmOk most l ∧ l.length ≤ 1000 ∧ ∃ v, w.heap[g]? = some (.cells #[.int .i64 most, v] 64 (0, 0)) ∧ OwnT w 0 v l ∧ ∀ j, v.ownBlock = some j → X j ∧ j ≠ g
theorem RT.holds (g : Nat) (most : Int) (l : List Tmr) : Holds (RT g most l) where
  lt := fun h => h.2.1
  off := fun {w w' X Y} h o hd => by
    obtain ⟨h1, h2, h3, h3', v, h4, h5, h6⟩ := h
    exact ⟨h1, fun k hk => Nat.lt_of_lt_of_le (h2 k hk) o.size, h3, h3', v, (o.block g (h2 g h1) (hd g h1)).trans h4, h5.off o (fun k hk => hd k (h6 k hk).1), h6⟩
theorem row2t {w : World} {g : Nat} {t : TypeId} {a b : Value} (h : w.heap[g]? = some (.cells #[a, b] t (0, 0))) :
    w.cell? ⟨g, 0, none⟩ = some a ∧ w.cell? ⟨g, 1, none⟩ = some b ∧ w.frozen? ⟨g, 0, none⟩ = false ∧ w.frozen? ⟨g, 1, none⟩ = false :=
  ⟨cell_of_row _ _ _ _ _ _ h, cell_of_row _ _ _ _ _ _ h, frozen_of_row w _ _ _ _ h, frozen_of_row w _ _ _ _ h⟩
theorem RT.cells {g : Nat} {most : Int} {l : List Tmr} {w : World} {X : Nat → Prop} (h : RT g most l w X) : ∃ P c, w.cell? ⟨g, 0, none⟩ = some (.int .i64 most) ∧ w.cell? ⟨g, 1, none⟩ = some (.slice P l.length c) ∧ Recs rdTm 3 w P l.length c l := by
  obtain ⟨h1, h2, h3, h3', v, h4, h5, h6⟩ := h
  obtain ⟨c0, c1, _, _⟩ := row2t h4
  obtain ⟨P, c, rfl, _, _, kL, _⟩ := h5.shape
  exact ⟨P, c, c0, c1, kL⟩
theorem rtnew_no (r : Int) (w : World) (h : r < 1 ∨ 64 < r) :
    Calls Try.prog 26 #[.int .i64 r] w fun e w' => e = .returned (.tuple #[.pointer none, .int .i64 1]) ∧ w = w' := by
  by_cases h1 : r < 1
  · have d1 : decide (r < 1) = true := by simpa using h1
    clear h h1
    go_enter Try.func26, Try.ntmps26
    go_wp2
    go_ret2
    exact ⟨rfl, rfl⟩
  · have d1 : decide (r < 1) = false := by simpa using h1
    have d2 : decide (64 < r) = true := by simp; omega
    clear h h1
    go_enter Try.func26, Try.ntmps26
    go_wp2
    go_ret2
    exact ⟨rfl, rfl⟩
theorem rtnew_yes (most : Int) (w : World) (h1 : 1 ≤ most) (h2 : most ≤ 64) :
    Calls Try.prog 26 #[.int .i64 most] w fun e w' => ∃ g X, e = .returned (.tuple #[.pointer (some ⟨g, 0, none⟩), .int .i64 0]) ∧ RT g most [] w' X ∧ (∀ k, X k → w.heap.size ≤ k) ∧ Below w.heap.size w w' := by
  have d1 : decide (most < 1) = false := by simp; omega
  have d2 : decide (64 < most) = false := by simp; omega
  go_enter Try.func26, Try.ntmps26
  go_wp2
  go_ret2
  exact ⟨w.heap.size, (· = w.heap.size), rfl, ⟨rfl, fun k hk => by subst hk; simp, ⟨⟨h1, h2⟩, List.Pairwise.nil, fun t ht => by cases ht⟩, Nat.zero_le _, _, heap_alloc_new w _, OwnT.nil _ _, fun k hk => by cases hk⟩, fun k hk => Nat.le_of_eq hk.symm, (Below.refl _ _).alloc (Nat.le_refl _) _⟩
set_option maxHeartbeats 2000000 in
theorem rtat_any (g : Nat) (most : Int) (l : List Tmr) (key : Int) (w : World) (X : Nat → Prop) (hT : RT g most l w X) :
    Calls Try.prog 40 #[.pointer (some ⟨g, 0, none⟩), .int .i64 key] w fun e w' => e = .returned (.tuple #[.int .i64 ((tmAt l key : Nat) : Int), .bool (tmIs l key)]) ∧ Below w.heap.size w w' := by
  obtain ⟨P, c, c0, c1, kL⟩ := hT.cells
  have hgw := hT.2.1 g hT.1
  have h1000 := hT.2.2.2.1
  have hc := kL.2.1
  obtain ⟨n, hn⟩ : ∃ n, l.length = n := ⟨_, rfl⟩
  rw [hn] at c1 kL hc h1000
  have HA := Lib.hid kL.2.2.2
  have HLN := Lib.hid hn
  obtain ⟨p, hp⟩ : ∃ p, tmAt l key = p := ⟨_, rfl⟩
  obtain ⟨f, hf⟩ : ∃ f, tmIs l key = f := ⟨_, rfl⟩
  have HGE : Hid (∀ k (h : k < l.length), (∀ j, j < k → ∀ h : j < l.length, l[j].1 < key) → key ≤ l[k].1 → k = p ∧ f = (l[k].1 == key)) := fun k h h1 h2 => by
    have e := tmAt_unique l key k (by omega) h1 (fun _ => h2)
    have e2 := tmIs_eq l key (by omega)
    subst e
    exact ⟨hp, by rw [← hf, e2]⟩
  have HEND : Hid ((∀ j, j < n → ∀ h : j < l.length, l[j].1 < key) → n = p ∧ f = false) := fun h1 => by
    have e := tmAt_unique l key n (by omega) h1 (fun h => absurd h (by omega))
    exact ⟨by rw [← e]; exact hp, by rw [← hf]; exact tmIs_end l key (by omega)⟩
  rw [hp, hf]
  clear hT kL hn hp hf
  go_enter Try.func40, Try.ntmps40
  go_wp2_with (fail)
  go_loopw [6] (fun i wr => ∃ k : Nat, k ≤ n ∧ i = .int .i64 (k : Int) ∧ Hid (∀ j, j < k → ∀ h : j < l.length, l[j].1 < key) ∧ Below w.heap.size w wr) (fun i _ => n - (intOf i).toNat)
  case atStart => exact ⟨0, Nat.zero_le _, rfl, fun j hj => absurd hj (by omega), Below.refl _ _⟩
  case round =>
    obtain ⟨k, hk1, rfl, HK, hbel⟩ := hrel
    have cr1 := (hbel.cell (p := ⟨g, 1, none⟩) hgw).trans c1
    by_cases hlt : k < n
    · have hkl : k < l.length := by rw [HLN.out]; exact hlt
      obtain ⟨b, o, rfl, hb, hcl⟩ := HA.out (by omega)
      obtain ⟨t0, _, _⟩ := hcl k hkl
      have cx := (hbel.cell (p := ⟨b, o + k * 3, none⟩) hb).trans t0
      have E := Lib.hid (HGE.out k hkl HK.out)
      have d1 : (k : Int) < (n : Int) := by omega
      have HX : Hid (∀ z, l[k].1 = z → z < key → ∀ j, j < k + 1 → ∀ h : j < l.length, l[j].1 < key) := fun z hz hzk j hj h => by
        rcases Nat.lt_or_ge j k with h' | h'
        · exact HK.out j h' h
        · obtain rfl : j = k := by omega
          omega
      clear hcl t0
      generalize l[k].1 = x at *
      by_cases hx : key ≤ x
      · obtain ⟨hE1, hE2⟩ := E.out hx
        subst hE1
        have d2 : decide (key ≤ x) = true := by simpa using hx
        go_wp2_with (fail)
        go_region
        go_wp2
        go_ret2
        subst hE2
        exact ⟨rfl, below_drewN' hbel _⟩
      · have d2 : ¬ (key ≤ x) := hx
        have HXX := Lib.hid (HX.out x rfl (by omega))
        go_wp2_with (fail)
        go_roundw
        case rel => exact ⟨k + 1, by omega, by go_num, HXX.out, hbel⟩
        case measure => simp [intOf]; omega
    · have d1 : ¬ ((k : Int) < (n : Int)) := by omega
      obtain rfl : k = n := by omega
      obtain ⟨hE1, hE2⟩ := HEND.out HK.out
      subst hE1 hE2
      go_wp2
      go_ret2
      exact ⟨rfl, hbel⟩
theorem Recs.take {w : World} {P : Option Addr} {n c : Nat} {l : List Tmr} (h : Recs rdTm 3 w P n c l) (k : Nat) (hk : k ≤ n) : Recs rdTm 3 w P k c (l.take k) :=
  ⟨by have := h.1; simp; omega, by have := h.2.1; omega, h.2.2.1, fun h0 => by
    obtain ⟨b, o, e, hb, hc⟩ := h.2.2.2 (by omega)
    refine ⟨b, o, e, hb, fun j hj => ?_⟩
    have hj' : j < l.length := by simp at hj; omega
    simpa using hc j hj'⟩
theorem Recs.drop {w : World} {b o n c : Nat} {l : List Tmr} (h : Recs rdTm 3 w (some ⟨b, o, none⟩) n c l) (k : Nat) (hk : k ≤ n) : Recs rdTm 3 w (some ⟨b, o + k * 3, none⟩) (n - k) (c - k) (l.drop k) :=
  ⟨by have := h.1; simp; omega, by have := h.2.1; omega, by have := h.2.2.1; omega, fun h0 => by
    obtain ⟨b', o', e, hb, hc⟩ := h.2.2.2 (by omega)
    injection e with e
    injection e with e1 e2
    subst e1 e2
    refine ⟨b, o + k * 3, rfl, hb, fun j hj => ?_⟩
    have hj' : k + j < l.length := by simp at hj; omega
    have := hc (k + j) hj'
    rw [show o + (k + j) * 3 = o + k * 3 + j * 3 by omega] at this
    simpa using this⟩
theorem Recs.none {w : World} {P : Option Addr} {c : Nat} (hc : c ≤ maxLen) : Recs rdTm 3 w P 0 c [] := ⟨rfl, Nat.zero_le _, hc, fun h => absurd h (by omega)⟩
/-- the list changed where it stands -/
theorem RT.upd {g b n c : Nat} {most : Int} {l l' : List Tmr} {w w2 w3 : World} {X : Nat → Prop} (hT : RT g most l w X) (hg : w.heap[g]? = some (.cells #[.int .i64 most, .slice (some ⟨b, 0, none⟩) n c] 64 (0, 0))) (hbX : X b ∧ b ≠ g) (T : Below w.heap.size w w2) (O : Off (· = b) w2 w3) (hown : OwnT w3 0 (.slice (some ⟨b, 0, none⟩) n c) l') (hok : TmOk most l') (hlen : l'.length ≤ 1000) : RT g most l' w3 X ∧ Turns X X w w3 := by
  have hgw := hT.2.1 g hT.1
  have O2 : Off (· = b) w w3 := ⟨O.os.trans T.os, O.tape.trans T.tape, O.output.trans T.output, Nat.le_trans T.size O.size, fun k hk h => (O.block k (by have := T.size; omega) h).trans (T.block k hk)⟩
  exact ⟨⟨hT.1, fun k hk => Nat.lt_of_lt_of_le (hT.2.1 k hk) O2.size, hok, hlen, _, (O2.block g hgw (fun e => hbX.2 e.symm)).trans hg, hown, fun j hj => by cases hj; exact hbX⟩,
    ⟨⟨O2.os, O2.tape, O2.output, O2.size, fun k hk h => O2.block k hk (fun e => h (e ▸ hbX.1))⟩, fun k hk => .inl hk⟩⟩
/-- a new list in the place of the old one -/
theorem RT.moved {g : Nat} {most : Int} {l l' : List Tmr} {w w3 : World} {X : Nat → Prop} {v v' : Value} (hT : RT g most l w X) (hg : w.heap[g]? = some (.cells #[.int .i64 most, v] 64 (0, 0))) (T : Below w.heap.size w w3) (hown : OwnT w3 w.heap.size v' l') (hok : TmOk most l') (hlen : l'.length ≤ 1000) :
    ∃ X', RT g most l' (w3.setCell ⟨g, 1, none⟩ v') X' ∧ Turns X X' w (w3.setCell ⟨g, 1, none⟩ v') := by
  have hgw := hT.2.1 g hT.1
  have hsz : (w3.setCell ⟨g, 1, none⟩ v').heap.size = w3.heap.size := by simp [World.setCell]
  have hs := T.size
  have hg3 := (T.block g hgw).trans hg
  have hg4 := heap_setCell_same w3 g 1 _ _ v' hg3
  have O4 : Off (· = g) w3 (w3.setCell ⟨g, 1, none⟩ v') := (Off.refl (· = g) w3).setCell (p := ⟨g, 1, none⟩) (.inl rfl) v'
  have hob := hown.lt
  have h4 := hown.off O4 (fun k hk e => by have := hob k hk; omega)
  refine ⟨fun k => k = g ∨ (w.heap.size ≤ k ∧ k < w3.heap.size), ⟨.inl rfl, fun k hk => by rcases hk with hk | hk <;> omega, hok, hlen, v', by simpa using hg4, h4.down (Nat.zero_le _), fun j hj => ⟨.inr (hob j hj), by have := hob j hj; omega⟩⟩, ⟨(Off.of_below T).setCell (p := ⟨g, 1, none⟩) (.inl hT.1) v', fun k hk => ?_⟩⟩
  rcases hk with rfl | hk
  · exact .inl hT.1
  · exact .inr hk.1
theorem three_set {w : World} {B b n c p : Nat} {l : List Tmr} (h : OwnT w B (.slice (some ⟨b, 0, none⟩) n c) l) (hn : l.length = n) (hp : p < l.length) (x y z : Int) :
    OwnT (((w.setCell ⟨b, p * 3, none⟩ (.int .i64 x)).setCell ⟨b, p * 3 + 1, none⟩ (.int .i64 y)).setCell ⟨b, p * 3 + 2, none⟩ (.int .i64 z)).drew B (.slice (some ⟨b, 0, none⟩) n c) (l.set p (x, y, z)) ∧
    Off (· = b) w (((w.setCell ⟨b, p * 3, none⟩ (.int .i64 x)).setCell ⟨b, p * 3 + 1, none⟩ (.int .i64 y)).setCell ⟨b, p * 3 + 2, none⟩ (.int .i64 z)).drew := by
  have three : ∀ q, q < 3 → q = 0 ∨ q = 1 ∨ q = 2 := fun q hq => by omega
  have h1 := (h.stored hn hp 0 (by omega) x (x, l[p].2.1, l[p].2.2) (fun q hq => by rcases three q hq with rfl | rfl | rfl <;> simp [fld])).1
  have h2 := (h1.stored (by simpa using hn) (by simpa using hp) 1 (by omega) y (x, y, l[p].2.2) (fun q hq => by rcases three q hq with rfl | rfl | rfl <;> simp [fld])).1
  have h3 := (h2.stored (by simpa using hn) (by simpa using hp) 2 (by omega) z (x, y, z) (fun q hq => by rcases three q hq with rfl | rfl | rfl <;> simp [fld])).1
  simp only [List.set_set, Nat.add_zero] at h3
  have o1 : Off (· = b) w (w.setCell ⟨b, p * 3, none⟩ (.int .i64 x)) := (Off.refl (· = b) w).setCell (p := ⟨b, p * 3, none⟩) (.inl rfl) _
  have o2 : Off (· = b) w ((w.setCell ⟨b, p * 3, none⟩ (.int .i64 x)).setCell ⟨b, p * 3 + 1, none⟩ (.int .i64 y)) := o1.setCell (p := ⟨b, p * 3 + 1, none⟩) (.inl rfl) _
  have o3 : Off (· = b) w (((w.setCell ⟨b, p * 3, none⟩ (.int .i64 x)).setCell ⟨b, p * 3 + 1, none⟩ (.int .i64 y)).setCell ⟨b, p * 3 + 2, none⟩ (.int .i64 z)) := o2.setCell (p := ⟨b, p * 3 + 2, none⟩) (.inl rfl) _
  exact ⟨h3.below (Below.refl _ _).drew, o3.drew⟩
theorem lit_tm (w : World) (key : Int) : Recs rdTm 3 (w.alloc (.cells #[.int .i64 key, .int .i64 1, .int .i64 1] 66)) (some ⟨w.heap.size, 0, none⟩) 1 1 [(key, 1, 1)] :=
  ⟨rfl, Nat.le_refl _, by unfold maxLen; omega, fun _ => ⟨w.heap.size, 0, rfl, by simp, fun j hj => by
    match j, hj with
    | 0, _ => exact ⟨by simp, by simp, by simp⟩⟩⟩
set_option maxHeartbeats 2000000 in
theorem rtset_any (g : Nat) (most : Int) (l : List Tmr) (key : Int) (w : World) (X : Nat → Prop) (hT : RT g most l w X) (hk : I64 key) (hl : l.length < 1000) :
    Calls Try.prog 41 #[.pointer (some ⟨g, 0, none⟩), .int .i64 key] w fun e w' => e = .returned (.tuple #[]) ∧ ∃ X', RT g most (tmSet l key) w' X' ∧ Turns X X' w w' := by
  have HA := Lib.hid (rtat_any g most l key w X hT)
  have HT := Lib.hid hT
  have hok2 := tmSet_ok key hk hT.2.2.1
  have hlen2 : (tmSet l key).length ≤ 1000 := Nat.le_trans (tmSet_len l key) (by omega)
  obtain ⟨hX, hlt, hok, h1000, v, hg, hown, hob⟩ := hT
  obtain ⟨c0, c1, f0, f1⟩ := row2t hg
  have hgw := hlt g hX
  obtain ⟨P, c, rfl, hnc, hcm, kL, hrow⟩ := hown.shape
  have hp := tmAt_le l key
  have hnew := tmSet_new l key
  have hfound := tmSet_found l key
  have hislt := tmIs_lt l key
  obtain ⟨p, hpe⟩ : ∃ p, tmAt l key = p := ⟨_, rfl⟩
  rw [hpe] at HA hp hnew hfound hislt
  generalize tmSet l key = l2 at *
  cases hf : tmIs l key with
  | true =>
    rw [hf] at HA
    have hpl : p < l.length := hislt hf
    obtain rfl := hfound hf
    rcases hrow with ⟨_, _, h0⟩ | ⟨b, rfl, hb1, hbw, hbf⟩
    · omega
    have hbX := hob b hb1
    have cc := fun r (hr : r < 3) => (World.ownsRow.cellAt hown (p * 3 + r) (by omega)).trans (tvs_at l p r hpl hr)
    obtain ⟨n, hn⟩ : ∃ n, l.length = n := ⟨_, rfl⟩
    have HE : Hid (∀ w2, Below w.heap.size w w2 → ∃ X', RT g most (l.set p (key, 1, 1)) (((w2.setCell ⟨b, p * 3, none⟩ (.int .i64 key)).setCell ⟨b, p * 3 + 1, none⟩ (.int .i64 1)).setCell ⟨b, p * 3 + 2, none⟩ (.int .i64 1)).drew X' ∧ Turns X X' w (((w2.setCell ⟨b, p * 3, none⟩ (.int .i64 key)).setCell ⟨b, p * 3 + 1, none⟩ (.int .i64 1)).setCell ⟨b, p * 3 + 2, none⟩ (.int .i64 1)).drew) := fun w2 T => by
      obtain ⟨k1, k2⟩ := three_set (hown.below T) rfl hpl key 1 1
      exact ⟨X, RT.upd HT.out hg hbX T k2 k1 hok2 hlen2⟩
    rw [hn] at c1 hnc hp hpl
    have d1 : (p : Int) < (n : Int) := by omega
    clear hg hown hob kL hok hok2 hnew hislt
    go_enter Try.func41, Try.ntmps41
    go_wp2_with (fail)
    refine HA.out.mono ?_
    rintro e w1 ⟨rfl, T1⟩
    have T2 := T1.alloc T1.size (.cells #[.int .i64 key, .int .i64 1, .int .i64 1] 66)
    have cb0 := (T2.cell (p := ⟨b, p * 3, none⟩) hbw).trans (cc 0 (by omega))
    have cb1 := (T2.cell (p := ⟨b, p * 3 + 1, none⟩) hbw).trans (cc 1 (by omega))
    have cb2 := (T2.cell (p := ⟨b, p * 3 + 2, none⟩) hbw).trans (cc 2 (by omega))
    have fb := fun j => (frozen_of_block (T2.block b hbw) j).trans (hbf j)
    have fb0 := fb (p * 3)
    have fb1 := fb (p * 3 + 1)
    have fb2 := fb (p * 3 + 2)
    have c1b := (T2.cell (p := ⟨g, 1, none⟩) hgw).trans c1
    have HE2 := Lib.hid (HE.out _ T2)
    clear cc fb
    go_wp2_with (fail)
    go_region
    go_wp2_with (fail)
    exact bodyPost_ret (results_none rfl _ _ _) rfl ⟨rfl, HE2.out⟩
  | false =>
    rw [hf] at HA
    obtain rfl := hnew hf
    have HE : Hid (∀ w3 v', Below w.heap.size w w3 → OwnT w3 w.heap.size v' (l.take p ++ [(key, 1, 1)] ++ l.drop p) → ∃ X', RT g most (l.take p ++ [(key, 1, 1)] ++ l.drop p) (w3.setCell ⟨g, 1, none⟩ v') X' ∧ Turns X X' w (w3.setCell ⟨g, 1, none⟩ v')) := fun w3 v' T h => RT.moved HT.out hg T h hok2 hlen2
    have HKT : Hid (∀ W, Below w.heap.size w W → Recs rdTm 3 W P p c (l.take p)) := fun W T => (kL.take p hp).below keepsTm T
    have h2l : (l.take p ++ [(key, 1, 1)]).length = p + 1 := by simp; omega
    have h3l : (l.take p ++ [(key, 1, 1)] ++ l.drop p).length = l.length + 1 := by simp; omega
    have h1l : (l.take p).length = p := by simp; omega
    have hdl : (l.drop p).length = l.length - p := by simp
    have hs0 : (l.take p ++ [(key, 1, 1)] ++ l.drop p).length ≤ 1001 := by omega
    have hp1 : p ≤ l.length := hp
    clear hnew hfound hislt hok hok2 hlen2 hown hg
    rcases hrow with ⟨rfl, h2, h0⟩ | ⟨b, rfl, -, -, -⟩
    · obtain ⟨n, hn⟩ : ∃ n, l.length = n := ⟨_, rfl⟩
      rw [hn] at c1 hnc hp hdl h3l kL hp1 h0
      have HKD : Hid (∀ W, Below w.heap.size w W → Recs rdTm 3 W none (n - p) (c - p) (l.drop p)) := fun W _ => ⟨by simp; omega, by omega, by unfold maxLen; omega, fun h => absurd h (by omega)⟩
      clear kL h0 h2
      go_enter Try.func41, Try.ntmps41
      go_wp2_with (fail)
      refine HA.out.mono ?_
      rintro e w1 ⟨rfl, T1⟩
      have TX := T1.alloc T1.size (.cells #[.int .i64 key, .int .i64 1, .int .i64 1] 66)
      have TE := TX.alloc TX.size (.cells #[] 66)
      have hsx : (w1.alloc (.cells #[.int .i64 key, .int .i64 1, .int .i64 1] 66)).heap.size = w1.heap.size + 1 := by simp
      have hse : ((w1.alloc (.cells #[.int .i64 key, .int .i64 1, .int .i64 1] 66)).alloc (.cells #[] 66)).heap.size = w1.heap.size + 2 := by simp
      have c1e := (TE.cell (p := ⟨g, 1, none⟩) hgw).trans c1
      have hE0 := (empty_rowt (w1.alloc (.cells #[.int .i64 key, .int .i64 1, .int .i64 1] 66))).down TX.size
      rw [hsx] at hE0
      have HE0 := Lib.hid hE0
      have HKT1 := Lib.hid (HKT.out _ TE)
      have hw1s := T1.size
      have hxr : ((w1.alloc (.cells #[.int .i64 key, .int .i64 1, .int .i64 1] 66)).alloc (.cells #[] 66)).heap[w1.heap.size]? = some (.cells #[.int .i64 key, .int .i64 1, .int .i64 1] 66 (0, 0)) := hp_old (heap_alloc_new w1 _) _
      have HXR := Lib.hid hxr
      have HTE := Lib.hid TE
      have HSE := Lib.hid hse
      clear hE0 hxr TX TE hsx hse
      go_wp2_with (at_builtin; first
        | ((refine app_t _ rfl (.tmp 24) (.tmp 30) rfl w.heap.size (.slice (some ⟨w1.heap.size + 1, 0, none⟩) 0 0) [] rfl ?_ _ _ _ (l.take p) rfl ?_ ?_ ?_ ?_); (exact HE0.out); (exact HKT1.out); (simp; omega); (exact HTE.out.size); intro v3 w3 hown3 hgrow3 hwhere3; (have T3 := HTE.out.grown hgrow3 HTE.out.size (fun k hk => by cases hk; show w.heap.size ≤ w1.heap.size + 1; omega)); (have hb3 := (hgrow3.block w1.heap.size (by rw [HSE.out]; omega) (fun e => by have e2 : w1.heap.size = w1.heap.size + 1 := Option.some.inj e; omega)).trans HXR.out); (obtain ⟨cx0, cx1, cx2⟩ : w3.cell? ⟨w1.heap.size, 0, none⟩ = some (.int .i64 key) ∧ w3.cell? ⟨w1.heap.size, 1, none⟩ = some (.int .i64 1) ∧ w3.cell? ⟨w1.heap.size, 2, none⟩ = some (.int .i64 1) := ⟨cell_of_row _ _ _ _ _ _ hb3, cell_of_row _ _ _ _ _ _ hb3, cell_of_row _ _ _ _ _ _ hb3⟩); (simp only [List.nil_append] at hown3); obtain ⟨P3, c3, hv3, _⟩ := hown3.shape; (rw [h1l] at hv3); subst hv3; (have TL3 := T3.alloc T3.size (.cells #[.int .i64 key, .int .i64 1, .int .i64 1] 66)); (have HO3 := Lib.hid (hown3.below ((Below.refl _ w3).alloc (Nat.le_refl _) (.cells #[.int .i64 key, .int .i64 1, .int .i64 1] 66)))); (have HTL3 := Lib.hid TL3); (have hlt3 := hown3.lt); (have HLT3 := Lib.hid hlt3); (have HLIT := Lib.hid (lit_tm w3 key)); clear hown3 hgrow3 hwhere3 hlt3 TL3 hb3)
        | ((refine app_t _ rfl (.tmp 32) (.tmp 34) rfl w.heap.size (.slice P3 p c3) (l.take p) rfl ?_ _ _ _ [(key, 1, 1)] rfl ?_ ?_ ?_ ?_); (exact HO3.out); (exact HLIT.out); (rw [h1l]; omega); (exact HTL3.out.size); intro v4 w4 hown4 hgrow4 hwhere4; (have T4 := HTL3.out.grown hgrow4 HTL3.out.size (fun k hk => (HLT3.out k hk).1)); (have c14 := (T4.cell (p := ⟨g, 1, none⟩) hgw).trans c1); obtain ⟨P4, c4, hv4, _⟩ := hown4.shape; (rw [h2l] at hv4); subst hv4; (have HO4 := Lib.hid hown4); (have HT4 := Lib.hid T4); (have HKD4 := Lib.hid (HKD.out _ T4)); clear hown4 hgrow4 hwhere4)
        | ((refine app_t _ rfl (.tmp 37) (.tmp 43) rfl w.heap.size (.slice P4 (p + 1) c4) (l.take p ++ [(key, 1, 1)]) rfl ?_ _ _ _ (l.drop p) rfl ?_ ?_ ?_ ?_); (exact HO4.out); (exact HKD4.out); (rw [h2l]; omega); (exact HT4.out.size); intro v5 w5 hown5 hgrow5 hwhere5; (have T5 := HT4.out.grown hgrow5 HT4.out.size (fun k hk => (HO4.out.lt k hk).1)); (have c15 := (T5.cell (p := ⟨g, 1, none⟩) hgw).trans c1); (have f15 := (frozen_of_block (T5.block g hgw) 1).trans f1); (have HEE := Lib.hid (HE.out w5 v5 T5 hown5)); obtain ⟨P5, c5, hv5, _⟩ := hown5.shape; (rw [h3l] at hv5); subst hv5))
      clear hown5 hgrow5 hwhere5
      go_wp2_with (fail)
      go_end0
      exact ⟨rfl, HEE.out⟩
    · by_cases hpc : c = p
      · obtain rfl : p = c := hpc.symm
        have hle : l.length = p := by omega
        have HKD : Hid (∀ W, Below w.heap.size w W → Recs rdTm 3 W (some ⟨b, 0, none⟩) 0 0 (l.drop p)) := fun W T => by
          rw [List.drop_of_length_le (by omega)]
          exact Recs.none (Nat.zero_le _)
        rw [hle] at c1 hdl h3l hnc hp
        clear kL
        go_enter Try.func41, Try.ntmps41
        go_wp2_with (fail)
        refine HA.out.mono ?_
        rintro e w1 ⟨rfl, T1⟩
        have TX := T1.alloc T1.size (.cells #[.int .i64 key, .int .i64 1, .int .i64 1] 66)
        have TE := TX.alloc TX.size (.cells #[] 66)
        have hsx : (w1.alloc (.cells #[.int .i64 key, .int .i64 1, .int .i64 1] 66)).heap.size = w1.heap.size + 1 := by simp
        have hse : ((w1.alloc (.cells #[.int .i64 key, .int .i64 1, .int .i64 1] 66)).alloc (.cells #[] 66)).heap.size = w1.heap.size + 2 := by simp
        have c1e := (TE.cell (p := ⟨g, 1, none⟩) hgw).trans c1
        have hE0 := (empty_rowt (w1.alloc (.cells #[.int .i64 key, .int .i64 1, .int .i64 1] 66))).down TX.size
        rw [hsx] at hE0
        have HE0 := Lib.hid hE0
        have HKT1 := Lib.hid (HKT.out _ TE)
        have hw1s := T1.size
        have hxr : ((w1.alloc (.cells #[.int .i64 key, .int .i64 1, .int .i64 1] 66)).alloc (.cells #[] 66)).heap[w1.heap.size]? = some (.cells #[.int .i64 key, .int .i64 1, .int .i64 1] 66 (0, 0)) := hp_old (heap_alloc_new w1 _) _
        have HXR := Lib.hid hxr
        have HTE := Lib.hid TE
        have HSE := Lib.hid hse
        clear hE0 hxr TX TE hsx hse
        go_wp2_with (at_builtin; first
          | ((refine app_t _ rfl (.tmp 24) (.tmp 30) rfl w.heap.size (.slice (some ⟨w1.heap.size + 1, 0, none⟩) 0 0) [] rfl ?_ _ _ _ (l.take p) rfl ?_ ?_ ?_ ?_); (exact HE0.out); (exact HKT1.out); (simp; omega); (exact HTE.out.size); intro v3 w3 hown3 hgrow3 hwhere3; (have T3 := HTE.out.grown hgrow3 HTE.out.size (fun k hk => by cases hk; show w.heap.size ≤ w1.heap.size + 1; omega)); (have hb3 := (hgrow3.block w1.heap.size (by rw [HSE.out]; omega) (fun e => by have e2 : w1.heap.size = w1.heap.size + 1 := Option.some.inj e; omega)).trans HXR.out); (obtain ⟨cx0, cx1, cx2⟩ : w3.cell? ⟨w1.heap.size, 0, none⟩ = some (.int .i64 key) ∧ w3.cell? ⟨w1.heap.size, 1, none⟩ = some (.int .i64 1) ∧ w3.cell? ⟨w1.heap.size, 2, none⟩ = some (.int .i64 1) := ⟨cell_of_row _ _ _ _ _ _ hb3, cell_of_row _ _ _ _ _ _ hb3, cell_of_row _ _ _ _ _ _ hb3⟩); (simp only [List.nil_append] at hown3); obtain ⟨P3, c3, hv3, _⟩ := hown3.shape; (rw [h1l] at hv3); subst hv3; (have TL3 := T3.alloc T3.size (.cells #[.int .i64 key, .int .i64 1, .int .i64 1] 66)); (have HO3 := Lib.hid (hown3.below ((Below.refl _ w3).alloc (Nat.le_refl _) (.cells #[.int .i64 key, .int .i64 1, .int .i64 1] 66)))); (have HTL3 := Lib.hid TL3); (have hlt3 := hown3.lt); (have HLT3 := Lib.hid hlt3); (have HLIT := Lib.hid (lit_tm w3 key)); clear hown3 hgrow3 hwhere3 hlt3 TL3 hb3)
          | ((refine app_t _ rfl (.tmp 32) (.tmp 34) rfl w.heap.size (.slice P3 p c3) (l.take p) rfl ?_ _ _ _ [(key, 1, 1)] rfl ?_ ?_ ?_ ?_); (exact HO3.out); (exact HLIT.out); (rw [h1l]; omega); (exact HTL3.out.size); intro v4 w4 hown4 hgrow4 hwhere4; (have T4 := HTL3.out.grown hgrow4 HTL3.out.size (fun k hk => (HLT3.out k hk).1)); (have c14 := (T4.cell (p := ⟨g, 1, none⟩) hgw).trans c1); obtain ⟨P4, c4, hv4, _⟩ := hown4.shape; (rw [h2l] at hv4); subst hv4; (have HO4 := Lib.hid hown4); (have HT4 := Lib.hid T4); (have HKD4 := Lib.hid (HKD.out _ T4)); clear hown4 hgrow4 hwhere4)
          | ((refine app_t _ rfl (.tmp 37) (.tmp 43) rfl w.heap.size (.slice P4 (p + 1) c4) (l.take p ++ [(key, 1, 1)]) rfl ?_ _ _ _ (l.drop p) rfl ?_ ?_ ?_ ?_); (exact HO4.out); (exact HKD4.out); (rw [h2l]; omega); (exact HT4.out.size); intro v5 w5 hown5 hgrow5 hwhere5; (have T5 := HT4.out.grown hgrow5 HT4.out.size (fun k hk => (HO4.out.lt k hk).1)); (have c15 := (T5.cell (p := ⟨g, 1, none⟩) hgw).trans c1); (have f15 := (frozen_of_block (T5.block g hgw) 1).trans f1); (have HEE := Lib.hid (HE.out w5 v5 T5 hown5)); obtain ⟨P5, c5, hv5, _⟩ := hown5.shape; (rw [h3l] at hv5); subst hv5))
        clear hown5 hgrow5 hwhere5
        go_wp2_with (fail)
        go_end0
        exact ⟨rfl, HEE.out⟩
      · obtain ⟨n, hn⟩ : ∃ n, l.length = n := ⟨_, rfl⟩
        rw [hn] at c1 hnc hp hdl h3l kL hp1
        have HKD : Hid (∀ W, Below w.heap.size w W → Recs rdTm 3 W (some ⟨b, p * 3, none⟩) (n - p) (c - p) (l.drop p)) := fun W T => by
          have := (kL.drop p hp).below keepsTm T
          rwa [Nat.zero_add] at this
        clear kL
        go_enter Try.func41, Try.ntmps41
        go_wp2_with (fail)
        refine HA.out.mono ?_
        rintro e w1 ⟨rfl, T1⟩
        have TX := T1.alloc T1.size (.cells #[.int .i64 key, .int .i64 1, .int .i64 1] 66)
        have TE := TX.alloc TX.size (.cells #[] 66)
        have hsx : (w1.alloc (.cells #[.int .i64 key, .int .i64 1, .int .i64 1] 66)).heap.size = w1.heap.size + 1 := by simp
        have hse : ((w1.alloc (.cells #[.int .i64 key, .int .i64 1, .int .i64 1] 66)).alloc (.cells #[] 66)).heap.size = w1.heap.size + 2 := by simp
        have c1e := (TE.cell (p := ⟨g, 1, none⟩) hgw).trans c1
        have hE0 := (empty_rowt (w1.alloc (.cells #[.int .i64 key, .int .i64 1, .int .i64 1] 66))).down TX.size
        rw [hsx] at hE0
        have HE0 := Lib.hid hE0
        have HKT1 := Lib.hid (HKT.out _ TE)
        have hw1s := T1.size
        have hxr : ((w1.alloc (.cells #[.int .i64 key, .int .i64 1, .int .i64 1] 66)).alloc (.cells #[] 66)).heap[w1.heap.size]? = some (.cells #[.int .i64 key, .int .i64 1, .int .i64 1] 66 (0, 0)) := hp_old (heap_alloc_new w1 _) _
        have HXR := Lib.hid hxr
        have HTE := Lib.hid TE
        have HSE := Lib.hid hse
        clear hE0 hxr TX TE hsx hse
        go_wp2_with (at_builtin; first
          | ((refine app_t _ rfl (.tmp 24) (.tmp 30) rfl w.heap.size (.slice (some ⟨w1.heap.size + 1, 0, none⟩) 0 0) [] rfl ?_ _ _ _ (l.take p) rfl ?_ ?_ ?_ ?_); (exact HE0.out); (exact HKT1.out); (simp; omega); (exact HTE.out.size); intro v3 w3 hown3 hgrow3 hwhere3; (have T3 := HTE.out.grown hgrow3 HTE.out.size (fun k hk => by cases hk; show w.heap.size ≤ w1.heap.size + 1; omega)); (have hb3 := (hgrow3.block w1.heap.size (by rw [HSE.out]; omega) (fun e => by have e2 : w1.heap.size = w1.heap.size + 1 := Option.some.inj e; omega)).trans HXR.out); (obtain ⟨cx0, cx1, cx2⟩ : w3.cell? ⟨w1.heap.size, 0, none⟩ = some (.int .i64 key) ∧ w3.cell? ⟨w1.heap.size, 1, none⟩ = some (.int .i64 1) ∧ w3.cell? ⟨w1.heap.size, 2, none⟩ = some (.int .i64 1) := ⟨cell_of_row _ _ _ _ _ _ hb3, cell_of_row _ _ _ _ _ _ hb3, cell_of_row _ _ _ _ _ _ hb3⟩); (simp only [List.nil_append] at hown3); obtain ⟨P3, c3, hv3, _⟩ := hown3.shape; (rw [h1l] at hv3); subst hv3; (have TL3 := T3.alloc T3.size (.cells #[.int .i64 key, .int .i64 1, .int .i64 1] 66)); (have HO3 := Lib.hid (hown3.below ((Below.refl _ w3).alloc (Nat.le_refl _) (.cells #[.int .i64 key, .int .i64 1, .int .i64 1] 66)))); (have HTL3 := Lib.hid TL3); (have hlt3 := hown3.lt); (have HLT3 := Lib.hid hlt3); (have HLIT := Lib.hid (lit_tm w3 key)); clear hown3 hgrow3 hwhere3 hlt3 TL3 hb3)
          | ((refine app_t _ rfl (.tmp 32) (.tmp 34) rfl w.heap.size (.slice P3 p c3) (l.take p) rfl ?_ _ _ _ [(key, 1, 1)] rfl ?_ ?_ ?_ ?_); (exact HO3.out); (exact HLIT.out); (rw [h1l]; omega); (exact HTL3.out.size); intro v4 w4 hown4 hgrow4 hwhere4; (have T4 := HTL3.out.grown hgrow4 HTL3.out.size (fun k hk => (HLT3.out k hk).1)); (have c14 := (T4.cell (p := ⟨g, 1, none⟩) hgw).trans c1); obtain ⟨P4, c4, hv4, _⟩ := hown4.shape; (rw [h2l] at hv4); subst hv4; (have HO4 := Lib.hid hown4); (have HT4 := Lib.hid T4); (have HKD4 := Lib.hid (HKD.out _ T4)); clear hown4 hgrow4 hwhere4)
          | ((refine app_t _ rfl (.tmp 37) (.tmp 43) rfl w.heap.size (.slice P4 (p + 1) c4) (l.take p ++ [(key, 1, 1)]) rfl ?_ _ _ _ (l.drop p) rfl ?_ ?_ ?_ ?_); (exact HO4.out); (exact HKD4.out); (rw [h2l]; omega); (exact HT4.out.size); intro v5 w5 hown5 hgrow5 hwhere5; (have T5 := HT4.out.grown hgrow5 HT4.out.size (fun k hk => (HO4.out.lt k hk).1)); (have c15 := (T5.cell (p := ⟨g, 1, none⟩) hgw).trans c1); (have f15 := (frozen_of_block (T5.block g hgw) 1).trans f1); (have HEE := Lib.hid (HE.out w5 v5 T5 hown5)); obtain ⟨P5, c5, hv5, _⟩ := hown5.shape; (rw [h3l] at hv5); subst hv5))
        clear hown5 hgrow5 hwhere5
        go_wp2_with (fail)
        go_end0
        exact ⟨rfl, HEE.out⟩
set_option maxHeartbeats 2000000 in
theorem rtclear_any (g : Nat) (most : Int) (l : List Tmr) (key : Int) (w : World) (X : Nat → Prop) (hT : RT g most l w X) :
    Calls Try.prog 39 #[.pointer (some ⟨g, 0, none⟩), .int .i64 key] w fun e w' => e = .returned (.bool (tmIs l key)) ∧ ∃ X', RT g most (tmClear l key) w' X' ∧ Turns X X' w w' := by
  have HA := Lib.hid (rtat_any g most l key w X hT)
  have HT := Lib.hid hT
  have hok2 := tmClear_ok key hT.2.2.1
  have hlen2 : (tmClear l key).length ≤ 1000 := Nat.le_trans (tmClear_len l key) hT.2.2.2.1
  obtain ⟨hX, hlt, hok, h1000, v, hg, hown, hob⟩ := hT
  obtain ⟨c0, c1, f0, f1⟩ := row2t hg
  have hgw := hlt g hX
  obtain ⟨P, c, rfl, hnc, hcm, kL, hrow⟩ := hown.shape
  have hp := tmAt_le l key
  have hislt := tmIs_lt l key
  have hcl : tmClear l key = if tmIs l key then l.take (tmAt l key) ++ l.drop (tmAt l key + 1) else l := rfl
  obtain ⟨p, hpe⟩ : ∃ p, tmAt l key = p := ⟨_, rfl⟩
  rw [hpe] at HA hp hislt hcl
  generalize tmClear l key = l2 at *
  cases hf : tmIs l key with
  | false =>
    rw [hf] at HA hcl
    simp only [Bool.false_eq_true, if_false] at hcl
    subst hcl
    clear hg hown hob kL hok hok2 hislt hlen2 c0 c1 f0 f1
    go_enter Try.func39, Try.ntmps39
    go_wp2_with (fail)
    refine HA.out.mono ?_
    rintro e w1 ⟨rfl, T1⟩
    have HE := Lib.hid ((RT.holds g most l2).below HT.out T1)
    go_wp2
    go_ret
    exact ⟨rfl, X, HE.out, Turns.of_below T1⟩
  | true =>
    rw [hf] at HA hcl
    simp only [if_true] at hcl
    subst hcl
    have hpl : p < l.length := hislt hf
    rcases hrow with ⟨_, _, h0⟩ | ⟨b, rfl, -, -, -⟩
    · omega
    have HE : Hid (∀ w3 v', Below w.heap.size w w3 → OwnT w3 w.heap.size v' (l.take p ++ l.drop (p + 1)) → ∃ X', RT g most (l.take p ++ l.drop (p + 1)) (w3.setCell ⟨g, 1, none⟩ v') X' ∧ Turns X X' w (w3.setCell ⟨g, 1, none⟩ v')) := fun w3 v' T h => RT.moved HT.out hg T h hok2 hlen2
    have HKT : Hid (∀ W, Below w.heap.size w W → Recs rdTm 3 W (some ⟨b, 0, none⟩) p c (l.take p)) := fun W T => (kL.take p hp).below keepsTm T
    have h1l : (l.take p).length = p := by simp; omega
    obtain ⟨n, hn⟩ : ∃ n, l.length = n := ⟨_, rfl⟩
    have hdl : (l.drop (p + 1)).length = n - (p + 1) := by simp [hn]
    have h3l : (l.take p ++ l.drop (p + 1)).length = n - 1 := by rw [List.length_append, h1l, hdl]; omega
    rw [hn] at c1 hnc hp kL hpl h1000
    have hp1 : p + 1 ≤ n := hpl
    have hw1 : IntKind.i64.wrap ((p : Int) + 1) = (p : Int) + 1 := IntWalk.i64_in _ (by omega)
    clear hg hown hob hok hok2 hislt hlen2
    by_cases hpc : c = p + 1
    · obtain rfl := hpc
      obtain rfl : n = p + 1 := by omega
      have HKD : Hid (∀ W, Below w.heap.size w W → Recs rdTm 3 W (some ⟨b, 0, none⟩) 0 0 (l.drop (p + 1))) := fun W T => by
        rw [List.drop_of_length_le (by omega)]
        exact Recs.none (Nat.zero_le _)
      clear kL
      go_enter Try.func39, Try.ntmps39
      go_wp2_with (fail)
      refine HA.out.mono ?_
      rintro e w1 ⟨rfl, T1⟩
      have TE := T1.alloc T1.size (.cells #[] 66)
      have hse : (w1.alloc (.cells #[] 66)).heap.size = w1.heap.size + 1 := by simp
      have c1e := (TE.cell (p := ⟨g, 1, none⟩) hgw).trans c1
      have hE0 := (empty_rowt w1).down T1.size
      have HE0 := Lib.hid hE0
      have HKT1 := Lib.hid (HKT.out _ TE)
      have hw1s := T1.size
      have HTE := Lib.hid TE
      clear hE0 TE hse
      go_wp2_with (at_builtin; first
        | ((refine app_t _ rfl (.tmp 15) (.tmp 21) rfl w.heap.size (.slice (some ⟨w1.heap.size, 0, none⟩) 0 0) [] rfl ?_ _ _ _ (l.take p) rfl ?_ ?_ ?_ ?_); (exact HE0.out); (exact HKT1.out); (simp; omega); (exact HTE.out.size); intro v3 w3 hown3 hgrow3 hwhere3; (have T3 := HTE.out.grown hgrow3 HTE.out.size (fun k hk => by cases hk; show w.heap.size ≤ w1.heap.size; omega)); (simp only [List.nil_append] at hown3); obtain ⟨P3, c3, hv3, _⟩ := hown3.shape; (rw [h1l] at hv3); subst hv3; (have c13 := (T3.cell (p := ⟨g, 1, none⟩) hgw).trans c1); (have HO3 := Lib.hid hown3); (have HT3 := Lib.hid T3); (have HKD3 := Lib.hid (HKD.out _ T3)); clear hown3 hgrow3 hwhere3)
        | ((refine app_t _ rfl (.tmp 24) (.tmp 31) rfl w.heap.size (.slice P3 p c3) (l.take p) rfl ?_ _ _ _ (l.drop (p + 1)) rfl ?_ ?_ ?_ ?_); (exact HO3.out); (exact HKD3.out); (rw [h1l]; omega); (exact HT3.out.size); intro v5 w5 hown5 hgrow5 hwhere5; (have T5 := HT3.out.grown hgrow5 HT3.out.size (fun k hk => (HO3.out.lt k hk).1)); (have c15 := (T5.cell (p := ⟨g, 1, none⟩) hgw).trans c1); (have f15 := (frozen_of_block (T5.block g hgw) 1).trans f1); (have HEE := Lib.hid (HE.out w5 v5 T5 hown5)); obtain ⟨P5, c5, hv5, _⟩ := hown5.shape; (rw [h3l] at hv5); subst hv5))
      clear hown5 hgrow5 hwhere5
      go_wp2
      go_ret
      exact ⟨rfl, HEE.out⟩
    · have HKD : Hid (∀ W, Below w.heap.size w W → Recs rdTm 3 W (some ⟨b, (p + 1) * 3, none⟩) (n - (p + 1)) (c - (p + 1)) (l.drop (p + 1))) := fun W T => by
          have := (kL.drop (p + 1) hp1).below keepsTm T
          rwa [Nat.zero_add] at this
      clear kL
      go_enter Try.func39, Try.ntmps39
      go_wp2_with (fail)
      refine HA.out.mono ?_
      rintro e w1 ⟨rfl, T1⟩
      have TE := T1.alloc T1.size (.cells #[] 66)
      have hse : (w1.alloc (.cells #[] 66)).heap.size = w1.heap.size + 1 := by simp
      have c1e := (TE.cell (p := ⟨g, 1, none⟩) hgw).trans c1
      have hE0 := (empty_rowt w1).down T1.size
      have HE0 := Lib.hid hE0
      have HKT1 := Lib.hid (HKT.out _ TE)
      have hw1s := T1.size
      have HTE := Lib.hid TE
      clear hE0 TE hse
      go_wp2_with (at_builtin; first
        | ((refine app_t _ rfl (.tmp 15) (.tmp 21) rfl w.heap.size (.slice (some ⟨w1.heap.size, 0, none⟩) 0 0) [] rfl ?_ _ _ _ (l.take p) rfl ?_ ?_ ?_ ?_); (exact HE0.out); (exact HKT1.out); (simp; omega); (exact HTE.out.size); intro v3 w3 hown3 hgrow3 hwhere3; (have T3 := HTE.out.grown hgrow3 HTE.out.size (fun k hk => by cases hk; show w.heap.size ≤ w1.heap.size; omega)); (simp only [List.nil_append] at hown3); obtain ⟨P3, c3, hv3, _⟩ := hown3.shape; (rw [h1l] at hv3); subst hv3; (have c13 := (T3.cell (p := ⟨g, 1, none⟩) hgw).trans c1); (have HO3 := Lib.hid hown3); (have HT3 := Lib.hid T3); (have HKD3 := Lib.hid (HKD.out _ T3)); clear hown3 hgrow3 hwhere3)
        | ((refine app_t _ rfl (.tmp 24) (.tmp 31) rfl w.heap.size (.slice P3 p c3) (l.take p) rfl ?_ _ _ _ (l.drop (p + 1)) rfl ?_ ?_ ?_ ?_); (exact HO3.out); (exact HKD3.out); (rw [h1l]; omega); (exact HT3.out.size); intro v5 w5 hown5 hgrow5 hwhere5; (have T5 := HT3.out.grown hgrow5 HT3.out.size (fun k hk => (HO3.out.lt k hk).1)); (have c15 := (T5.cell (p := ⟨g, 1, none⟩) hgw).trans c1); (have f15 := (frozen_of_block (T5.block g hgw) 1).trans f1); (have HEE := Lib.hid (HE.out w5 v5 T5 hown5)); obtain ⟨P5, c5, hv5, _⟩ := hown5.shape; (rw [h3l] at hv5); subst hv5))
      clear hown5 hgrow5 hwhere5
      go_wp2
      go_ret
      exact ⟨rfl, HEE.out⟩
theorem tick_span {w : World} {b n c k : Nat} {L : List Tmr} {key left span : Int} (h : OwnT w 0 (.slice (some ⟨b, 0, none⟩) n c) (L.set k (key, left, span))) (hL : L.length = n) (hk : k < L.length) (x : Int) :
    OwnT ((w.setCell ⟨b, k * 3 + 2, none⟩ (.int .i64 x)).drew.setCell ⟨b, k * 3 + 1, none⟩ (.int .i64 x)) 0 (.slice (some ⟨b, 0, none⟩) n c) (L.set k (key, x, x)) ∧ Off (· = b) w ((w.setCell ⟨b, k * 3 + 2, none⟩ (.int .i64 x)).drew.setCell ⟨b, k * 3 + 1, none⟩ (.int .i64 x)) := by
  have three : ∀ q, q < 3 → q = 0 ∨ q = 1 ∨ q = 2 := fun q hq => by omega
  have h1 := (h.stored (by simpa using hL) (by simpa using hk) 2 (by omega) x (key, left, x) (fun q hq => by rcases three q hq with rfl | rfl | rfl <;> simp [fld])).1
  have h2 := h1.below (Below.refl _ _).drew
  have h3 := (h2.stored (by simpa using hL) (by simpa using hk) 1 (by omega) x (key, x, x) (fun q hq => by rcases three q hq with rfl | rfl | rfl <;> simp [fld])).1
  simp only [List.set_set] at h3
  have o1 : Off (· = b) w (w.setCell ⟨b, k * 3 + 2, none⟩ (.int .i64 x)) := (Off.refl (· = b) w).setCell (p := ⟨b, k * 3 + 2, none⟩) (.inl rfl) _
  exact ⟨h3, o1.drew.setCell (p := ⟨b, k * 3 + 1, none⟩) (.inl rfl) _⟩
theorem tick_cap {w : World} {b n c k : Nat} {L : List Tmr} {key left span : Int} (h : OwnT w 0 (.slice (some ⟨b, 0, none⟩) n c) (L.set k (key, left, span))) (hL : L.length = n) (hk : k < L.length) (x y : Int) :
    OwnT (((w.setCell ⟨b, k * 3 + 2, none⟩ (.int .i64 y)).drew.setCell ⟨b, k * 3 + 2, none⟩ (.int .i64 x)).setCell ⟨b, k * 3 + 1, none⟩ (.int .i64 x)) 0 (.slice (some ⟨b, 0, none⟩) n c) (L.set k (key, x, x)) ∧ Off (· = b) w (((w.setCell ⟨b, k * 3 + 2, none⟩ (.int .i64 y)).drew.setCell ⟨b, k * 3 + 2, none⟩ (.int .i64 x)).setCell ⟨b, k * 3 + 1, none⟩ (.int .i64 x)) := by
  have three : ∀ q, q < 3 → q = 0 ∨ q = 1 ∨ q = 2 := fun q hq => by omega
  have h0 := (h.stored (by simpa using hL) (by simpa using hk) 2 (by omega) y (key, left, y) (fun q hq => by rcases three q hq with rfl | rfl | rfl <;> simp [fld])).1
  have h1 := ((h0.below (Below.refl _ _).drew).stored (by simpa using hL) (by simpa using hk) 2 (by omega) x (key, left, x) (fun q hq => by rcases three q hq with rfl | rfl | rfl <;> simp [fld])).1
  have h3 := (h1.stored (by simpa using hL) (by simpa using hk) 1 (by omega) x (key, x, x) (fun q hq => by rcases three q hq with rfl | rfl | rfl <;> simp [fld])).1
  simp only [List.set_set] at h3
  have o1 : Off (· = b) w (w.setCell ⟨b, k * 3 + 2, none⟩ (.int .i64 y)) := (Off.refl (· = b) w).setCell (p := ⟨b, k * 3 + 2, none⟩) (.inl rfl) _
  have o2 : Off (· = b) w ((w.setCell ⟨b, k * 3 + 2, none⟩ (.int .i64 y)).drew.setCell ⟨b, k * 3 + 2, none⟩ (.int .i64 x)) := o1.drew.setCell (p := ⟨b, k * 3 + 2, none⟩) (.inl rfl) _
  exact ⟨h3, o2.setCell (p := ⟨b, k * 3 + 1, none⟩) (.inl rfl) _⟩
/-- what Tick answers and leaves -/
def GivesTick (g : Nat) (most : Int) (l : List Tmr) (X : Nat → Prop) (w : World) (e : Ending) (w' : World) : Prop := ∃ A n c, e = .returned (.slice A n c) ∧ Zs w' A n c (tmDue l) ∧ RT g most (tmTick most l) w' X ∧ Turns X X w w'
theorem OwnZ.zs {w : World} {B n c : Nat} {A : Option Addr} {l : List Int} (h : OwnZ w B (.slice A n c) l) : Zs w A n c l ∧ l.length = n := by
  obtain ⟨P, d, e, k, _⟩ := h.shape
  injection e with e1 e2 e3
  subst e1 e2 e3
  exact ⟨k, rfl⟩
set_option maxHeartbeats 4000000 in
theorem rttick_any (g : Nat) (most : Int) (l : List Tmr) (w : World) (X : Nat → Prop) (hT : RT g most l w X) :
    Calls Try.prog 35 #[.pointer (some ⟨g, 0, none⟩)] w (GivesTick g most l X w) := by
  have HT := Lib.hid hT
  have hok2 := Lib.hid (tmTick_ok hT.2.2.1)
  obtain ⟨hX, hlt, hok, h1000, v, hg, hown, hob⟩ := hT
  obtain ⟨c0, c1, f0, f1⟩ := row2t hg
  have hgw := hlt g hX
  obtain ⟨P, c, rfl, hnc, hcm, kL, hrow⟩ := hown.shape
  have HG := Lib.hid hg
  have HOB := Lib.hid hob
  have HOK := Lib.hid hok
  have HLT := Lib.hid hlt
  obtain ⟨n, hn⟩ : ∃ n, l.length = n := ⟨_, rfl⟩
  rw [hn] at c1 hnc hrow HG HOB hown
  have HP : Hid (0 < n → ∃ b, P = some ⟨b, 0, none⟩ ∧ b < w.heap.size ∧ b ≠ g ∧ X b) := fun h => by
    rcases hrow with ⟨_, _, h0⟩ | ⟨b, rfl, e, hb, _⟩
    · omega
    · exact ⟨b, rfl, hb, (HOB.out b e).2, (HOB.out b e).1⟩
  have HLN := Lib.hid hn
  have hm1 : 1 ≤ most := hok.1.1
  have hm2 : most ≤ 64 := hok.1.2
  have h0 : tmDue (l.take 0) = [] := by simp [tmDue]
  have h00 : tmTick most (l.take 0) ++ l.drop 0 = l := by simp [tmTick]
  have HOZ0 : Hid (OwnZ w w.heap.size (.slice none 0 0) (tmDue (l.take 0))) := by rw [h0]; exact OwnZ.nil _ _
  have HOT0 : Hid (OwnT w 0 (.slice P n c) (tmTick most (l.take 0) ++ l.drop 0)) := by rw [h00]; exact hown
  have HGO : Hid (∀ j, (Value.slice P n c).ownBlock = some j → j ≠ g ∧ j < w.heap.size) := fun j hj => ⟨(HOB.out j hj).2, HLT.out j (HOB.out j hj).1⟩
  clear hg hob hok hlt hown kL hrow hn h0 h00 f0 f1
  go_enter Try.func35, Try.ntmps35
  go_wp2_with (fail)
  go_loopw [3, 4] (fun v i wr => ∃ k : Nat, k ≤ n ∧ i = .int .i64 (k : Int) ∧ Hid (OwnZ wr w.heap.size v (tmDue (l.take k))) ∧ Hid (OwnT wr 0 (.slice P n c) (tmTick most (l.take k) ++ l.drop k)) ∧ Hid (Off (fun j => (Value.slice P n c).ownBlock = some j) w wr)) (fun _ i _ => n - (intOf i).toNat)
  case atStart => exact ⟨0, Nat.zero_le _, rfl, HOZ0, HOT0, Off.refl _ _⟩
  case round =>
    obtain ⟨k, hk, rfl, HOZ, HOT, HOF⟩ := hrel
    have cr1 := (HOF.out.cell (p := ⟨g, 1, none⟩) hgw (fun e => (HGO.out g e).1 rfl)).trans c1
    have cr0 := (HOF.out.cell (p := ⟨g, 0, none⟩) hgw (fun e => (HGO.out g e).1 rfl)).trans c0
    by_cases hlt : k < n
    · have hkl : k < l.length := by rw [HLN.out]; exact hlt
      obtain ⟨b, rfl, hbw, hbg, hbX⟩ := HP.out (by omega)
      have d1 : (k : Int) < (n : Int) := by omega
      obtain ⟨hLn, hLk⟩ := tmTick_mid most l k hkl
      rw [HLN.out] at hLn
      have hstep := tmTick_step most l k hkl
      have hdue := tmDue_step l k hkl
      have hbd := HOK.out.2.2 _ (List.getElem_mem hkl)
      generalize l[k] = t at *
      obtain ⟨key, left, span⟩ := t
      simp only at hbd
      generalize tmTick most (l.take k) ++ l.drop k = L at *
      have hkL : k < L.length := by omega
      obtain ⟨b0, b1, b2, bf⟩ := HOT.out.cell hLn hLk
      simp only at b0 b1 b2
      have bf0 := bf (k * 3)
      have bf1 := bf (k * 3 + 1)
      have bf2 := bf (k * 3 + 2)
      obtain ⟨hb1, hb2, hb3⟩ := hbd
      have hLkk : L[k] = (key, left, span) := by
        have := hLk
        rw [List.getElem?_eq_getElem hkL] at this
        exact Option.some.inj this
      have three : ∀ q, q < 3 → q = 0 ∨ q = 1 ∨ q = 2 := fun q hq => by omega
      have HW1 : Hid (OwnT (wr.setCell ⟨b, k * 3 + 1, none⟩ (.int .i64 (left - 1))) 0 (.slice (some ⟨b, 0, none⟩) n c) (L.set k (key, left - 1, span))) :=
        (HOT.out.stored hLn hkL 1 (by omega) (left - 1) (key, left - 1, span) (fun q hq => by rcases three q hq with rfl | rfl | rfl <;> simp [fld, hLkk])).1
      have HO1 : Hid (Off (fun j => (Value.slice (some ⟨b, 0, none⟩) n c).ownBlock = some j) w (wr.setCell ⟨b, k * 3 + 1, none⟩ (.int .i64 (left - 1)))) := HOF.out.setCell (p := ⟨b, k * 3 + 1, none⟩) (.inl rfl) _
      have HOZ1 : Hid (∀ v', OwnZ wr w.heap.size v' (tmDue (l.take k)) → OwnZ (wr.setCell ⟨b, k * 3 + 1, none⟩ (.int .i64 (left - 1))) w.heap.size v' (tmDue (l.take k))) := fun v' h => h.off (X := (· = b)) ((Off.refl (· = b) wr).setCell (p := ⟨b, k * 3 + 1, none⟩) (.inl rfl) _) (fun j hj e => by have := (h.lt j hj).1; omega)
      have hw1 : IntKind.i64.wrap (left - 1) = left - 1 := IntWalk.i64_in _ (by omega)
      by_cases hleft : 0 < left - 1
      · have d2 : decide (0 < left - 1) = true := by simpa using hleft
        have hs : tmStep most (key, left, span) = (key, left - 1, span) := by unfold tmStep; rw [if_pos hleft]
        rw [hs] at hstep
        simp only [if_pos hleft, List.append_nil] at hdue
        have HR : Hid (OwnT (wr.setCell ⟨b, k * 3 + 1, none⟩ (.int .i64 (left - 1))) 0 (.slice (some ⟨b, 0, none⟩) n c) (tmTick most (l.take (k + 1)) ++ l.drop (k + 1))) := by rw [← hstep]; exact HW1.out
        have HZ2 := Lib.hid (HOZ1.out _ HOZ.out)
        have HZ3 : Hid (OwnZ (wr.setCell ⟨b, k * 3 + 1, none⟩ (.int .i64 (left - 1))) w.heap.size u3 (tmDue (l.take (k + 1)))) := by rw [hdue]; exact HZ2.out
        clear hstep hdue hs bf hLk hLkk HZ2
        go_wp2_with (fail)
        go_roundw
        case rel => exact ⟨k + 1, by omega, by go_num, HZ3, HR, HO1⟩
        case measure => simp [intOf]; omega
      · have d2 : decide (0 < left - 1) = false := by simpa using hleft
        have d2' : ¬ (0 < left - 1) := hleft
        simp only [if_neg hleft] at hdue
        obtain ⟨a0, a1, a2, af⟩ := HW1.out.cell (by simpa using hLn) (j := k) (t := (key, left - 1, span)) (by simp [hkL])
        simp only at a0 a1 a2
        have o : Obj := .cells #[.int .i64 key] 3
        have HZA : Hid (OwnZ ((wr.setCell ⟨b, k * 3 + 1, none⟩ (.int .i64 (left - 1))).alloc (.cells #[.int .i64 key] 3)) w.heap.size u3 (tmDue (l.take k))) := (HOZ1.out _ HOZ.out).below ((Below.refl _ _).alloc (Nat.le_refl _) _)
        have HLIT : Hid (Zs ((wr.setCell ⟨b, k * 3 + 1, none⟩ (.int .i64 (left - 1))).alloc (.cells #[.int .i64 key] 3)) (some ⟨wr.heap.size, 0, none⟩) 1 1 [key]) := by
          have := Zs.lit1 (wr.setCell ⟨b, k * 3 + 1, none⟩ (.int .i64 (left - 1))) key
          rwa [show (wr.setCell ⟨b, k * 3 + 1, none⟩ (.int .i64 (left - 1))).heap.size = wr.heap.size by simp [World.setCell]] at this
        have hlen : (tmDue (l.take k)).length + 1 ≤ 1099511627776 := by
          have h1 := tmDue_len (l.take k)
          have h2 : (l.take k).length ≤ l.length := by simp; omega
          omega
        have HLEN := Lib.hid hlen
        have HOA := Lib.hid (HO1.out.alloc (.cells #[.int .i64 key] 3))
        have HBW := Lib.hid (fun j (hj : u3.ownBlock = some j) => (HOZ.out.lt j hj))
        have HS : Hid (∀ w3, OwnT w3 0 (.slice (some ⟨b, 0, none⟩) n c) (L.set k (key, left - 1, span)) → (most < 2 * span → OwnT (((w3.setCell ⟨b, k * 3 + 2, none⟩ (.int .i64 (2 * span))).drew.setCell ⟨b, k * 3 + 2, none⟩ (.int .i64 most)).setCell ⟨b, k * 3 + 1, none⟩ (.int .i64 most)) 0 (.slice (some ⟨b, 0, none⟩) n c) (tmTick most (l.take (k + 1)) ++ l.drop (k + 1)) ∧ Off (· = b) w3 (((w3.setCell ⟨b, k * 3 + 2, none⟩ (.int .i64 (2 * span))).drew.setCell ⟨b, k * 3 + 2, none⟩ (.int .i64 most)).setCell ⟨b, k * 3 + 1, none⟩ (.int .i64 most))) ∧ (¬ most < 2 * span → OwnT ((w3.setCell ⟨b, k * 3 + 2, none⟩ (.int .i64 (2 * span))).drew.setCell ⟨b, k * 3 + 1, none⟩ (.int .i64 (2 * span))) 0 (.slice (some ⟨b, 0, none⟩) n c) (tmTick most (l.take (k + 1)) ++ l.drop (k + 1)) ∧ Off (· = b) w3 ((w3.setCell ⟨b, k * 3 + 2, none⟩ (.int .i64 (2 * span))).drew.setCell ⟨b, k * 3 + 1, none⟩ (.int .i64 (2 * span))))) := fun w3 h => by
          refine ⟨fun hm => ?_, fun hm => ?_⟩
          · have hs : tmStep most (key, left, span) = (key, most, most) := by unfold tmStep; simp only [if_neg hleft, if_pos hm]
            rw [← hstep, hs]
            exact tick_cap h hLn hkL most (2 * span)
          · have hs : tmStep most (key, left, span) = (key, 2 * span, 2 * span) := by unfold tmStep; simp only [if_neg hleft, if_neg hm]
            rw [← hstep, hs]
            exact tick_span h hLn hkL (2 * span)
        have hLs : (L.set k (key, left - 1, span)).length = n := by simpa using hLn
        have hLsk : (L.set k (key, left - 1, span))[k]? = some (key, left - 1, span) := by simp [hkL]
        have HC3 : Hid (∀ w3, OwnT w3 0 (.slice (some ⟨b, 0, none⟩) n c) (L.set k (key, left - 1, span)) → w3.cell? ⟨b, k * 3 + 1, none⟩ = some (.int .i64 (left - 1)) ∧ w3.cell? ⟨b, k * 3 + 2, none⟩ = some (.int .i64 span) ∧ w3.frozen? ⟨b, k * 3 + 1, none⟩ = false ∧ w3.frozen? ⟨b, k * 3 + 2, none⟩ = false) := fun w3 h => by
          obtain ⟨_, h1, h2, hf⟩ := h.cell hLs hLsk
          exact ⟨h1, h2, hf _, hf _⟩
        have hw2 : IntKind.i64.wrap (2 * span) = 2 * span := IntWalk.i64_in _ (by omega)
        have hw3 : wrap64 (2 * span) = 2 * span := IntWalk.wrap64_in _ (by omega)
        have HD2 : Hid (tmDue (l.take (k + 1)) = tmDue (l.take k) ++ [key]) := hdue
        clear hstep hdue bf hLk hLkk hlen hLs hLsk three o af
        go_wp2_with (at_builtin; ((refine app_z _ rfl (.tmp 33) (.tmp 38) rfl w.heap.size u3 (tmDue (l.take k)) rfl ?_ _ _ _ [key] rfl ?_ ?_ ?_ ?_); (exact HZA.out); (exact HLIT.out); (exact HLEN.out); (exact HOA.out.size); intro v3 w3 hown3 hgrow3 hwhere3; (have hnb : ∀ j, (Value.slice (some ⟨b, 0, none⟩) n c).ownBlock = some j → ¬ u3.ownBlock = some j := fun j hj e => by (cases hj; have := (HBW.out b e).1; omega)); (have H3 := Lib.hid ((HW1.out.below ((Below.refl _ _).alloc (Nat.le_refl _) (.cells #[.int .i64 key] 3))).off (X := fun j => u3.ownBlock = some j) ((Off.refl _ _).grown hgrow3 (fun j hj => .inl hj)) hnb)); (have HO3 := Lib.hid (HOA.out.grown hgrow3 (fun j hj => .inr (HBW.out j hj).1))); (obtain ⟨e1, e2, ef1, ef2⟩ := HC3.out w3 H3.out); (have eg := (HO3.out.cell (p := ⟨g, 0, none⟩) hgw (fun e => (HGO.out g e).1 rfl)).trans c0); (have HZ3 := Lib.hid hown3); clear hown3 hgrow3 hwhere3))
        have eg4 := (((Off.refl (· = b) w3).setCell (p := ⟨b, k * 3 + 2, none⟩) (.inl rfl) (.int .i64 (2 * span))).cell (p := ⟨g, 0, none⟩) (Nat.lt_of_lt_of_le hgw HO3.out.size) (fun e => hbg e.symm)).trans eg
        have HBB : Hid (∀ W, Off (· = b) w3 W → OwnT W 0 (.slice (some ⟨b, 0, none⟩) n c) (tmTick most (l.take (k + 1)) ++ l.drop (k + 1)) → Hid (OwnZ W w.heap.size v3 (tmDue (l.take (k + 1)))) ∧ Hid (OwnT W 0 (.slice (some ⟨b, 0, none⟩) n c) (tmTick most (l.take (k + 1)) ++ l.drop (k + 1))) ∧ Hid (Off (fun j => (Value.slice (some ⟨b, 0, none⟩) n c).ownBlock = some j) w W)) := fun W o h => by
          refine ⟨?_, h, ?_⟩
          · show OwnZ _ _ _ _
            rw [HD2.out]
            exact HZ3.out.off o (fun j hj e => by have := (HZ3.out.lt j hj).1; omega)
          · refine HO3.out.trans ⟨o.os, o.tape, o.output, o.size, fun j hj hx => o.block j hj (fun e => hx (by subst e; rfl))⟩
        by_cases hm : most < 2 * span
        · have d4 : decide (most < 2 * span) = true := by simpa using hm
          obtain ⟨hh1, hh2⟩ := (HS.out w3 H3.out).1 hm
          have HR := Lib.hid (HBB.out _ hh2 hh1)
          clear hh1 hh2
          go_region
          go_wp2_with (fail)
          go_roundw
          case rel => exact ⟨k + 1, by omega, by go_num, HR.out.1, HR.out.2.1, HR.out.2.2⟩
          case measure => simp [intOf]; omega
        · have d4 : decide (most < 2 * span) = false := by simpa using hm
          have d4' : ¬ (most < 2 * span) := hm
          obtain ⟨hh1, hh2⟩ := (HS.out w3 H3.out).2 (by omega)
          have HR := Lib.hid (HBB.out _ hh2 hh1)
          clear hh1 hh2
          go_region
          go_wp2_with (fail)
          go_roundw
          case rel => exact ⟨k + 1, by omega, by go_num, HR.out.1, HR.out.2.1, HR.out.2.2⟩
          case measure => simp [intOf]; omega
    · have d1 : ¬ ((k : Int) < (n : Int)) := by omega
      obtain rfl : k = n := by omega
      have e1 : l.take k = l := List.take_of_length_le (by rw [HLN.out]; omega)
      have e2 : l.drop k = [] := List.drop_of_length_le (by rw [HLN.out]; omega)
      have hz := HOZ.out
      have ht := HOT.out
      rw [e1] at hz ht
      rw [e2, List.append_nil] at ht
      have hl2 : (tmTick most l).length ≤ 1000 := by unfold tmTick; rw [List.length_map]; exact h1000
      have HR : Hid (RT g most (tmTick most l) wr X ∧ Turns X X w wr) := by
        refine ⟨⟨hX, fun j hj => Nat.lt_of_lt_of_le (HLT.out j hj) HOF.out.size, hok2.out, hl2, _, (HOF.out.block g hgw (fun e => (HGO.out g e).1 rfl)).trans HG.out, ht, HOB.out⟩, ⟨⟨HOF.out.os, HOF.out.tape, HOF.out.output, HOF.out.size, fun j hj h => HOF.out.block j hj (fun e => h (HOB.out j e).1)⟩, fun j hj => .inl hj⟩⟩
      have HZ := Lib.hid hz
      obtain ⟨A, d, hv, -⟩ := hz.shape
      subst hv
      clear hz ht e1 e2 HOZ HOT HOF
      go_wp2
      go_ret
      exact ⟨_, _, _, rfl, HZ.out.zs.1, HR.out.1, HR.out.2⟩
end Go.Proofs.Ytncpabnmdofomaa
