/- Package queue, as landed: Pop, Push. -/
import Derived.Test.YtoajbocpebfjoaaQuK2
import Derived.Deep.RegionLaw
namespace Go.Proofs.Ytoajbocpebfjoaa
open Go.RowKit
set_option maxRecDepth 20000

theorem arr_set_ne (cs : Array Value) (i j : Nat) (v : Value) (h : i ≠ j) : (cs.setIfInBounds i v)[j]? = cs[j]? := Array.getElem?_setIfInBounds_ne h
theorem arr_set_eq (cs : Array Value) (i : Nat) (v : Value) (h : i < cs.size) : (cs.setIfInBounds i v)[i]? = some v := Array.getElem?_setIfInBounds_self_of_lt h
/-- three cells of a queue stored -/
theorem QuP.stored {g : Nat} {w w1 : World} {X : Nat → Prop} {cs : Array Value} (hX : X g) (hg : w1.heap[g]? = some (.cells cs 98 (0, 0))) (O : Off X w w1) (i : Nat) (a b c : Value) :
    (((w1.setCell ⟨g, i, none⟩ a).setCell ⟨g, 17, none⟩ b).setCell ⟨g, 18, none⟩ c).heap[g]? = some (.cells (((cs.setIfInBounds i a).setIfInBounds 17 b).setIfInBounds 18 c) 98 (0, 0)) ∧
    Off (· = g) w1 (((w1.setCell ⟨g, i, none⟩ a).setCell ⟨g, 17, none⟩ b).setCell ⟨g, 18, none⟩ c) ∧ Off X w (((w1.setCell ⟨g, i, none⟩ a).setCell ⟨g, 17, none⟩ b).setCell ⟨g, 18, none⟩ c) := by
  have h1 := heap_setCell_same w1 g i _ _ a hg
  have h2 := heap_setCell_same _ g 17 _ _ b h1
  have h3 := heap_setCell_same _ g 18 _ _ c h2
  refine ⟨by simpa using h3, (((Off.refl (· = g) w1).one i a).one 17 b).one 18 c, ?_⟩
  exact ((O.setCell (p := ⟨g, i, none⟩) (.inl hX) a).setCell (p := ⟨g, 17, none⟩) (.inl hX) b).setCell (p := ⟨g, 18, none⟩) (.inl hX) c
/-- behind the pop -/
theorem QuP.popped {g room f : Nat} {m : List UInt8} {ls : List (List UInt8)} {w w1 : World} {X : Nat → Prop} {cs : Array Value} (hX : X g) (hlt : ∀ k, X k → k < w.heap.size) (hok : QOk room (m :: ls)) (hg : w.heap[g]? = some (.cells cs 98 (0, 0))) (hS : QuS cs room f (m :: ls).length) (hT : QuT w X g cs f (m :: ls)) (T1 : Below w.heap.size w w1) :
    QuP g room ls (((w1.setCell ⟨g, 1 + f, none⟩ (.slice none 0 0)).setCell ⟨g, 17, none⟩ (.int .i64 ((rgAt f 1 : Nat) : Int))).setCell ⟨g, 18, none⟩ (.int .i64 (ls.length : Int))) X ∧
    Turns X X w (((w1.setCell ⟨g, 1 + f, none⟩ (.slice none 0 0)).setCell ⟨g, 17, none⟩ (.int .i64 ((rgAt f 1 : Nat) : Int))).setCell ⟨g, 18, none⟩ (.int .i64 (ls.length : Int))) := by
  have hgw := hlt g hX
  obtain ⟨k1, k2, k3⟩ := QuP.stored hX ((T1.block g hgw).trans hg) (Off.of_below T1 : Off X w w1) (1 + f) (.slice none 0 0) (.int .i64 ((rgAt f 1 : Nat) : Int)) (.int .i64 (ls.length : Int))
  obtain ⟨s0, s1, s2, s3, s4⟩ := hS
  refine ⟨⟨hX, fun k hk => Nat.lt_of_lt_of_le (hlt k hk) k3.size, hok.pop, _, rgAt f 1, k1, ⟨by simpa using s0, ?_, ?_, ?_, rgAt_lt _ _⟩, fun i hi => ?_⟩, ⟨k3, fun _ hk => .inl hk⟩⟩
  · rw [arr_set_ne _ _ _ _ (by decide), arr_set_ne _ _ _ _ (by decide), arr_set_ne _ _ _ _ (by omega), s1]
  · rw [arr_set_ne _ _ _ _ (by decide), arr_set_eq _ _ _ (by simp; omega)]
  · rw [arr_set_eq _ _ _ (by simp; omega)]
  · obtain ⟨A, d, e1, e2, e3⟩ := hT (i + 1) (by simp; omega)
    have hr := rgAt_lt f (i + 1)
    have hne : 1 + f ≠ 1 + rgAt f (i + 1) := by
      have := rgAt_ne f 0 (i + 1) (by omega) (by have := hok.2.2.1; have := hok.2.1; simp at *; omega)
      have e : rgAt f 0 = f := by unfold rgAt; omega
      omega
    refine ⟨A, d, ?_, e2.off (X := (· = g)) (e3.imp fun k hk => .inr hk) ((Off.of_below T1).trans k2), e3⟩
    · rw [rgAt_next, arr_set_ne _ _ _ _ (by omega), arr_set_ne _ _ _ _ (by omega), arr_set_ne _ _ _ _ hne]
      exact e1
set_option maxHeartbeats 4000000 in
theorem qupop_yes (g room : Nat) (m : List UInt8) (ls : List (List UInt8)) (w : World) (X : Nat → Prop) (hQ : QuP g room (m :: ls) w X) :
    Calls Try.prog 34 #[.pointer (some ⟨g, 0, none⟩)] w fun e w' => ∃ A n c, e = .returned (.tuple #[.slice A n c, .bool true]) ∧ Fre w' (· < w.heap.size) A n c m ∧ QuP g room ls w' X ∧ Turns X X w w' := by
  have HF := Lib.hid (qufront_any g room (m :: ls) w X hQ)
  obtain ⟨hX, hlt, hok, cs, f, hg, hS, hT⟩ := hQ
  have hgw := hlt g hX
  have hlen : (m :: ls).length = ls.length + 1 := rfl
  have hl16 : ls.length + 1 ≤ 16 := by have := hok.2.2.1; have := hok.2.1; simp at *; omega
  have HE : Hid (∀ w1, Below w.heap.size w w1 → QuP g room ls (((w1.setCell ⟨g, 1 + f, none⟩ (.slice none 0 0)).setCell ⟨g, 17, none⟩ (.int .i64 ((rgAt f 1 : Nat) : Int))).setCell ⟨g, 18, none⟩ (.int .i64 (ls.length : Int))) X ∧
    Turns X X w (((w1.setCell ⟨g, 1 + f, none⟩ (.slice none 0 0)).setCell ⟨g, 17, none⟩ (.int .i64 ((rgAt f 1 : Nat) : Int))).setCell ⟨g, 18, none⟩ (.int .i64 (ls.length : Int)))) := fun w1 T => QuP.popped hX hlt hok hg hS hT T
  obtain ⟨s0, s1, s2, s3, hf⟩ := hS
  rw [hlen] at s3
  have HC : Hid (∀ W, Below w.heap.size w W → W.cell? ⟨g, 17, none⟩ = some (.int .i64 (f : Int)) ∧ W.cell? ⟨g, 18, none⟩ = some (.int .i64 ((ls.length : Int) + 1)) ∧ (∃ u, W.cell? ⟨g, 1 + f, none⟩ = some u) ∧ ∀ r, W.frozen? ⟨g, r, none⟩ = false) := fun W T => by
    have h1 := (T.block g hgw).trans hg
    exact ⟨(cell_of_row _ _ _ _ _ _ h1).trans s2, (cell_of_row _ _ _ _ _ _ h1).trans s3, ⟨cs[1 + f], (cell_of_row _ _ _ _ _ _ h1).trans (Array.getElem?_eq_getElem (by omega))⟩, fun r => frozen_of_row _ _ _ _ _ h1⟩
  have HP : Hid (∀ W v, Below w.heap.size w W → Calls Try.prog 46 #[.pointer (some ⟨g, 0, none⟩), .int .i64 1] (W.setCell ⟨g, 1 + f, none⟩ v) fun e w' => e = .returned (.int .i64 ((rgAt f 1 : Nat) : Int)) ∧ W.setCell ⟨g, 1 + f, none⟩ v = w') := fun W v T => quplace_any g f 1 _ hf (by decide) ((World.cell?_setCell_other _ _ _ _ (fun e => by injection e with _ e; omega)).trans (HC.out W T).1)
  have b0 : (0 : Int) ≤ (f : Int) := by omega
  have b1 : (f : Int) < 16 := by omega
  have b2 : (f : Int) < ((16 : Nat) : Int) := by omega
  have n17 : ¬ (1 + f = 17) := by omega
  have n17' : ¬ (17 = 1 + f) := by omega
  have n18 : ¬ (1 + f = 18) := by omega
  have n18' : ¬ (18 = 1 + f) := by omega
  clear hok hT hg s0 s1 s2 s3 hlt
  go_enter Try.func34, Try.ntmps34
  go_wp2_with (fail)
  refine HF.out.mono ?_
  rintro e w1 ⟨A, n, c, rfl, hF, T1⟩
  obtain ⟨c17, c18, ⟨u, cu⟩, fr⟩ := HC.out _ T1
  have HF1 := Lib.hid hF
  clear hF
  go_wp2_with (fail)
  go_region
  rw [show (w1.setCell ⟨g, 1 + f, none⟩ (.slice none 0 0)).drew = w1.drew.setCell ⟨g, 1 + f, none⟩ (.slice none 0 0) from rfl]
  have T2 := T1.drew
  have HF2 : Hid (Fre w1.drew (· < w.heap.size) A n c m) := HF1.out
  clear c17 c18 cu fr HF1
  obtain ⟨c17, c18, _, fr⟩ := HC.out _ T2
  have HPP := Lib.hid (HP.out _ (.slice none 0 0) T2)
  have HEE := Lib.hid (HE.out _ T2)
  clear HP HE T1
  generalize w1.drew = W at *
  have e17 : (W.setCell ⟨g, 1 + f, none⟩ (.slice none 0 0)).cell? ⟨g, 17, none⟩ = some (.int .i64 (f : Int)) := (World.cell?_setCell_other _ _ _ _ (fun e => by injection e with _ e; omega)).trans c17
  have e18 : (W.setCell ⟨g, 1 + f, none⟩ (.slice none 0 0)).cell? ⟨g, 18, none⟩ = some (.int .i64 ((ls.length : Int) + 1)) := (World.cell?_setCell_other _ _ _ _ (fun e => by injection e with _ e; omega)).trans c18
  have q18 : ((W.setCell ⟨g, 1 + f, none⟩ (.slice none 0 0)).setCell ⟨g, 17, none⟩ (.int .i64 ((rgAt f 1 : Nat) : Int))).cell? ⟨g, 18, none⟩ = some (.int .i64 ((ls.length : Int) + 1)) := (World.cell?_setCell_other _ _ _ _ (fun e => by injection e with _ e; omega)).trans e18
  go_wp2_with (fail)
  refine HPP.out.mono ?_
  rintro e w2 ⟨rfl, rfl⟩
  go_wp2
  go_ret2
  exact ⟨_, _, _, rfl, HF2.out.off ((((Off.refl (· = g) W).one _ _).one _ _).one _ _) (fun k hk => by subst hk; exact hgw), HEE.out⟩
set_option maxHeartbeats 2000000 in
theorem qupop_no (g room : Nat) (w : World) (X : Nat → Prop) (hQ : QuP g room [] w X) :
    Calls Try.prog 34 #[.pointer (some ⟨g, 0, none⟩)] w fun e w' => ∃ A n c, e = .returned (.tuple #[.slice A n c, .bool false]) ∧ Fre w' (· < w.heap.size) A n c [] ∧ QuP g room [] w' X ∧ Turns X X w w' := by
  have HF := Lib.hid (qufront_any g room [] w X hQ)
  have HQ := Lib.hid hQ
  clear hQ
  go_enter Try.func34, Try.ntmps34
  go_wp2_with (fail)
  refine HF.out.mono ?_
  rintro e w1 ⟨A, n, c, rfl, hF, T1⟩
  have HE := Lib.hid (And.intro hF (And.intro ((QuP.holds g room []).below HQ.out T1) (Turns.of_below T1 : Turns X X w w1)))
  clear hF HQ HF
  go_wp2
  go_ret2
  exact ⟨_, _, _, rfl, HE.out⟩
theorem qupop_any (g room : Nat) (ls : List (List UInt8)) (w : World) (X : Nat → Prop) (hQ : QuP g room ls w X) :
    Calls Try.prog 34 #[.pointer (some ⟨g, 0, none⟩)] w fun e w' => ∃ A n c X', e = .returned (.tuple #[.slice A n c, .bool (!ls.isEmpty)]) ∧ Fre w' X' A n c (ls.headD []) ∧ (0 < n → ∀ p, A = some p → X p.block ∨ w.heap.size ≤ p.block) ∧ QuP g room ls.tail w' X' ∧ Turns X X' w w' := by
  have hlt := hQ.2.1
  have key : ∀ (A : Option Addr) (n c : Nat) (m : List UInt8) (w' : World), Fre w' (· < w.heap.size) A n c m → Fre w' X A n c m ∧ (0 < n → ∀ p, A = some p → X p.block ∨ w.heap.size ≤ p.block) := fun A n c m w' h => ⟨h.imp hlt, fun hn p e => .inr (Nat.le_of_not_lt (h.2.1 hn p e))⟩
  match ls, hQ with
  | [], hQ => exact (qupop_no g room w X hQ).mono fun _ _ ⟨A, n, c, h1, h2, h3⟩ => ⟨A, n, c, X, h1, (key _ _ _ _ _ h2).1, (key _ _ _ _ _ h2).2, h3⟩
  | m :: ls, hQ => exact (qupop_yes g room m ls w X hQ).mono fun _ _ ⟨A, n, c, h1, h2, h3⟩ => ⟨A, n, c, X, h1, (key _ _ _ _ _ h2).1, (key _ _ _ _ _ h2).2, h3⟩
/-- behind the push -/
theorem QuP.pushed {g room f : Nat} {m : List UInt8} {ls : List (List UInt8)} {w w1 : World} {X : Nat → Prop} {cs : Array Value} (hX : X g) (hlt : ∀ k, X k → k < w.heap.size) (hok : QOk room ls) (hg : w.heap[g]? = some (.cells cs 98 (0, 0))) (hS : QuS cs room f ls.length) (hT : QuT w X g cs f ls) (hn : ls.length < room) (hm : m.length ≤ 64) (T1 : Below w.heap.size w w1)
    {A : Option Addr} {c : Nat} (hF : Fre w1 (· < w.heap.size) A m.length c m) :
    ∃ X', QuP g room (ls ++ [m]) ((w1.setCell ⟨g, 1 + rgAt f ls.length, none⟩ (.slice A m.length c)).setCell ⟨g, 18, none⟩ (.int .i64 ((ls.length : Int) + 1))) X' ∧
    Turns X X' w ((w1.setCell ⟨g, 1 + rgAt f ls.length, none⟩ (.slice A m.length c)).setCell ⟨g, 18, none⟩ (.int .i64 ((ls.length : Int) + 1))) := by
  have hgw := hlt g hX
  have h1 := heap_setCell_same w1 g (1 + rgAt f ls.length) _ _ (.slice A m.length c) ((T1.block g hgw).trans hg)
  have h2 := heap_setCell_same _ g 18 _ _ (.int .i64 ((ls.length : Int) + 1)) h1
  have O1 : Off (· = g) w1 ((w1.setCell ⟨g, 1 + rgAt f ls.length, none⟩ (.slice A m.length c)).setCell ⟨g, 18, none⟩ (.int .i64 ((ls.length : Int) + 1))) := ((Off.refl (· = g) w1).one _ _).one _ _
  have O2 := (Off.of_below T1).trans O1
  have O3 := O2.more (Y := X) (fun k hk => by subst hk; exact hX)
  generalize hW : (w1.setCell ⟨g, 1 + rgAt f ls.length, none⟩ (.slice A m.length c)).setCell ⟨g, 18, none⟩ (.int .i64 ((ls.length : Int) + 1)) = W at *
  obtain ⟨s0, s1, s2, s3, s4⟩ := hS
  have hr := rgAt_lt f ls.length
  have hroom := hok.2.1
  refine ⟨fun k => X k ∨ (w.heap.size ≤ k ∧ k < W.heap.size), ⟨.inl hX, fun k hk => hk.elim (fun h => Nat.lt_of_lt_of_le (hlt k h) O3.size) And.right, ⟨hok.1, hok.2.1, by simp; omega, fun u hu => (List.mem_append.1 hu).elim (hok.2.2.2 u) (fun h => by rw [List.mem_singleton.1 h]; exact hm)⟩, _, f, by simpa using h2, ⟨by simpa using s0, ?_, ?_, ?_, s4⟩, fun i hi => ?_⟩, ⟨O3, fun k hk => hk.imp id And.left⟩⟩
  · rw [arr_set_ne _ _ _ _ (by decide), arr_set_ne _ _ _ _ (by omega), s1]
  · rw [arr_set_ne _ _ _ _ (by decide), arr_set_ne _ _ _ _ (by omega), s2]
  · rw [arr_set_eq _ _ _ (by simp; omega)]; simp
  · by_cases h : i < ls.length
    · have e : (ls ++ [m])[i] = ls[i] := List.getElem_append_left h
      rw [e]
      obtain ⟨A', d, e1, e2, e3⟩ := hT i h
      have hne := rgAt_ne f i ls.length h (by omega)
      have hri := rgAt_lt f i
      refine ⟨A', d, ?_, e2.off (X := (· = g)) (e3.imp fun k hk => .inr hk) O2, fun hn p ep hk => e3 hn p ep ?_⟩
      · rw [arr_set_ne _ _ _ _ (by omega), arr_set_ne _ _ _ _ (by omega)]
        exact e1
      · exact hk.imp (fun h hx => h (.inl hx)) id
    · obtain rfl : i = ls.length := by simp at hi; omega
      have e : (ls ++ [m])[ls.length] = m := by simp
      rw [e]
      refine ⟨A, c, ?_, (hF.off O1 (fun k hk => by subst hk; exact hgw)).1, fun hn p ep hk => ?_⟩
      · rw [arr_set_ne _ _ _ _ (by omega), arr_set_eq _ _ _ (by omega)]
      · have hB := (hF.off O1 (fun k hk => by subst hk; exact hgw)).1
        obtain ⟨b, o, e', hb, _⟩ := hB.at_ hn
        have hav := hF.2.1 hn p ep
        rw [ep] at e'
        injection e' with e'
        subst e'
        rcases hk with hk | hk
        · exact hk (.inr ⟨Nat.le_of_not_lt hav, hb⟩)
        · have hk' : b = g := hk
          exact hav (by show b < _; omega)
end Go.Proofs.Ytoajbocpebfjoaa
