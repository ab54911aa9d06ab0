/- What bytes.Join, octet.Join and kedgeref01.Join answer. -/
import Derived.Test.YtodgnfjaidiibaaOwn
import Derived.Test.YtodgnfjaidiibaaShelf
namespace Go.Proofs.Ytodgnfjaidiibaa
open Go.RowKit
set_option maxRecDepth 20000

theorem Bys.holds {w : World} {A : Option Addr} {c : Nat} {l : List UInt8} (h : Bys w A l.length c l) : Lib.HoldsBytes w (.slice A l.length c) l := by
  refine ⟨A, c, rfl, fun e => ?_, fun a e i x hx => ?_⟩
  · rcases Nat.eq_zero_or_pos l.length with h0 | h0
    · exact List.eq_nil_of_length_eq_zero h0
    · obtain ⟨b, o, e', _⟩ := h.at_ h0
      rw [e] at e'; cases e'
  · have hi : i < l.length := (List.getElem?_eq_some_iff.1 hx).1
    obtain ⟨b, o, e', _, hc⟩ := h.at_ (by omega)
    rw [e] at e'
    injection e' with e'
    subst e'
    have ea : (⟨b, o, none⟩ : Addr).add i = ⟨b, o + i, none⟩ := by unfold Addr.add; split <;> simp_all
    rw [ea, hc i hi]
    rw [List.getElem?_eq_getElem hi] at hx
    injection hx with hx
    rw [hx]
theorem Bys.of_fresh {B : Nat} {w : World} {v : Value} {l : List UInt8} (h : Lib.FreshBytes B w v l) : ∃ A c, v = .slice A l.length c ∧ Bys w A l.length c l := by
  obtain ⟨g, cap, zs, hv, hB, hlc, hcm, hz, hr, hb, hc, hf⟩ := h
  refine ⟨_, cap, hv, rfl, hlc, hcm, fun hn => ⟨g, 0, rfl, ?_, fun j hj => ?_⟩⟩
  · exact block_lt_of_cell (hc 0 (by omega))
  · have hj2 : j < zs.length := by omega
    have h1 : l[j] = UInt8.ofNat (zs[j]).toNat := by
      have e : (Lib.bytesOf (zs.take l.length))[j]? = l[j]? := by rw [hb]
      rw [List.getElem?_eq_getElem hj] at e
      simp only [Lib.bytesOf, List.getElem?_map, List.getElem?_take, if_pos hj, List.getElem?_eq_getElem hj2, Option.map_some] at e
      injection e with e
      exact e.symm
    have h2 := hr zs[j] (List.getElem_mem hj2)
    rw [Nat.zero_add, hc j (by omega), List.getD_eq_getElem?_getD, List.getElem?_eq_getElem hj2, h1, UInt8.toNat_ofNat']
    simp
    omega

theorem inter_flat : ∀ ls : List (List UInt8), (List.intersperse [] ls).flatten = ls.flatten
  | [] => rfl
  | [x] => rfl
  | x :: y :: r => by
    have := inter_flat (y :: r)
    rw [List.intersperse_cons_cons, List.flatten_cons, List.flatten_cons, this, List.flatten_cons]
    simp
theorem bjoin_any (P : Option Addr) (n c : Nat) (ls : List (List UInt8)) (w : World) (h : Rws w P n c ls) (hn : n ≤ 140737488355328) (hs : Lib.lens ls ≤ 140737488355328) :
    Calls Try.prog 25 #[.slice P n c, .slice none 0 0] w (GivesB w ls.flatten) := by
  have hl := h.1
  by_cases h0 : n = 0
  · subst h0
    have : ls = [] := List.eq_nil_of_length_eq_zero hl
    subst this
    refine (Try.bytes_Join_none P c (.slice none 0 0) w).mono fun e w' ⟨he, hw⟩ => ?_
    subst hw
    exact ⟨_, _, _, he, Bys.empty _ _ _ (Nat.zero_le _), (Below.refl _ _).alloc (Nat.le_refl _) _⟩
  · by_cases h1 : n = 1
    · subst h1
      obtain ⟨x, rfl⟩ : ∃ x, ls = [x] := List.length_eq_one_iff.1 hl
      obtain ⟨b, o, A, d, rfl, hlt, hk, hc, hB⟩ := h.at_ 0 (by omega)
      simp only [List.getElem_cons_zero, Nat.add_zero] at hc hB
      have hlen : x.length ≤ 140737488355328 := by simpa [Lib.lens] using hs
      have hfl : [x].flatten = x := by simp
      rw [hfl]
      rcases Nat.eq_zero_or_pos x.length with hx | hx
      · rw [hx] at hc hB
        have : x = [] := List.eq_nil_of_length_eq_zero hx
        subst this
        refine (Try.bytes_Join_one_empty b o c A d (.slice none 0 0) w hc).mono fun e w' ⟨he, hw⟩ => ?_
        subst hw
        exact ⟨_, _, _, he, Bys.nil _, Below.refl _ _⟩
      · have hh := hB.holds
        obtain ⟨b', o', rfl, _, _⟩ := hB.at_ hx
        obtain ⟨A1, cc, e, _, hcells⟩ := hh
        injection e with e1 _ _
        refine (Try.bytes_Join_one b o c _ d x (.slice none 0 0) w hc (hcells _ e1.symm) hx hlen).mono fun e w' ⟨v', he, hf, hb⟩ => ?_
        obtain ⟨A2, c2, rfl, hB2⟩ := Bys.of_fresh hf
        exact ⟨_, _, _, he, hB2, hb⟩
    · obtain ⟨b, o, vs, rfl, hlt, hvl, hvc, hvB⟩ := h.2.2.2 (by omega)
      have hP : Lib.PartsAt w ⟨b, o, none⟩ vs ls := by
        refine ⟨hvl, fun i v hi => ?_, fun i v l hi hl => ?_⟩
        · have hi' : i < vs.length := (List.getElem?_eq_some_iff.1 hi).1
          have ea : (⟨b, o, none⟩ : Addr).add i = ⟨b, o + i, none⟩ := by unfold Addr.add; split <;> simp_all
          rw [ea, hvc i hi']
          rw [List.getElem?_eq_getElem hi'] at hi
          exact hi
        · have hi' : i < vs.length := (List.getElem?_eq_some_iff.1 hi).1
          have hl' : i < ls.length := (List.getElem?_eq_some_iff.1 hl).1
          rw [List.getElem?_eq_getElem hi'] at hi
          rw [List.getElem?_eq_getElem hl'] at hl
          injection hi with hi
          injection hl with hl
          subst hi; subst hl
          obtain ⟨A, d, e, hB⟩ := hvB i hi' hl'
          rw [e]
          exact hB.holds
      have hS : Lib.HoldsBytes w (.slice none 0 0) [] := ⟨none, 0, rfl, fun _ => rfl, fun a e => by cases e⟩
      refine (Try.bytes_Join_many b o n c vs ls (.slice none 0 0) [] w hl (by omega) hP h.2.1 hS hn (by simpa using hs)).mono fun e w' ⟨v', he, hf, hb⟩ => ?_
      obtain ⟨A2, c2, rfl, hB2⟩ := Bys.of_fresh hf
      have hj : Lib.join ls [] = ls.flatten := by simp only [Lib.join, List.intercalate]; exact inter_flat ls
      rw [hj] at hB2 he
      exact ⟨_, _, _, he, hB2, hb⟩

set_option maxHeartbeats 1000000 in
theorem ojoin_any (P : Option Addr) (n c : Nat) (ls : List (List UInt8)) (w : World) (h : Rws w P n c ls) (hn : n ≤ 140737488355328) (hs : Lib.lens ls ≤ 140737488355328) :
    Calls Try.prog 18 #[.slice P n c] w (GivesB w ls.flatten) := by
  have H := Lib.hid (bjoin_any P n c ls w h hn hs)
  clear h hs
  go_enter Try.func18, Try.ntmps18
  go_wp2_with (fail)
  refine H.out.mono ?_
  rintro e w' ⟨A, n', c', rfl, hB, hb⟩
  go_wp2
  go_ret
  exact ⟨_, _, _, rfl, hB, hb⟩

/-- two parts or more, and some byte: what is told may be written -/
theorem bjoin_own (P : Option Addr) (n c : Nat) (ls : List (List UInt8)) (w : World) (h : Rws w P n c ls) (h2 : 2 ≤ n) (hn : n ≤ 140737488355328) (hs : Lib.lens ls ≤ 140737488355328) (hp : 0 < ls.flatten.length) :
    Calls Try.prog 25 #[.slice P n c, .slice none 0 0] w (GivesO w ls.flatten) := by
  have hl := h.1
  obtain ⟨b, o, vs, rfl, hlt, hvl, hvc, hvB⟩ := h.2.2.2 (by omega)
  have hP : Lib.PartsAt w ⟨b, o, none⟩ vs ls := by
    refine ⟨hvl, fun i v hi => ?_, fun i v l hi hl => ?_⟩
    · have hi' : i < vs.length := (List.getElem?_eq_some_iff.1 hi).1
      have ea : (⟨b, o, none⟩ : Addr).add i = ⟨b, o + i, none⟩ := by unfold Addr.add; split <;> simp_all
      rw [ea, hvc i hi']
      rw [List.getElem?_eq_getElem hi'] at hi
      exact hi
    · have hi' : i < vs.length := (List.getElem?_eq_some_iff.1 hi).1
      have hl' : i < ls.length := (List.getElem?_eq_some_iff.1 hl).1
      rw [List.getElem?_eq_getElem hi'] at hi
      rw [List.getElem?_eq_getElem hl'] at hl
      injection hi with hi
      injection hl with hl
      subst hi; subst hl
      obtain ⟨A, d, e, hB⟩ := hvB i hi' hl'
      rw [e]
      exact hB.holds
  have hS : Lib.HoldsBytes w (.slice none 0 0) [] := ⟨none, 0, rfl, fun _ => rfl, fun a e => by cases e⟩
  refine (Try.bytes_Join_many b o n c vs ls (.slice none 0 0) [] w hl (by omega) hP h.2.1 hS hn (by simpa using hs)).mono fun e w' ⟨v', he, hf, hb⟩ => ?_
  have hj : Lib.join ls [] = ls.flatten := by simp only [Lib.join, List.intercalate]; exact inter_flat ls
  rw [hj] at hf
  obtain ⟨g, c2, rfl, hO⟩ := Own.of_fresh hf hp
  exact ⟨_, _, he, hO, hb⟩

set_option maxHeartbeats 1000000 in
theorem ojoin_own (P : Option Addr) (n c : Nat) (ls : List (List UInt8)) (w : World) (h : Rws w P n c ls) (h2 : 2 ≤ n) (hn : n ≤ 140737488355328) (hs : Lib.lens ls ≤ 140737488355328) (hp : 0 < ls.flatten.length) :
    Calls Try.prog 18 #[.slice P n c] w (GivesO w ls.flatten) := by
  have H := bjoin_own P n c ls w h h2 hn hs hp
  obtain ⟨m, hm⟩ : ∃ m, ls.flatten.length = m := ⟨_, rfl⟩
  unfold GivesO at H
  rw [hm] at H
  have H := Lib.hid H
  have hm := Lib.hid hm
  clear h hs hp
  go_enter Try.func18, Try.ntmps18
  go_wp2_with (fail)
  refine H.out.mono ?_
  rintro e w' ⟨g, c', rfl, hB, hb⟩
  go_wp2
  go_ret
  refine ⟨g, c', ?_, ?_, hb⟩
  · rw [hm.out]; rfl
  · rw [hm.out]; exact hB
end Go.Proofs.Ytodgnfjaidiibaa
