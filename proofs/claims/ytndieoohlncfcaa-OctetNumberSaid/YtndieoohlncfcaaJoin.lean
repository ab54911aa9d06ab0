/- What bytes.Join, octet.Join and kedgeref01.Join answer. -/
import Derived.Test.YtndieoohlncfcaaCut
import Derived.Test.YtndieoohlncfcaaShelf
namespace Go.Proofs.Ytndieoohlncfcaa
open Go.RowKit

/-- The slice '.slice P n c' reads as the list ls of lists of bytes. -/
def Rws (w : World) (P : Option Addr) (n c : Nat) (ls : List (List UInt8)) : Prop :=
  ls.length = n ∧ n ≤ c ∧ c ≤ maxLen ∧ (0 < n → ∃ b o, ∃ vs : List Value, P = some ⟨b, o, none⟩ ∧ b < w.heap.size ∧ vs.length = ls.length ∧ (∀ j (h : j < vs.length), w.cell? ⟨b, o + j, none⟩ = some vs[j]) ∧
    ∀ j (h : j < vs.length) (h' : j < ls.length), ∃ A d, vs[j] = .slice A ls[j].length d ∧ Bys w A ls[j].length d ls[j])
theorem Rws.below {w w' : World} {P : Option Addr} {n c : Nat} {ls : List (List UInt8)} (h : Rws w P n c ls) (hb : Below w.heap.size w w') : Rws w' P n c ls :=
  ⟨h.1, h.2.1, h.2.2.1, fun hn => by
    obtain ⟨b, o, vs, e, hlt, hl, hc, hv⟩ := h.2.2.2 hn
    refine ⟨b, o, vs, e, by have := hb.size; omega, hl, fun j hj => (hb.cell (by exact hlt)).trans (hc j hj), fun j hj hj' => ?_⟩
    obtain ⟨A, d, h1, h2⟩ := hv j hj hj'
    exact ⟨A, d, h1, h2.below hb⟩⟩
theorem Rws.at_ {w : World} {P : Option Addr} {n c : Nat} {ls : List (List UInt8)} (h : Rws w P n c ls) (k : Nat) (hk : k < n) :
    ∃ b o A d, P = some ⟨b, o, none⟩ ∧ b < w.heap.size ∧ ∃ hk' : k < ls.length, w.cell? ⟨b, o + k, none⟩ = some (.slice A ls[k].length d) ∧ Bys w A ls[k].length d ls[k] := by
  obtain ⟨b, o, vs, e, hlt, hl, hc, hv⟩ := h.2.2.2 (by omega)
  have h1 := h.1
  obtain ⟨A, d, h2, h3⟩ := hv k (by omega) (by omega)
  exact ⟨b, o, A, d, e, hlt, by omega, by rw [hc k (by omega), h2], h3⟩

theorem Bys.holds {w : World} {A : Option Addr} {c : Nat} {l : List UInt8} (h : Bys w A l.length c l) : Lib.HoldsBytes w (.slice A l.length c) l := by
  refine ⟨A, c, rfl, fun e => ?_, fun a e i x hx => ?_⟩
  · rcases Nat.eq_zero_or_pos l.length with h0 | h0
    · exact List.eq_nil_of_length_eq_zero h0
    · obtain ⟨b, o, e', _⟩ := h.at_ h0
      rw [e] at e'; cases e'
  · have hi : i < l.length := (List.getElem?_eq_some_iff.1 hx).1
    obtain ⟨b, o, e', _, hc⟩ := h.at_ (by omega)
    rw [e] at e'
    injection e' with e'
    subst e'
    have ea : (⟨b, o, none⟩ : Addr).add i = ⟨b, o + i, none⟩ := by unfold Addr.add; split <;> simp_all
    rw [ea, hc i hi]
    rw [List.getElem?_eq_getElem hi] at hx
    injection hx with hx
    rw [hx]
theorem Bys.of_fresh {B : Nat} {w : World} {v : Value} {l : List UInt8} (h : Lib.FreshBytes B w v l) : ∃ A c, v = .slice A l.length c ∧ Bys w A l.length c l := by
  obtain ⟨g, cap, zs, hv, hB, hlc, hcm, hz, hr, hb, hc, hf⟩ := h
  refine ⟨_, cap, hv, rfl, hlc, hcm, fun hn => ⟨g, 0, rfl, ?_, fun j hj => ?_⟩⟩
  · exact block_lt_of_cell (hc 0 (by omega))
  · have hj2 : j < zs.length := by omega
    have h1 : l[j] = UInt8.ofNat (zs[j]).toNat := by
      have e : (Lib.bytesOf (zs.take l.length))[j]? = l[j]? := by rw [hb]
      rw [List.getElem?_eq_getElem hj] at e
      simp only [Lib.bytesOf, List.getElem?_map, List.getElem?_take, if_pos hj, List.getElem?_eq_getElem hj2, Option.map_some] at e
      injection e with e
      exact e.symm
    have h2 := hr zs[j] (List.getElem_mem hj2)
    rw [Nat.zero_add, hc j (by omega), List.getD_eq_getElem?_getD, List.getElem?_eq_getElem hj2, h1, UInt8.toNat_ofNat']
    simp
    omega

theorem inter_flat : ∀ ls : List (List UInt8), (List.intersperse [] ls).flatten = ls.flatten
  | [] => rfl
  | [x] => rfl
  | x :: y :: r => by
    have := inter_flat (y :: r)
    rw [List.intersperse_cons_cons, List.flatten_cons, List.flatten_cons, this, List.flatten_cons]
    simp
theorem bjoin_any (P : Option Addr) (n c : Nat) (ls : List (List UInt8)) (w : World) (h : Rws w P n c ls) (hn : n ≤ 140737488355328) (hs : Lib.lens ls ≤ 140737488355328) :
    Calls Try.prog 26 #[.slice P n c, .slice none 0 0] w (GivesB w ls.flatten) := by
  have hl := h.1
  by_cases h0 : n = 0
  · subst h0
    have : ls = [] := List.eq_nil_of_length_eq_zero hl
    subst this
    refine (Try.bytes_Join_none P c (.slice none 0 0) w).mono fun e w' ⟨he, hw⟩ => ?_
    subst hw
    exact ⟨_, _, _, he, Bys.empty _ _ _ (Nat.zero_le _), (Below.refl _ _).alloc (Nat.le_refl _) _⟩
  · by_cases h1 : n = 1
    · subst h1
      obtain ⟨x, rfl⟩ : ∃ x, ls = [x] := List.length_eq_one_iff.1 hl
      obtain ⟨b, o, A, d, rfl, hlt, hk, hc, hB⟩ := h.at_ 0 (by omega)
      simp only [List.getElem_cons_zero, Nat.add_zero] at hc hB
      have hlen : x.length ≤ 140737488355328 := by simpa [Lib.lens] using hs
      have hfl : [x].flatten = x := by simp
      rw [hfl]
      rcases Nat.eq_zero_or_pos x.length with hx | hx
      · rw [hx] at hc hB
        have : x = [] := List.eq_nil_of_length_eq_zero hx
        subst this
        refine (Try.bytes_Join_one_empty b o c A d (.slice none 0 0) w hc).mono fun e w' ⟨he, hw⟩ => ?_
        subst hw
        exact ⟨_, _, _, he, Bys.nil _, Below.refl _ _⟩
      · have hh := hB.holds
        obtain ⟨b', o', rfl, _, _⟩ := hB.at_ hx
        obtain ⟨A1, cc, e, _, hcells⟩ := hh
        injection e with e1 _ _
        refine (Try.bytes_Join_one b o c _ d x (.slice none 0 0) w hc (hcells _ e1.symm) hx hlen).mono fun e w' ⟨v', he, hf, hb⟩ => ?_
        obtain ⟨A2, c2, rfl, hB2⟩ := Bys.of_fresh hf
        exact ⟨_, _, _, he, hB2, hb⟩
    · obtain ⟨b, o, vs, rfl, hlt, hvl, hvc, hvB⟩ := h.2.2.2 (by omega)
      have hP : Lib.PartsAt w ⟨b, o, none⟩ vs ls := by
        refine ⟨hvl, fun i v hi => ?_, fun i v l hi hl => ?_⟩
        · have hi' : i < vs.length := (List.getElem?_eq_some_iff.1 hi).1
          have ea : (⟨b, o, none⟩ : Addr).add i = ⟨b, o + i, none⟩ := by unfold Addr.add; split <;> simp_all
          rw [ea, hvc i hi']
          rw [List.getElem?_eq_getElem hi'] at hi
          exact hi
        · have hi' : i < vs.length := (List.getElem?_eq_some_iff.1 hi).1
          have hl' : i < ls.length := (List.getElem?_eq_some_iff.1 hl).1
          rw [List.getElem?_eq_getElem hi'] at hi
          rw [List.getElem?_eq_getElem hl'] at hl
          injection hi with hi
          injection hl with hl
          subst hi; subst hl
          obtain ⟨A, d, e, hB⟩ := hvB i hi' hl'
          rw [e]
          exact hB.holds
      have hS : Lib.HoldsBytes w (.slice none 0 0) [] := ⟨none, 0, rfl, fun _ => rfl, fun a e => by cases e⟩
      refine (Try.bytes_Join_many b o n c vs ls (.slice none 0 0) [] w hl (by omega) hP h.2.1 hS hn (by simpa using hs)).mono fun e w' ⟨v', he, hf, hb⟩ => ?_
      obtain ⟨A2, c2, rfl, hB2⟩ := Bys.of_fresh hf
      have hj : Lib.join ls [] = ls.flatten := by simp only [Lib.join, List.intercalate]; exact inter_flat ls
      rw [hj] at hB2 he
      exact ⟨_, _, _, he, hB2, hb⟩

set_option maxHeartbeats 1000000 in
theorem ojoin_any (P : Option Addr) (n c : Nat) (ls : List (List UInt8)) (w : World) (h : Rws w P n c ls) (hn : n ≤ 140737488355328) (hs : Lib.lens ls ≤ 140737488355328) :
    Calls Try.prog 16 #[.slice P n c] w (GivesB w ls.flatten) := by
  have H := Lib.hid (bjoin_any P n c ls w h hn hs)
  clear h hs
  go_enter Try.func16, Try.ntmps16
  go_wp2_with (fail)
  refine H.out.mono ?_
  rintro e w' ⟨A, n', c', rfl, hB, hb⟩
  go_wp2
  go_ret
  exact ⟨_, _, _, rfl, hB, hb⟩

theorem flat_take (ls : List (List UInt8)) (k : Nat) (h : k < ls.length) : (ls.take (k + 1)).flatten = (ls.take k).flatten ++ ls[k] := by
  rw [List.take_succ_eq_append_getElem h, List.flatten_append, List.flatten_cons, List.flatten_nil, List.append_nil]
theorem flat_len (ls : List (List UInt8)) : ls.flatten.length = Lib.lens ls := by simp [Lib.lens, List.length_flatten]
theorem lens_take_le (ls : List (List UInt8)) (k : Nat) (h : k < ls.length) : (ls.take k).flatten.length + ls[k].length ≤ Lib.lens ls := by
  have e := flat_take ls k h
  have : ((ls.take (k + 1)).flatten).length ≤ ls.flatten.length := by
    conv => rhs; rw [← List.take_append_drop (k + 1) ls]
    rw [List.flatten_append, List.length_append]
    omega
  rw [e, List.length_append, flat_len ls] at this
  exact this

set_option maxHeartbeats 1000000 in
theorem rjoin_any (P : Option Addr) (n c : Nat) (ls : List (List UInt8)) (w : World) (h : Rws w P n c ls) (hs : Lib.lens ls ≤ 140737488355328) :
    Calls Try.prog 17 #[.slice P n c] w (GivesB w ls.flatten) := by
  have hl := h.1
  have hnc := h.2.1
  have hcm := h.2.2.1
  unfold maxLen at hcm
  have hat := h.at_
  have HA := Lib.hid hat; clear hat h
  subst hl
  go_enter Try.func17, Try.ntmps17
  go_wp2
  go_loopw [3, 4] (fun v i wr => ∃ k : Nat, k ≤ ls.length ∧ i = .int .i64 k ∧ ∃ m, wr.ownsRow w.heap.size 5 1 v m (bvs (ls.take k).flatten) ∧ Below w.heap.size w wr) (fun _ i _ => ls.length - (intOf i).toNat)
  case atStart => exact ⟨0, Nat.zero_le _, rfl, 0, World.ownsRow_nil _ _ _ _, Below.refl _ _⟩
  case round =>
    obtain ⟨k, hk, rfl, m, hown, hbel⟩ := hrel
    by_cases hlt : k < ls.length
    · obtain ⟨b, o, A, d, rfl, hb, hk', hc, hB⟩ := HA.out k hlt
      have c1 := (hbel.cell (p := ⟨b, o + k, none⟩) hb).trans hc
      have hB1 := hB.below hbel
      have hm : m = (ls.take k).flatten.length := by have := hown.1; rw [bvs_length] at this; omega
      have HF := Lib.hid (flat_take ls k hlt)
      have hle : m + ls[k].length ≤ 140737488355328 := by rw [hm]; exact Nat.le_trans (lens_take_le ls k hlt) hs
      clear hc hB hm
      have HB1 := Lib.hid hB1; clear hB1
      generalize ls[k] = x at *
      go_wp2_with ((with_reducible refine app_bys _ rfl (.tmp 11) (.tmp 15) rfl w.heap.size u3 m (bvs (ls.take k).flatten) rfl hown A x.length d x rfl HB1.out hle hbel.size ?_); intro v1 w1 hown1 hgrow1 hwhere1)
      go_roundw
      case rel =>
        rw [← bvs_append, ← HF.out] at hown1
        exact ⟨k + 1, by omega, by go_num, _, hown1, hbel.grown hgrow1 hbel.size (fun g hg => (hown.lt g hg).1)⟩
      case measure => simp [intOf]; omega
    · go_wp2
      go_ret
      obtain rfl : k = ls.length := by omega
      obtain ⟨A, c', rfl⟩ := own_shape hown
      rw [List.take_length] at hown
      exact ⟨_, _, _, rfl, Bys.of_own hown, hbel⟩
end Go.Proofs.Ytndieoohlncfcaa
