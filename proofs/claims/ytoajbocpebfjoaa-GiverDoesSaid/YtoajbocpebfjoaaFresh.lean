/- Memory that is new, and memory that stays: 'Fr' (a slice that lies at no block below B), 'Off' (all that was there but the blocks X is as it was), lists of slices in new memory, and append onto the call's own list of slices. Nothing of the program's own functions is in here. -/
import Derived.Test.YtoajbocpebfjoaaWords
namespace Go.Proofs.Ytoajbocpebfjoaa
open Go.RowKit
set_option maxRecDepth 20000

/-- where there is something, it does not lie at a block of Y -/
def Av (Y : Nat → Prop) (n : Nat) (A : Option Addr) : Prop := 0 < n → ∀ p, A = some p → ¬ Y p.block
theorem Av.none (Y : Nat → Prop) (n : Nat) : Av Y n none := fun _ _ h => by cases h
theorem Av.zero (Y : Nat → Prop) (A : Option Addr) : Av Y 0 A := fun h => absurd h (by omega)
theorem Av.imp {Y Y' : Nat → Prop} {n : Nat} {A : Option Addr} (h : Av Y n A) (hY : ∀ k, Y' k → Y k) : Av Y' n A := fun hn p e hy => h hn p e (hY _ hy)
theorem Av.of {Y : Nat → Prop} {n b o : Nat} {f} (h : ¬ Y b) : Av Y n (some ⟨b, o, f⟩) := fun _ p e => by injection e with e; subst e; exact h
theorem Av.mono {B B' n : Nat} {A : Option Addr} (h : Av (· < B) n A) (hb : B' ≤ B) : Av (· < B') n A := h.imp (fun k hk => by omega)
theorem own_fr {w : World} {B : Nat} {e : TypeId} {size n n' c : Nat} {A : Option Addr} {xs : List Value} (h : w.ownsRow B e size (.slice A n c) n' xs) : Av (· < B) n A := by
  rcases h.2 with ⟨hv, hn⟩ | ⟨g, cap, cur, hv, hg, _⟩
  · injection hv with h1 h2 h3; subst h1; exact Av.none _ _
  · injection hv with h1 h2 h3; subst h1; exact Av.of (by omega)

/-- A call's end that makes a []byte in new memory. -/
def GivesBf (w : World) (l : List UInt8) (e : Ending) (w' : World) : Prop := ∃ A n c, e = .returned (.slice A n c) ∧ Bys w' A n c l ∧ Av (· < w.heap.size) n A ∧ Below w.heap.size w w'
theorem GivesBf.givesB {w : World} {l : List UInt8} {e : Ending} {w' : World} (h : GivesBf w l e w') : GivesB w l e w' := by
  obtain ⟨A, n, c, h1, h2, _, h3⟩ := h
  exact ⟨A, n, c, h1, h2, h3⟩
/-- .. and tells whether there is one -/
def GivesUf (w : World) (r : Option (List UInt8)) (e : Ending) (w' : World) : Prop :=
  ∃ A n c, e = .returned (.tuple #[.slice A n c, .bool r.isSome]) ∧ Bys w' A n c (r.getD []) ∧ Av (· < w.heap.size) n A ∧ Below w.heap.size w w'
theorem GivesUf.givesU {w : World} {r : Option (List UInt8)} {e : Ending} {w' : World} (h : GivesUf w r e w') : GivesU w r e w' := by
  obtain ⟨A, n, c, h1, h2, _, h3⟩ := h
  exact ⟨A, n, c, h1, h2, h3⟩
/-- .. and tells an error's number -/
def GivesNf (w : World) (r : Int) (l : List UInt8) (e : Ending) (w' : World) : Prop :=
  ∃ A n c, e = .returned (.tuple #[.slice A n c, .int .i64 r]) ∧ Bys w' A n c l ∧ Av (· < w.heap.size) n A ∧ Below w.heap.size w w'

/-- All that was there, but for the blocks X, is as it was. -/
structure Off (X : Nat → Prop) (w w' : World) : Prop where
  os : w'.os = w.os
  tape : w'.tape = w.tape
  output : w'.output = w.output
  size : w.heap.size ≤ w'.heap.size
  block : ∀ k, k < w.heap.size → ¬ X k → w'.heap[k]? = w.heap[k]?
section
variable {X : Nat → Prop} {a w w' : World}
theorem Off.refl (X : Nat → Prop) (w : World) : Off X w w := ⟨rfl, rfl, rfl, Nat.le_refl _, fun _ _ _ => rfl⟩
theorem Off.trans {b c : World} (h : Off X a b) (k : Off X b c) : Off X a c :=
  ⟨k.os.trans h.os, k.tape.trans h.tape, k.output.trans h.output, Nat.le_trans h.size k.size, fun i hi hx => (k.block i (Nat.lt_of_lt_of_le hi h.size) hx).trans (h.block i hi hx)⟩
theorem Off.of_below (h : Below w.heap.size w w') : Off X w w' := ⟨h.os, h.tape, h.output, h.size, fun k hk _ => h.block k hk⟩
theorem Off.next (h : Off X a w) (k : Below w.heap.size w w') : Off X a w' := h.trans (Off.of_below k)
theorem Off.drew (h : Off X a w) : Off X a w.drew := ⟨h.os, h.tape, h.output, h.size, h.block⟩
theorem Off.drewN (h : Off X a w) (n : Nat) : Off X a (w.drewN n) := ⟨h.os, h.tape, h.output, h.size, h.block⟩
theorem Off.alloc (h : Off X a w) (o : Obj) : Off X a (w.alloc o) := h.next ((Below.refl _ _).alloc (Nat.le_refl _) o)
theorem Off.setCell (h : Off X a w) {p : Addr} (hp : X p.block ∨ a.heap.size ≤ p.block) (u : Value) : Off X a (w.setCell p u) :=
  ⟨h.os, h.tape, h.output, by rw [show (w.setCell p u).heap.size = w.heap.size by simp [World.setCell]]; exact h.size, fun k hk hx => (Below.heap_setCell w p u k (by rintro rfl; rcases hp with hp | hp; exact hx hp; omega)).trans (h.block k hk hx)⟩
theorem Off.grown {row : Option Nat} (h : Off X a w) (hg : w.grownBy w' row) (hr : ∀ k, row = some k → X k ∨ a.heap.size ≤ k) : Off X a w' :=
  ⟨hg.os.trans h.os, hg.tape.trans h.tape, hg.output.trans h.output, Nat.le_trans h.size hg.size, fun k hk hx => (hg.block k (Nat.lt_of_lt_of_le hk h.size) (fun e => by rcases hr k e.symm with h1 | h1; exact hx h1; omega)).trans (h.block k hk hx)⟩
/-- below B nothing has turned, if no block of X lies there -/
theorem Off.below {B : Nat} (h : Off X w w') (hX : ∀ k, X k → B ≤ k) (hB : B ≤ w.heap.size) : Below B w w' :=
  ⟨h.os, h.tape, h.output, h.size, fun k hk => h.block k (by omega) (fun hx => by have := hX k hx; omega)⟩
theorem Off.cell (h : Off X w w') {p : Addr} (hp : p.block < w.heap.size) (hx : ¬ X p.block) : w'.cell? p = w.cell? p := World.cell?_of_block (w := w) (h.block p.block hp hx)
theorem Bys.off {A : Option Addr} {n c : Nat} {l : List UInt8} (h : Bys w A n c l) (hA : Av X n A) (o : Off X w w') : Bys w' A n c l :=
  ⟨h.1, h.2.1, h.2.2.1, fun hn => by
    obtain ⟨b, of, e, hb, hc⟩ := h.2.2.2 hn
    exact ⟨b, of, e, by have := o.size; omega, fun j hj => (o.cell (p := ⟨b, of + j, none⟩) hb (hA hn ⟨b, of, none⟩ e)).trans (hc j hj)⟩⟩
end

theorem undrew {w w' : World} (h : Below w.drew.heap.size w.drew w') : Below w.heap.size w w' := ⟨h.os, h.tape, h.output, h.size, h.block⟩
theorem undrewN {w w' : World} {n : Nat} (h : Below (w.drewN n).heap.size (w.drewN n) w') : Below w.heap.size w w' := ⟨h.os, h.tape, h.output, h.size, h.block⟩
/-- one cell of block S stored -/
theorem Off.one {S : Nat} {a w : World} (h : Off (· = S) a w) (k : Nat) (u : Value) : Off (· = S) a (w.setCell ⟨S, k, none⟩ u) :=
  Off.setCell (X := (· = S)) (p := ⟨S, k, none⟩) h (.inl rfl) u

/-- The values vs are slices that read as the lists ls, none of them at a block of Y. -/
def Rvs (w : World) (Y : Nat → Prop) (vs : List Value) (ls : List (List UInt8)) : Prop :=
  vs.length = ls.length ∧ ∀ j (h : j < vs.length) (h' : j < ls.length), ∃ A d, vs[j] = .slice A ls[j].length d ∧ Bys w A ls[j].length d ls[j] ∧ Av Y ls[j].length A
theorem Rvs.nil (w : World) (Y : Nat → Prop) : Rvs w Y [] [] := ⟨rfl, fun j h => by cases h⟩
theorem Rvs.one {w : World} {Y : Nat → Prop} {A : Option Addr} {n c : Nat} {l : List UInt8} (h : Bys w A n c l) (hf : Av Y n A) : Rvs w Y [.slice A n c] [l] := by
  obtain rfl := h.len
  refine ⟨rfl, fun j hj hj' => ?_⟩
  match j, hj, hj' with
  | 0, _, _ => exact ⟨A, c, rfl, h, hf⟩
theorem Rvs.append {w : World} {Y : Nat → Prop} {vs us : List Value} {ls ms : List (List UInt8)} (h : Rvs w Y vs ls) (k : Rvs w Y us ms) : Rvs w Y (vs ++ us) (ls ++ ms) := by
  have h1 := h.1
  have k1 := k.1
  refine ⟨by simp; omega, fun j hj hj' => ?_⟩
  by_cases hlt : j < vs.length
  · obtain ⟨A, d, h2, h3, h4⟩ := h.2 j hlt (by omega)
    refine ⟨A, d, ?_⟩
    rw [List.getElem_append_left hlt, List.getElem_append_left (by omega)]
    exact ⟨h2, h3, h4⟩
  · simp at hj hj'
    obtain ⟨A, d, h2, h3, h4⟩ := k.2 (j - vs.length) (by omega) (by omega)
    refine ⟨A, d, ?_⟩
    rw [List.getElem_append_right (by omega), List.getElem_append_right (by omega)]
    have e : j - ls.length = j - vs.length := by omega
    simp only [e]
    exact ⟨h2, h3, h4⟩
theorem Rvs.off {X Y : Nat → Prop} {w w' : World} {vs : List Value} {ls : List (List UInt8)} (h : Rvs w Y vs ls) (hX : ∀ k, k < w.heap.size → X k → Y k) (o : Off X w w') : Rvs w' Y vs ls :=
  ⟨h.1, fun j hj hj' => by
    obtain ⟨A, d, h1, h2, h3⟩ := h.2 j hj hj'
    exact ⟨A, d, h1, h2.off (fun hn p e hx => by obtain ⟨b, of, e', hb, _⟩ := h2.at_ hn; rw [e] at e'; injection e' with e'; subst e'; exact h3 hn _ e (hX _ hb hx)) o, h3⟩⟩
theorem Rvs.below {Y : Nat → Prop} {w w' : World} {vs : List Value} {ls : List (List UInt8)} (h : Rvs w Y vs ls) (o : Below w.heap.size w w') : Rvs w' Y vs ls :=
  h.off (X := fun _ => False) (fun _ _ h => h.elim) (Off.of_below o)
/-- the same with another set of blocks that are left out -/
theorem Rvs.imp {w : World} {Y Y' : Nat → Prop} {vs : List Value} {ls : List (List UInt8)} (h : Rvs w Y vs ls) (hY : ∀ k, k < w.heap.size → Y' k → Y k) : Rvs w Y' vs ls :=
  ⟨h.1, fun j hj hj' => by
    obtain ⟨A, d, h1, h2, h3⟩ := h.2 j hj hj'
    exact ⟨A, d, h1, h2, fun hn p e hy => by obtain ⟨b, of, e', hb, _⟩ := h2.at_ hn; rw [e] at e'; injection e' with e'; subst e'; exact h3 hn _ e (hY _ hb hy)⟩⟩
theorem Rvs.one' {w : World} {Y : Nat → Prop} {vs : List Value} {ls : List (List UInt8)} (h : Rvs w Y vs ls) : ∀ u ∈ vs, u.oneCell' = true := by
  intro u hu
  obtain ⟨j, hj, rfl⟩ := List.mem_iff_getElem.1 hu
  obtain ⟨A, d, h1, _⟩ := h.2 j hj (by have := h.1; omega)
  rw [h1]
  rfl

/-- The slice '.slice P n c' reads as the list ls of lists of bytes; all of its memory lies at blocks from B on. -/
def Rwf (w : World) (B : Nat) (P : Option Addr) (n c : Nat) (ls : List (List UInt8)) : Prop :=
  ls.length = n ∧ n ≤ c ∧ c ≤ maxLen ∧ Av (· < B) n P ∧ (0 < n → ∃ b o vs, P = some ⟨b, o, none⟩ ∧ b < w.heap.size ∧ (∀ j (h : j < vs.length), w.cell? ⟨b, o + j, none⟩ = some vs[j]) ∧ Rvs w (· < B) vs ls)
theorem Rwf.rws {w : World} {B : Nat} {P : Option Addr} {n c : Nat} {ls : List (List UInt8)} (h : Rwf w B P n c ls) : Rws w P n c ls :=
  ⟨h.1, h.2.1, h.2.2.1, fun hn => by
    obtain ⟨b, o, vs, e, hb, hc, hv⟩ := h.2.2.2.2 hn
    exact ⟨b, o, vs, e, hb, hv.1, hc, fun j hj hj' => by
      obtain ⟨A, d, h1, h2, _⟩ := hv.2 j hj hj'
      exact ⟨A, d, h1, h2⟩⟩⟩
theorem Rwf.len {w : World} {B : Nat} {P : Option Addr} {n c : Nat} {ls : List (List UInt8)} (h : Rwf w B P n c ls) : ls.length = n := h.1
theorem Rwf.nil (w : World) (B : Nat) : Rwf w B none 0 0 [] := ⟨rfl, Nat.le_refl _, Nat.zero_le _, Av.none _ _, fun h => absurd h (by omega)⟩
theorem Rwf.off {X : Nat → Prop} {w w' : World} {B : Nat} {P : Option Addr} {n c : Nat} {ls : List (List UInt8)} (h : Rwf w B P n c ls) (hX : ∀ k, k < w.heap.size → X k → k < B) (o : Off X w w') : Rwf w' B P n c ls :=
  ⟨h.1, h.2.1, h.2.2.1, h.2.2.2.1, fun hn => by
    obtain ⟨b, of, vs, e, hb, hc, hv⟩ := h.2.2.2.2 hn
    exact ⟨b, of, vs, e, by have := o.size; omega, fun j hj => (o.cell (p := ⟨b, of + j, none⟩) hb (fun hx => h.2.2.2.1 hn _ e (hX _ hb hx))).trans (hc j hj), hv.off hX o⟩⟩
theorem Rwf.below {w w' : World} {B : Nat} {P : Option Addr} {n c : Nat} {ls : List (List UInt8)} (h : Rwf w B P n c ls) (o : Below w.heap.size w w') : Rwf w' B P n c ls :=
  h.off (X := fun _ => False) (fun _ _ h => h.elim) (Off.of_below o)
theorem Rwf.down {w : World} {B B' : Nat} {P : Option Addr} {n c : Nat} {ls : List (List UInt8)} (h : Rwf w B P n c ls) (hB : B' ≤ B) : Rwf w B' P n c ls :=
  ⟨h.1, h.2.1, h.2.2.1, h.2.2.2.1.imp (fun k hk => by omega), fun hn => by
    obtain ⟨b, of, vs, e, hb, hc, hv⟩ := h.2.2.2.2 hn
    exact ⟨b, of, vs, e, hb, hc, hv.imp (fun k _ hk => by omega)⟩⟩
/-- a list literal of one slice -/
theorem Rwf.lit1 {w : World} {B : Nat} {A : Option Addr} {n c : Nat} {l : List UInt8} (h : Bys w A n c l) (hf : Av (· < B) n A) (hB : B ≤ w.heap.size) :
    Rwf (w.alloc (.cells #[.slice A n c] 39)) B (some ⟨w.heap.size, 0, none⟩) 1 1 [l] := by
  refine ⟨rfl, Nat.le_refl _, by unfold maxLen; omega, fun _ p e => by injection e with e; subst e; simp; exact hB, fun _ => ⟨w.heap.size, 0, [.slice A n c], rfl, by simp, fun j hj => ?_, Rvs.one (h.alloc _) hf⟩⟩
  match j, hj with
  | 0, _ => simp

theorem Rwf.lit1' {w : World} {B : Nat} {A : Option Addr} {n c : Nat} {l : List UInt8} (h : Bys w A n c l) (hf : Av (· < B) n A) (g : Nat) (hg : w.heap.size = g) (hB : B ≤ g) :
    Rwf (w.alloc (.cells #[.slice A n c] 39)) B (some ⟨g, 0, none⟩) 1 1 [l] := by
  subst hg
  exact Rwf.lit1 h hf hB

theorem Try.infoBs : (Try.prog.info? 39).map (fun i => (i.zero, i.size, i.bytes)) = some (some (.slice none 0 0), 1, 24) := by kernel_rfl
/-- The value v is the call's own list of slices (from block B on), that reads as ls. -/
def OwnR (w : World) (B : Nat) (v : Value) (ls : List (List UInt8)) : Prop := ∃ vs, w.ownsRow B 39 1 v ls.length vs ∧ Rvs w (fun k => k < B ∨ v.ownBlock = some k) vs ls
theorem OwnR.nil (w : World) (B : Nat) : OwnR w B (.slice none 0 0) [] := ⟨[], ⟨rfl, .inl ⟨rfl, rfl⟩⟩, Rvs.nil w _⟩
theorem OwnR.off {X : Nat → Prop} {w w' : World} {B : Nat} {v : Value} {ls : List (List UInt8)} (h : OwnR w B v ls) (hX : ∀ k, k < w.heap.size → X k → k < B) (o : Off X w w') : OwnR w' B v ls := by
  obtain ⟨vs, h1, h2⟩ := h
  refine ⟨vs, ⟨h1.1, ?_⟩, h2.off (fun k hk hx => .inl (hX k hk hx)) o⟩
  rcases h1.2 with h3 | ⟨g, cap, cur, hv, hg, hh, r⟩
  · exact Or.inl h3
  · refine Or.inr ⟨g, cap, cur, hv, hg, ?_, r⟩
    rw [o.block g (lt_of_block hh) (fun hx => by have := hX _ (lt_of_block hh) hx; omega)]
    exact hh
theorem OwnR.below {w w' : World} {B : Nat} {v : Value} {ls : List (List UInt8)} (h : OwnR w B v ls) (o : Below w.heap.size w w') : OwnR w' B v ls :=
  h.off (X := fun _ => False) (fun _ _ h => h.elim) (Off.of_below o)
theorem OwnR.lt {w : World} {B : Nat} {v : Value} {ls : List (List UInt8)} (h : OwnR w B v ls) (k : Nat) (hk : v.ownBlock = some k) : B ≤ k ∧ k < w.heap.size := by
  obtain ⟨vs, h1, _⟩ := h
  exact h1.lt k hk
theorem OwnR.shape {w : World} {B : Nat} {v : Value} {ls : List (List UInt8)} (h : OwnR w B v ls) : ∃ P c, v = .slice P ls.length c ∧ Rwf w B P ls.length c ls := by
  obtain ⟨vs, h1, h2⟩ := h
  rcases h1.2 with ⟨hv, hn⟩ | ⟨g, cap, cur, hv, hg, hh, hnc, hcm, hcs, ht⟩
  · exact ⟨none, 0, by rw [hn]; exact hv, rfl, by omega, Nat.zero_le _, Av.none _ _, fun h => absurd h (by omega)⟩
  · subst hv
    have hl : vs.length = ls.length := h2.1
    exact ⟨_, _, rfl, rfl, hnc, hcm, Av.of (by omega), fun hn => ⟨g, 0, vs, rfl, lt_of_block hh, fun j hj => by
      rw [Nat.zero_add, h1.cellAt j (by omega), List.getElem?_eq_getElem hj], h2.imp (fun k _ hk => .inl hk)⟩⟩
theorem run_append_rws (w : World) (B : Nat) (v : Value) (ls : List (List UInt8)) (hown : OwnR w B v ls) (B' : Nat) (P : Option Addr) (m c : Nat) (ms : List (List UInt8)) (hR : Rwf w B' P m c ms)
    (hlen : ls.length + m ≤ 1099511627776) (hbase : B ≤ w.heap.size) (hB : B ≤ B') (hv' : ∀ k, v.ownBlock = some k → k < B') (ty : TypeId) :
    ∃ v' w', (Builtin.append_ #[57, 57] ty #[v, .slice P m c]).run Try.prog w = .ok v' w' ∧ OwnR w' B v' (ls ++ ms) ∧ w.grownBy w' v.ownBlock := by
  obtain ⟨i0, hi, hz0, hz1, hz2⟩ := info_parts Try.infoBs
  obtain ⟨vs, hown, hvs⟩ := hown
  have hl := hR.1
  have key : ∀ (us : List Value) (v' : Value) (w' : World), Rvs w (· < B') us ms → w.grownBy w' v.ownBlock → (v'.ownBlock = v.ownBlock ∨ v'.ownBlock = some w.heap.size) → Rvs w' (fun k => k < B ∨ v'.ownBlock = some k) (vs ++ us) (ls ++ ms) := by
    intro us v' w' hus hg hw
    have o : Off (fun k => v.ownBlock = some k) w w' := (Off.refl _ w).grown hg (fun k hk => .inl hk)
    refine ((hvs.imp ?_).append (hus.imp ?_)).off (X := fun k => v.ownBlock = some k) (Y := fun k => k < B ∨ v.ownBlock = some k ∨ v'.ownBlock = some k) ?_ o |>.imp ?_
    · intro k hk hy
      rcases hy with hy | hy | hy
      · exact .inl hy
      · exact .inr hy
      · rcases hw with hw | hw
        · exact .inr (hw ▸ hy)
        · rw [hw] at hy; injection hy with hy; omega
    · intro k hk hy
      rcases hy with hy | hy | hy
      · omega
      · exact hv' k hy
      · rcases hw with hw | hw
        · exact hv' k (hw ▸ hy)
        · rw [hw] at hy; injection hy with hy; omega
    · intro k hk hx
      exact .inr (.inl hx)
    · intro k hk hy
      rcases hy with hy | hy
      · exact .inl hy
      · exact .inr (.inr hy)
  rcases Nat.eq_zero_or_pos m with h0 | h0
  · subst h0
    have : ms = [] := List.eq_nil_of_length_eq_zero hl
    subst this
    rcases P with _ | ad
    · refine ⟨v, w, ?_, ⟨vs, by simpa using hown, by simpa using hvs⟩, World.grownBy.refl w _⟩
      rcases hown.2 with ⟨rfl, hn⟩ | ⟨g, cap, cur, rfl, _, _, hnc, _⟩
      · simp [Builtin.append_, run_underlying Try.underlying57, sizeOf, typeInfo, hi, Builtin.lenOf, Builtin.firstCells]
      · simp [Builtin.append_, run_underlying Try.underlying57, sizeOf, typeInfo, hi, Builtin.lenOf, Builtin.firstCells, hnc, storeCells]
    · obtain ⟨v', w', hrun, h2, h3, _, h5⟩ := run_append_own_at (P := Try.prog) w B 57 ty 39 i0 (.slice none 0 0) 1 24 Try.underlying57 hi hz0 hz1 hz2 rfl (by decide) v ls.length vs hown ad 0 c [] rfl (by simp) (by simp) (by unfold maxLen; omega) (by omega) hbase
      have := key [] v' w' (Rvs.nil w _) h3 h5
      exact ⟨v', w', hrun, ⟨vs, by simpa using h2, by simpa using this⟩, h3⟩
  · obtain ⟨b, o, us, rfl, _, hc, hus⟩ := hR.2.2.2.2 h0
    have hul : us.length = m := hus.1.trans hl
    have hcells : ∀ j u, us[j]? = some u → w.cell? ((⟨b, o, none⟩ : Addr).add j) = some u := by
      intro j u hu
      obtain ⟨hj, hu⟩ := List.getElem?_eq_some_iff.1 hu
      subst hu
      have := hc j hj
      rcases Nat.eq_zero_or_pos j with h | h
      · subst h; simpa [Addr.add] using this
      · rw [Addr.add, if_neg (by simpa using Nat.pos_iff_ne_zero.1 h)]
        exact this
    obtain ⟨v', w', hrun, h2, h3, _, h5⟩ := run_append_own_at (P := Try.prog) w B 57 ty 39 i0 (.slice none 0 0) 1 24 Try.underlying57 hi hz0 hz1 hz2 rfl (by decide) v ls.length vs hown _ m c us (by omega) hcells hus.one' (by unfold maxLen; omega) (by omega) hbase
    exact ⟨v', w', hrun, ⟨vs ++ us, by rw [List.length_append, hl]; exact h2, key us v' w' hus h3 h5⟩, h3⟩

/-- 'append(s, x...)', s the call's own list of slices, x one in new memory -/
theorem app_rws {ops : Array Oper} {rest : List Oper} {o : Oper} {a : Act} {Q : Exit → Act → World → Prop} (w : World) (hgd : o.guard = none) (s x : Operand)
    (ho : o.op = .call { callee := .builtin .append, args := #[s, x], argTypes := #[57, 57] })
    (B : Nat) (v : Value) (ls : List (List UInt8)) (hs : a.eval s = v) (hown : OwnR w B v ls)
    (B' : Nat) (P : Option Addr) (m c : Nat) (ms : List (List UInt8)) (hx : a.eval x = .slice P m c) (hR : Rwf w B' P m c ms) (hlen : ls.length + m ≤ 1099511627776) (hbase : B ≤ w.heap.size) (hB : B ≤ B') (hv' : ∀ k, v.ownBlock = some k → k < B')
    (h : ∀ v' w', OwnR w' B v' (ls ++ ms) → w.grownBy w' v.ownBlock → wpList Try.prog ops Q rest (a.put o.dst v') w') : wpList Try.prog ops Q (o :: rest) a w := by
  refine wpList_plain hgd fun K hK => ?_
  obtain ⟨v', w', hrun, h2, h3⟩ := run_append_rws w B v ls hown B' P m c ms hR hlen hbase hB hv' o.type
  unfold Oper.wp execOp
  simp only [ho, resolve, invoke, builtin, Sem.run_bind, Sem.run_pure, Result.andThen_ok, List.map_toArray, List.map_cons, List.map_nil, hs, hx, hrun]
  exact hK _ _ (h v' w' h2 h3)
/-- the same at a step of a region that draws its order -/
theorem step_rws {ops : Array Oper} {o : Oper} {a : Act} {K : Act → World → Prop} {Q : Exit → Act → World → Prop} {E : Prop} (w : World) (hgd : o.guard = none) (s x : Operand)
    (ho : o.op = .call { callee := .builtin .append, args := #[s, x], argTypes := #[57, 57] })
    (B : Nat) (v : Value) (ls : List (List UInt8)) (hs : a.eval s = v) (hown : OwnR w B v ls)
    (B' : Nat) (P : Option Addr) (m c : Nat) (ms : List (List UInt8)) (hx : a.eval x = .slice P m c) (hR : Rwf w B' P m c ms) (hlen : ls.length + m ≤ 1099511627776) (hbase : B ≤ w.heap.size) (hB : B ≤ B') (hv' : ∀ k, v.ownBlock = some k → k < B')
    (h : ∀ v' w', OwnR w' B v' (ls ++ ms) → w.grownBy w' v.ownBlock → K (a.put o.dst v') w') :
    if Region.wanted o (yielded ops a.tmps) = true then Oper.wp Try.prog o a w K Q else E := by
  have hw : Region.wanted o (yielded ops a.tmps) = true := by simp [Region.wanted, hgd]
  rw [if_pos hw]
  obtain ⟨v', w', hrun, h2, h3⟩ := run_append_rws w B v ls hown B' P m c ms hR hlen hbase hB hv' o.type
  unfold Oper.wp execOp
  simp only [ho, resolve, invoke, builtin, Sem.run_bind, Sem.run_pure, Result.andThen_ok, List.map_toArray, List.map_cons, List.map_nil, hs, hx, hrun]
  exact h v' w' h2 h3
end Go.Proofs.Ytoajbocpebfjoaa
