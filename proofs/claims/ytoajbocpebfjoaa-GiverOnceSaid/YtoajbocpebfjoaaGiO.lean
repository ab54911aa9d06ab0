/- Plain facts for layer 28's GiverOnce: what is known of a giver whose draws are apart, and of what the law keeps beside it. -/
import Derived.Test.YtoajbocpebfjoaaGiD
namespace Go.Proofs.Ytoajbocpebfjoaa
open Go.RowKit
set_option maxRecDepth 20000

theorem least_nat (P : Nat → Prop) (n : Nat) (h : P n) : ∃ m, P m ∧ ∀ k, k < m → ¬ P k := by
  induction n using Nat.strongRecOn with
  | _ n ih =>
    by_cases h1 : ∃ k, k < n ∧ P k
    · obtain ⟨k, hk, hp⟩ := h1
      exact ih k hk hp
    · exact ⟨n, h, fun k hk hp => h1 ⟨k, hk, hp⟩⟩
theorem dup_is (l : List Nat) : ∃ r, Dup l r := by
  by_cases h : ∀ a b, a < b → b < l.length → l.getD a 0 ≠ l.getD b 0
  · exact ⟨_, .inr ⟨rfl, h⟩⟩
  · have h1 : ∃ b a, a < b ∧ b < l.length ∧ l.getD a 0 = l.getD b 0 := Classical.byContradiction fun h2 => h (fun a b h3 h4 h5 => h2 ⟨b, a, h3, h4, h5⟩)
    obtain ⟨b0, hb0⟩ := h1
    obtain ⟨b, ⟨a0, ha0⟩, hmin⟩ := least_nat (fun b => ∃ a, a < b ∧ b < l.length ∧ l.getD a 0 = l.getD b 0) b0 hb0
    obtain ⟨a, ⟨ha1, ha2, ha3⟩, hmin2⟩ := least_nat (fun a => a < b ∧ b < l.length ∧ l.getD a 0 = l.getD b 0) a0 ha0
    exact ⟨_, .inl ⟨a, b, rfl, ha1, ha2, ha3, fun x y hx hy e => hmin y hy ⟨x, hx, by omega, e⟩, fun x hx e => hmin2 x hx ⟨by omega, ha2, e⟩⟩⟩
/-- no two of the first k draws are the same -/
def Apt (l : List Nat) (k : Nat) : Prop := ∀ i j, i < j → j < k → nx l i ≠ nx l j
theorem drawn_getD (l : List Nat) (k i : Nat) (h : i < k) : (drawn l k).getD i 0 = nx l i := by simp [drawn, h]
theorem apt_of_dup {l : List Nat} {k : Nat} {r : Nat × Nat × Bool} (h : Dup (drawn l k) r) (hf : r.2.2 = false) : Apt l k := by
  rcases h with ⟨a, b, rfl, _⟩ | ⟨_, h⟩
  · cases hf
  · intro i j hij hj
    have := h i j hij (by rw [drawn_len]; exact hj)
    rwa [drawn_getD l k i (by omega), drawn_getD l k j hj] at this
def gvAct (s : Gvs) (x : Act28) : Gvs := if x.1 = 0 then gvTake s x.2.1 x.2.2.1 x.2.2.2.1 x.2.2.2.2.2 else if x.1 = 1 then gvRecv s else s
def gvActL (s : Gvs) (x : Act28) : List Tok := if x.1 = 0 then gvTakeL s x.2.1 x.2.2.1 x.2.2.2.1 else if x.1 = 1 then gvRecvL s else []
theorem GvFew.act {j : Nat} {s : Gvs} (h : GvFew j s) (hj : j < 900000) (x : Act28) (hT : x.2.2.1 < 18446744073709551616) : GvFew (j + 1) (gvAct s x) := by
  unfold gvAct
  split
  · exact h.take hj _ hT _ _
  · split
    · exact h.recv hj
    · exact h.more
/-- what the law has been told, once the packets l were looked at -/
def goTold (T : Nat → Option Nat) (l : List Tok) : Nat → Option Nat := l.foldl (fun T t => if t.1 = 1 then fun j => if j = t.2.2.1 then some t.2.1 else T j else T) T
theorem goTold_nil (T : Nat → Option Nat) : goTold T [] = T := rfl
theorem goTold_take (T : Nat → Option Nat) (l : List Tok) (k : Nat) (h : k < l.length) : goTold T (l.take (k + 1)) = if l[k].1 = 1 then fun j => if j = l[k].2.2.1 then some l[k].2.1 else goTold T (l.take k) j else goTold T (l.take k) := by
  rw [List.take_succ_eq_append_getElem h]
  unfold goTold
  rw [List.foldl_append]
  rfl
/-- what holds between a giver and what the law keeps of it -/
structure GvI (s : Gvs) (told : Nat → Option Nat) (used : Nat → Bool) (ins : List Nat) : Prop where
  apart : Apt s.l s.k
  pos : ∀ c t, told c = some t → ∃ i, i < s.k ∧ nx s.l i = c
  usd : ∀ c, used c = true → told c ≠ none
  opn : s.opn = true → told s.c = some s.t ∧ used s.c = false
  len : ins.length = s.ent
  cnt : s.ent = s.ret + s.ls.length
  has : 0 < s.ent → s.has = true
  last : s.has = true → ins.getLast? = some s.last
theorem GvI.new (room : Nat) (l : List Nat) : GvI ⟨room, [], l, 0 + 1, nx l 0, false, false, 0, 0, 0, 0, 0⟩ (fun _ => none) (fun _ => false) [] where
  apart := fun i j h1 h2 => by have h2 : j < 0 + 1 := h2; omega
  pos := fun _ _ h => by cases h
  usd := fun _ h => by cases h
  opn := fun h => by cases h
  len := rfl
  cnt := rfl
  has := fun h => absurd h (Nat.lt_irrefl 0)
  last := fun h => by cases h
section
variable {s : Gvs} {told : Nat → Option Nat} {used : Nat → Bool} {ins : List Nat}
theorem mem_take_last {l : List Nat} {x n : Nat} (h : l.getLast? = some x) (hn : l.length ≤ n) : x ∈ l.take n := by
  rw [List.take_of_length_le hn]
  exact List.mem_of_getLast? h
theorem gvAck_one (s : Gvs) : (gvAck s).length ≤ 1 ∧ ∀ t ∈ gvAck s, t = (3, s.last, 0, s.r, []) ∧ s.ls = [] := by
  unfold gvAck
  split
  · rename_i h
    exact ⟨Nat.le_refl _, fun t ht => ⟨by simpa using ht, h⟩⟩
  · exact ⟨Nat.zero_le _, fun t ht => by cases ht⟩
theorem goTold_ack (T : Nat → Option Nat) (s : Gvs) : goTold T (gvAck s) = T := by
  unfold gvAck
  split
  · simp [goTold]
  · rfl
/-- what a round does that brings no message in -/
def GvB (s s' : Gvs) (lo : List Tok) (told : Nat → Option Nat) (used : Nat → Bool) (ins : List Nat) : Prop := s'.ent = s.ent ∧ (∀ t ∈ lo, t.1 = 3 → t.2.1 ∈ ins.take s'.ret) ∧ GvI s' (goTold told lo) used ins
/-- what a round does that brings one in, by the packet p -/
def GvA (s s' : Gvs) (x : Act28) (lo : List Tok) (told : Nat → Option Nat) (used : Nat → Bool) (ins : List Nat) : Prop := s'.ent = s.ent + 1 ∧ x.1 = 0 ∧ x.2.1 = 2 ∧ lo = [] ∧ told x.2.2.2.1 = some x.2.2.1 ∧ used x.2.2.2.1 = false ∧ GvI s' told (fun j => if j = x.2.2.2.1 then true else used j) (ins ++ [x.2.2.1])
theorem GvI.same (h : GvI s told used ins) : GvB s s [] told used ins := ⟨rfl, (fun _ ht => by cases ht), h⟩
theorem GvI.old (h : GvI s told used ins) (hh : s.has = true) : GvB s s (gvAck s) told used ins :=
  ⟨rfl, fun t ht _ => by
    obtain ⟨rfl, h0⟩ := (gvAck_one s).2 t ht
    exact mem_take_last (h.last hh) (by have := h.len; have := h.cnt; rw [h0] at this; simp at this; omega), by rw [goTold_ack]; exact h⟩
theorem GvI.opens (h : GvI s told used ins) (T : Nat) (hap : Apt (gvOpen s T).l (gvOpen s T).k) : GvB s (gvOpen s T) [(1, T, (gvOpen s T).c, s.r, [])] told used ins := by
  have e1 : goTold told [(1, T, (gvOpen s T).c, s.r, [])] = fun j => if j = (gvOpen s T).c then some T else told j := by
    simp [goTold]
  unfold GvB
  rw [e1]
  unfold gvOpen at hap ⊢
  split
  · rename_i hop
    obtain ⟨h1, rfl⟩ := hop
    refine ⟨rfl, (fun t ht h3 => by simp at ht; subst ht; have h3 : (1 : Int) = 3 := h3; omega), ?_⟩
    have e2 : (fun j => if j = s.c then some s.t else told j) = told := by
      funext j
      split
      · rename_i hj
        rw [hj, (h.opn h1).1]
      · rfl
    rw [e2]
    exact h
  · rename_i hop
    rw [if_neg hop] at hap
    have hap : Apt s.l (s.k + 1) := hap
    have hnew : told (nx s.l s.k) = none := by
      cases ht : told (nx s.l s.k) with
      | none => rfl
      | some t =>
        obtain ⟨i, hi, e⟩ := h.pos _ _ ht
        exact absurd e (hap i s.k hi (by omega))
    have hun : used (nx s.l s.k) = false := by
      cases hu : used (nx s.l s.k) with
      | false => rfl
      | true => exact absurd hnew (h.usd _ hu)
    refine ⟨rfl, (fun t ht h3 => by simp at ht; subst ht; have h3 : (1 : Int) = 3 := h3; omega), ⟨hap, fun c t hc => ?_, fun c hc => ?_, fun _ => ⟨?_, hun⟩, h.len, h.cnt, h.has, h.last⟩⟩
    · have hc : (if c = nx s.l s.k then some T else told c) = some t := hc
      show ∃ i, i < s.k + 1 ∧ nx s.l i = c
      split at hc
      · rename_i e
        exact ⟨s.k, by omega, e.symm⟩
      · obtain ⟨i, hi, e⟩ := h.pos _ _ hc
        exact ⟨i, by omega, e⟩
    · show (if c = nx s.l s.k then some T else told c) ≠ none
      split
      · simp
      · exact h.usd _ hc
    · show (if nx s.l s.k = nx s.l s.k then some T else told _) = some T
      rw [if_pos rfl]
theorem GvI.pops (h : GvI s told used ins) (h0 : s.ls ≠ []) : GvB s (gvPop s) (gvAck (gvPop s)) told used ins := by
  have hlen : s.ls.tail.length + 1 = s.ls.length := by
    cases hl : s.ls with
    | nil => exact absurd hl h0
    | cons a r => simp
  have hcnt := h.cnt
  refine ⟨rfl, fun t ht _ => ?_, ?_⟩
  · obtain ⟨rfl, h1⟩ := (gvAck_one _).2 t ht
    have h1 : s.ls.tail = [] := h1
    rw [h1] at hlen
    exact mem_take_last (h.last (h.has (by omega))) (by have := h.len; show ins.length ≤ s.ret + 1; simp at hlen; omega)
  · rw [goTold_ack]
    exact ⟨h.apart, h.pos, h.usd, h.opn, h.len, by show s.ent = s.ret + 1 + s.ls.tail.length; omega, h.has, h.last⟩
theorem GvI.round (h : GvI s told used ins) (x : Act28) (hap : Apt (gvAct s x).l (gvAct s x).k) : GvB s (gvAct s x) (gvActL s x) told used ins ∨ GvA s (gvAct s x) x (gvActL s x) told used ins := by
  unfold gvAct gvActL at *
  by_cases h0 : x.1 = 0
  · rw [if_pos h0, if_pos h0] at *
    unfold gvTake gvTakeL at *
    by_cases hi : gvIn s x.2.1 x.2.2.1 x.2.2.2.1
    · rw [if_pos hi] at *
      rw [if_pos hi]
      unfold gvPush at *
      by_cases hq : quPushE s.room s.ls x.2.2.2.2.2.length = 0
      · rw [if_pos hq] at *
        refine .inr ⟨rfl, h0, hi.1, rfl, ?_, ?_, ⟨h.apart, h.pos, fun c hc => ?_, fun hc => (by cases hc), ?_, ?_, fun _ => rfl, fun _ => ?_⟩⟩
        · rw [hi.2.2.2, hi.2.2.1]; exact (h.opn hi.2.1).1
        · rw [hi.2.2.2]; exact (h.opn hi.2.1).2
        · have hc : (if c = x.2.2.2.1 then true else used c) = true := hc
          split at hc
          · rename_i e
            rw [e, hi.2.2.2, (h.opn hi.2.1).1]; simp
          · exact h.usd c hc
        · show (ins ++ [x.2.2.1]).length = s.ent + 1
          have := h.len; simp; omega
        · show s.ent + 1 = s.ret + (s.ls ++ [x.2.2.2.2.2]).length
          have := h.cnt; simp; omega
        · show (ins ++ [x.2.2.1]).getLast? = some x.2.2.1
          simp
      · rw [if_neg hq] at *
        exact .inl h.same
    · rw [if_neg hi] at *
      rw [if_neg hi]
      by_cases ho : gvOld s x.2.1 x.2.2.1
      · rw [if_pos ho] at *
        rw [if_pos ho]
        exact .inl (h.old ho.2.1)
      · rw [if_neg ho] at *
        rw [if_neg ho]
        by_cases hk : x.2.1 = 0
        · rw [if_pos hk] at *
          rw [if_pos hk]
          exact .inl (h.opens _ hap)
        · rw [if_neg hk] at *
          rw [if_neg hk]
          exact .inl h.same
  · rw [if_neg h0, if_neg h0] at *
    by_cases h1 : x.1 = 1
    · rw [if_pos h1, if_pos h1] at *
      unfold gvRecv gvRecvL at *
      by_cases hl : s.ls = []
      · rw [if_pos hl] at *
        rw [if_pos hl]
        exact .inl h.same
      · rw [if_neg hl] at *
        rw [if_neg hl]
        exact .inl (h.pops hl)
    · rw [if_neg h1, if_neg h1] at *
      exact .inl h.same
end
/-- the packets told are within their kinds, and one at most -/
theorem gvActL_ok {s : Gvs} (h : GvOk s) (x : Act28) (hT : x.2.2.1 < 18446744073709551616) (hk : s.k < 1000000) : (gvActL s x).length ≤ 1 ∧ ∀ t ∈ gvActL s x, t.2.1 < 18446744073709551616 ∧ t.2.2.1 < 18446744073709551616 := by
  have hack : ∀ s' : Gvs, s'.last = s.last → (gvAck s').length ≤ 1 ∧ ∀ t ∈ gvAck s', t.2.1 < 18446744073709551616 ∧ t.2.2.1 < 18446744073709551616 := fun s' e => ⟨(gvAck_one s').1, fun t ht => by
    obtain ⟨rfl, _⟩ := (gvAck_one s').2 t ht
    exact ⟨by show s'.last < _; rw [e]; exact h.2.2.2.2.2.2.1, by show 0 < _; omega⟩⟩
  have hnil : (([] : List Tok)).length ≤ 1 ∧ ∀ t ∈ ([] : List Tok), t.2.1 < 18446744073709551616 ∧ t.2.2.1 < 18446744073709551616 := ⟨Nat.zero_le _, fun t ht => by cases ht⟩
  unfold gvActL
  split
  · unfold gvTakeL
    split
    · exact hnil
    · split
      · exact hack s rfl
      · split
        · refine ⟨Nat.le_refl _, fun t ht => ?_⟩
          simp at ht
          subst ht
          exact ⟨hT, (h.open hT hk).2.2.2.2.2.1⟩
        · exact hnil
  · split
    · unfold gvRecvL
      split
      · exact hnil
      · exact hack _ rfl
    · exact hnil
end Go.Proofs.Ytoajbocpebfjoaa
