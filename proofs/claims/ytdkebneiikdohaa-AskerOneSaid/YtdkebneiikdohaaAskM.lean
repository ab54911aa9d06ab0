/- The document's asker in plain words: its state, what its calls make of it and answer. -/
import Derived.Test.YtdkebneiikdohaaQuC
import Derived.Test.YtdkebneiikdohaaRno
import Derived.Test.YtdkebneiikdohaaTkR
import Derived.Test.YtdkebneiikdohaaTimV
import Derived.Test.YtdkebneiikdohaaCfg
namespace Go.Proofs.Ytdkebneiikdohaa
open Go.RowKit
set_option maxRecDepth 20000

theorem ask_nx_lt {l : List Nat} (h : ∀ x ∈ l, x < 18446744073709551616) {k : Nat} (hk : k ≤ 1000000) : nx l k < 18446744073709551616 := by
  unfold nx
  split
  · rename_i hl
    rw [show l.getD k 0 = l[k] by simp [hl]]
    exact h _ (List.getElem_mem hl)
  · omega
/-- an asker's state: the timers' cap, the queue's room and messages, the timers; the source's numbers, how many of them were drawn; the outcomes told; T, R, is it bound -/
structure Ass where
  most : Int
  room : Nat
  ls : List (List UInt8)
  tm : List Tmr
  l : List Nat
  k : Nat
  told : List Int
  t : Nat
  r : Nat
  bound : Bool
def asNew (c : Cfg) : Int := if c.b < 1 ∨ 64 < c.b then 1 else if c.room < 1 ∨ 16 < c.room then 1 else 0
def as0 (c : Cfg) (l : List Nat) (k : Nat) : Ass := ⟨c.b, c.room.toNat, [], [], l, k, [], 0, 0, false⟩
def asAcc (s : Ass) : Nat := s.told.length + s.ls.length
def asBegin (s : Ass) : Ass := { s with t := nx s.l s.k, k := s.k + 1, r := 0, bound := false, tm := tmSet s.tm 0 }
def asBegL (s : Ass) : List Tok := [(0, nx s.l s.k, 0, 0, [])]
def asSend (s : Ass) (m : List UInt8) : Ass := if quPushE s.room s.ls m.length = 0 then (if s.ls = [] then asBegin { s with ls := [m] } else { s with ls := s.ls ++ [m] }) else s
def asSendL (s : Ass) (n : Nat) : List Tok := if quPushE s.room s.ls n = 0 ∧ s.ls = [] then asBegL s else []
def asSendN (s : Ass) (n : Nat) : Nat := if quPushE s.room s.ls n = 0 then asAcc s else 0
def asTick (s : Ass) : Ass := if s.ls = [] then s else { s with tm := tmTick s.most s.tm }
def asTickL (s : Ass) : List Tok := if s.ls = [] ∨ tmDue s.tm = [] then [] else [(0, s.t, 0, 0, [])]
def asPop (s : Ass) (o : Int) : Ass := { s with ls := s.ls.tail, told := s.told ++ [o] }
def asOn (s : Ass) (o : Int) : Ass := if s.ls.tail = [] then { asPop s o with t := 0, r := 0, bound := false, tm := tmClear s.tm 0 } else asBegin (asPop s o)
def asOnL (s : Ass) : List Tok := if s.ls.tail = [] then [] else asBegL s
def asTake (s : Ass) (kd : Int) (T R : Nat) : Ass := if s.ls = [] ∨ T ≠ s.t then s else if kd = 3 then asOn s 1 else if kd = 1 then (if s.bound = true ∧ R ≠ s.r then asOn s 2 else { s with bound := true, r := R }) else s
def asTakeL (s : Ass) (kd : Int) (T C R : Nat) : List Tok := if s.ls = [] ∨ T ≠ s.t then [] else if kd = 3 then asOnL s else if kd = 1 then (if s.bound = true ∧ R ≠ s.r then asOnL s else [(2, s.t, C, 0, s.ls.headD [])]) else []
def asPoll (s : Ass) (i : Int) : Int := if i < 0 then 0 else s.told.getD i.toNat 0
def asPollE (s : Ass) (i : Int) : Int := if i < 0 ∨ (asAcc s : Int) ≤ i then 4 else 0
/-- at most one timer, of the number 0 -/
def OneTm (l : List Tmr) : Prop := l = [] ∨ ∃ a b, l = [(0, a, b)]
theorem OneTm.set {l : List Tmr} (h : OneTm l) : tmSet l 0 = [(0, 1, 1)] := by
  rcases h with rfl | ⟨a, b, rfl⟩
  · rfl
  · simp [tmSet, tmIs, tmAt]
theorem OneTm.clear {l : List Tmr} (h : OneTm l) : tmClear l 0 = [] := by
  rcases h with rfl | ⟨a, b, rfl⟩
  · rfl
  · simp [tmClear, tmIs, tmAt]
theorem OneTm.tick {l : List Tmr} (h : OneTm l) (most : Int) : OneTm (tmTick most l) := by
  rcases h with rfl | ⟨a, b, rfl⟩
  · exact .inl rfl
  · refine .inr ⟨(tmStep most (0, a, b)).2.1, (tmStep most (0, a, b)).2.2, ?_⟩
    show [tmStep most (0, a, b)] = _
    unfold tmStep
    split <;> rfl
theorem OneTm.len {l : List Tmr} (h : OneTm l) : l.length ≤ 1 := by
  rcases h with rfl | ⟨a, b, rfl⟩
  · exact Nat.zero_le _
  · exact Nat.le_refl _
/-- numbers that are within their kinds -/
structure AsOk (s : Ass) : Prop where
  q : QOk s.room s.ls
  tok : TmOk s.most s.tm
  one : OneTm s.tm
  nums : ∀ x ∈ s.l, x < 18446744073709551616
  k : s.k ≤ 1000000
  done : s.told.length ≤ 1000000
  outs : ∀ o ∈ s.told, o = 1 ∨ o = 2
  t : s.t < 18446744073709551616
  r : s.r < 18446744073709551616
theorem AsOk.new {c : Cfg} (h : asNew c = 0) {l : List Nat} (hl : ∀ x ∈ l, x < 18446744073709551616) {k : Nat} (hk : k ≤ 1000000) : AsOk (as0 c l k) := by
  unfold asNew at h
  by_cases h1 : c.b < 1 ∨ 64 < c.b
  · rw [if_pos h1] at h; cases h
  · rw [if_neg h1] at h
    by_cases h2 : c.room < 1 ∨ 16 < c.room
    · rw [if_pos h2] at h; cases h
    · exact ⟨⟨by show 1 ≤ c.room.toNat; omega, by show c.room.toNat ≤ 16; omega, Nat.zero_le _, fun m hm => by cases hm⟩, ⟨⟨by show 1 ≤ c.b; omega, by show c.b ≤ 64; omega⟩, List.Pairwise.nil, fun t ht => by cases ht⟩, .inl rfl, hl, hk, Nat.zero_le _, (fun o ho => by cases ho), (by show 0 < _; omega), by show 0 < _; omega⟩
theorem AsOk.begin {s : Ass} (h : AsOk s) (hk : s.k < 1000000) : AsOk (asBegin s) where
  q := h.q
  tok := tmSet_ok 0 ⟨by omega, by omega⟩ h.tok
  one := by show OneTm (tmSet s.tm 0); rw [h.one.set]; exact .inr ⟨1, 1, rfl⟩
  nums := h.nums
  k := by show s.k + 1 ≤ _; omega
  done := h.done
  outs := h.outs
  t := ask_nx_lt h.nums h.k
  r := by show 0 < _; omega
theorem AsOk.send {s : Ass} (h : AsOk s) (m : List UInt8) (hk : s.k < 1000000) : AsOk (asSend s m) := by
  unfold asSend
  split
  · rename_i hq
    have h1 := h.q.push m
    unfold quPush at h1
    rw [if_pos hq] at h1
    split
    · rename_i h0
      rw [h0] at h1
      exact AsOk.begin (s := { s with ls := [m] }) ⟨h1, h.tok, h.one, h.nums, h.k, h.done, h.outs, h.t, h.r⟩ hk
    · exact ⟨h1, h.tok, h.one, h.nums, h.k, h.done, h.outs, h.t, h.r⟩
  · exact h
theorem AsOk.tick {s : Ass} (h : AsOk s) : AsOk (asTick s) := by
  unfold asTick
  split
  · exact h
  · exact ⟨h.q, tmTick_ok h.tok, h.one.tick _, h.nums, h.k, h.done, h.outs, h.t, h.r⟩
theorem AsOk.on {s : Ass} (h : AsOk s) (o : Int) (ho : o = 1 ∨ o = 2) (hk : s.k < 1000000) (hd : s.told.length < 1000000) : AsOk (asOn s o) := by
  have hq : QOk s.room s.ls.tail := ⟨h.q.1, h.q.2.1, by have := h.q.2.2.1; simp; omega, fun m hm => h.q.2.2.2 m (List.mem_of_mem_tail hm)⟩
  have hdn : (s.told ++ [o]).length ≤ 1000000 := by simp; omega
  have hou : ∀ x ∈ s.told ++ [o], x = 1 ∨ x = 2 := fun x hx => by
    rcases List.mem_append.1 hx with hx | hx
    · exact h.outs x hx
    · rw [List.mem_singleton] at hx; exact hx ▸ ho
  unfold asOn
  split
  · exact ⟨hq, tmClear_ok 0 h.tok, (by show OneTm (tmClear s.tm 0); rw [h.one.clear]; exact .inl rfl), h.nums, h.k, hdn, hou, (by show 0 < _; omega), by show 0 < _; omega⟩
  · exact AsOk.begin (s := asPop s o) ⟨hq, h.tok, h.one, h.nums, h.k, hdn, hou, h.t, h.r⟩ hk
theorem AsOk.take {s : Ass} (h : AsOk s) (kd : Int) (T : Nat) {R : Nat} (hR : R < 18446744073709551616) (hk : s.k < 1000000) (hd : s.told.length < 1000000) : AsOk (asTake s kd T R) := by
  unfold asTake
  split
  · exact h
  · split
    · exact h.on 1 (.inl rfl) hk hd
    · split
      · split
        · exact h.on 2 (.inr rfl) hk hd
        · exact ⟨h.q, h.tok, h.one, h.nums, h.k, h.done, h.outs, h.t, hR⟩
      · exact h
/-- how far the numbers may have come -/
def AsFew (j : Nat) (s : Ass) : Prop := AsOk s ∧ s.k ≤ j ∧ s.told.length ≤ j
theorem AsFew.more {j : Nat} {s : Ass} (h : AsFew j s) : AsFew (j + 1) s := ⟨h.1, by have := h.2.1; omega, by have := h.2.2; omega⟩
theorem AsFew.send {j : Nat} {s : Ass} (h : AsFew j s) (hj : j < 900000) (m : List UInt8) : AsFew (j + 1) (asSend s m) := by
  obtain ⟨h1, h2, h3⟩ := h
  refine ⟨h1.send m (by omega), ?_⟩
  unfold asSend
  split
  · split
    · exact ⟨by show s.k + 1 ≤ _; omega, by show s.told.length ≤ _; omega⟩
    · exact ⟨by show s.k ≤ _; omega, by show s.told.length ≤ _; omega⟩
  · exact ⟨by omega, by omega⟩
theorem AsFew.tick {j : Nat} {s : Ass} (h : AsFew j s) : AsFew (j + 1) (asTick s) := by
  obtain ⟨h1, h2, h3⟩ := h
  refine ⟨h1.tick, ?_⟩
  unfold asTick
  split
  · exact ⟨by omega, by omega⟩
  · exact ⟨by show s.k ≤ _; omega, by show s.told.length ≤ _; omega⟩
theorem asOn_few {j : Nat} {s : Ass} (o : Int) (h2 : s.k ≤ j) (h3 : s.told.length ≤ j) : (asOn s o).k ≤ j + 1 ∧ (asOn s o).told.length ≤ j + 1 := by
  unfold asOn
  split
  · exact ⟨by show s.k ≤ _; omega, by show (s.told ++ [o]).length ≤ _; simp; omega⟩
  · exact ⟨by show s.k + 1 ≤ _; omega, by show (s.told ++ [o]).length ≤ _; simp; omega⟩
theorem AsFew.take {j : Nat} {s : Ass} (h : AsFew j s) (hj : j < 900000) (kd : Int) (T : Nat) {R : Nat} (hR : R < 18446744073709551616) : AsFew (j + 1) (asTake s kd T R) := by
  obtain ⟨h1, h2, h3⟩ := h
  refine ⟨h1.take kd T hR (by omega) (by omega), ?_⟩
  unfold asTake
  split
  · exact ⟨by omega, by omega⟩
  · split
    · exact asOn_few 1 h2 h3
    · split
      · split
        · exact asOn_few 2 h2 h3
        · exact ⟨by show s.k ≤ _; omega, by show s.told.length ≤ _; omega⟩
      · exact ⟨by omega, by omega⟩
end Go.Proofs.Ytdkebneiikdohaa
