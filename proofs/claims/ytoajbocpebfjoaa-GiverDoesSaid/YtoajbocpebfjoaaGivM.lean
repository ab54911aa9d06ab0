/- The document's giver in plain words: its state, what its calls make of it and answer. -/
import Derived.Test.YtoajbocpebfjoaaQuC
import Derived.Test.YtoajbocpebfjoaaRno
import Derived.Test.YtoajbocpebfjoaaTkR
namespace Go.Proofs.Ytoajbocpebfjoaa
open Go.RowKit
set_option maxRecDepth 20000

/-- a giver's state: the queue's room and messages; the source's numbers, how many of them were drawn; its incarnation; is there an open challenge, did a message enter; the open one's T and C, the last one's T; how many entered, were returned -/
structure Gvs where
  room : Nat
  ls : List (List UInt8)
  l : List Nat
  k : Nat
  r : Nat
  opn : Bool
  has : Bool
  t : Nat
  c : Nat
  last : Nat
  ent : Nat
  ret : Nat
def gvAck (s : Gvs) : List Tok := if s.ls = [] then [(3, s.last, 0, s.r, [])] else []
/-- is it a message with the open challenge -/
def gvIn (s : Gvs) (kd : Int) (T C : Nat) : Prop := kd = 2 ∧ s.opn = true ∧ T = s.t ∧ C = s.c
instance (s : Gvs) (kd : Int) (T C : Nat) : Decidable (gvIn s kd T C) := inferInstanceAs (Decidable (_ ∧ _))
/-- is it of the last message that entered -/
def gvOld (s : Gvs) (kd : Int) (T : Nat) : Prop := (kd = 0 ∨ kd = 2) ∧ s.has = true ∧ T = s.last
instance (s : Gvs) (kd : Int) (T : Nat) : Decidable (gvOld s kd T) := inferInstanceAs (Decidable (_ ∧ _))
def gvPush (s : Gvs) (T : Nat) (d : List UInt8) : Gvs := if quPushE s.room s.ls d.length = 0 then { s with ls := s.ls ++ [d], opn := false, has := true, last := T, ent := s.ent + 1 } else s
def gvOpen (s : Gvs) (T : Nat) : Gvs := if s.opn = true ∧ s.t = T then s else { s with opn := true, t := T, c := nx s.l s.k, k := s.k + 1 }
def gvTake (s : Gvs) (kd : Int) (T C : Nat) (d : List UInt8) : Gvs := if gvIn s kd T C then gvPush s T d else if gvOld s kd T then s else if kd = 0 then gvOpen s T else s
def gvTakeL (s : Gvs) (kd : Int) (T C : Nat) : List Tok := if gvIn s kd T C then [] else if gvOld s kd T then gvAck s else if kd = 0 then [(1, T, (gvOpen s T).c, s.r, [])] else []
def gvPop (s : Gvs) : Gvs := { s with ls := s.ls.tail, ret := s.ret + 1 }
def gvRecv (s : Gvs) : Gvs := if s.ls = [] then s else gvPop s
def gvRecvL (s : Gvs) : List Tok := if s.ls = [] then [] else gvAck (gvPop s)
/-- numbers that are within their kinds -/
def GvOk (s : Gvs) : Prop := QOk s.room s.ls ∧ (∀ x ∈ s.l, x < 18446744073709551616) ∧ s.k ≤ 1000000 ∧ s.r < 18446744073709551616 ∧ s.t < 18446744073709551616 ∧ s.c < 18446744073709551616 ∧ s.last < 18446744073709551616 ∧ s.ent ≤ 1000000 ∧ s.ret ≤ 1000000
theorem nx_lt {l : List Nat} (h : ∀ x ∈ l, x < 18446744073709551616) {k : Nat} (hk : k ≤ 1000000) : nx l k < 18446744073709551616 := by
  unfold nx
  split
  · rename_i hl
    rw [show l.getD k 0 = l[k] by simp [hl]]
    exact h _ (List.getElem_mem hl)
  · omega
theorem GvOk.push {s : Gvs} (h : GvOk s) {T : Nat} (hT : T < 18446744073709551616) (d : List UInt8) (he : s.ent < 1000000) : GvOk (gvPush s T d) := by
  unfold gvPush
  split
  · rename_i hq
    have := h.1.push d
    unfold quPush at this
    rw [if_pos hq] at this
    exact ⟨this, h.2.1, h.2.2.1, h.2.2.2.1, h.2.2.2.2.1, h.2.2.2.2.2.1, hT, by show s.ent + 1 ≤ _; omega, h.2.2.2.2.2.2.2.2⟩
  · exact h
theorem GvOk.open {s : Gvs} (h : GvOk s) {T : Nat} (hT : T < 18446744073709551616) (hk : s.k < 1000000) : GvOk (gvOpen s T) := by
  unfold gvOpen
  split
  · exact h
  · exact ⟨h.1, h.2.1, by show s.k + 1 ≤ _; omega, h.2.2.2.1, hT, nx_lt h.2.1 h.2.2.1, h.2.2.2.2.2.2⟩
theorem GvOk.take {s : Gvs} (h : GvOk s) (kd : Int) {T : Nat} (hT : T < 18446744073709551616) (C : Nat) (d : List UInt8) (he : s.ent < 1000000) (hk : s.k < 1000000) : GvOk (gvTake s kd T C d) := by
  unfold gvTake
  split
  · exact h.push hT d he
  · split
    · exact h
    · split
      · exact h.open hT hk
      · exact h
theorem GvOk.pop {s : Gvs} (h : GvOk s) (hr : s.ret < 1000000) : GvOk (gvPop s) :=
  ⟨⟨h.1.1, h.1.2.1, by have := h.1.2.2.1; show s.ls.tail.length ≤ s.room; simp; omega, fun m hm => h.1.2.2.2 m (List.mem_of_mem_tail hm)⟩, h.2.1, h.2.2.1, h.2.2.2.1, h.2.2.2.2.1, h.2.2.2.2.2.1, h.2.2.2.2.2.2.1, h.2.2.2.2.2.2.2.1, by show s.ret + 1 ≤ _; omega⟩
theorem GvOk.recv {s : Gvs} (h : GvOk s) (hr : s.ret < 1000000) : GvOk (gvRecv s) := by
  unfold gvRecv
  split
  · exact h
  · exact h.pop hr
end Go.Proofs.Ytoajbocpebfjoaa
