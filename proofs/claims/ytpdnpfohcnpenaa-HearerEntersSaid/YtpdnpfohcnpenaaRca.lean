/- The document's own caller (kedgeref20) as an object of three parts: its own cells, a queue, a ledger; what its calls make of the state. -/
import Derived.Test.YtpdnpfohcnpenaaQuC
import Derived.Test.YtpdnpfohcnpenaaRld
import Derived.Test.YtpdnpfohcnpenaaPks
namespace Go.Proofs.Ytpdnpfohcnpenaa
open Go.RowKit
set_option maxRecDepth 20000

/-- a caller's state: the queue's room and messages, what the ledger has open and marked, how many were accepted, are done, and the answers -/
structure Cs where
  room : Nat
  ls : List (List UInt8)
  o : Nat
  k : Nat
  acc : Nat
  done : Nat
  acks : Nat
def caNext (s : Cs) : Cs := { s with k := ldMark s.o s.k, acks := 0 }
def caSendE (s : Cs) (n : Nat) : Nat := quPushE s.room s.ls n
def caSend (s : Cs) (m : List UInt8) : Cs := if caSendE s m.length = 0 then (if s.ls = [] then caNext { s with ls := s.ls ++ [m], acc := s.acc + 1 } else { s with ls := s.ls ++ [m], acc := s.acc + 1 }) else s
def caSendN (s : Cs) (n : Nat) : Nat := if caSendE s n = 0 then s.acc else 0
def caPollE (s : Cs) (i : Int) : Nat := if i < 0 ∨ (s.acc : Int) ≤ i then 4 else 0
def caPoll (s : Cs) (i : Int) : Nat := if i < 0 ∨ (s.acc : Int) ≤ i then 0 else if i < (s.done : Int) then 1 else 0
def caTick (s : Cs) : Cs := if s.ls = [] then s else { s with o := ldAsk s.o }
def caTickL (s : Cs) : List Pkt := if s.ls = [] ∨ ldS s.o = true then [] else [(1, 0, [])]
/-- an answer is heard -/
def caAck (s : Cs) (lb : Int) : Cs :=
  if ldCan s.o = true ∧ s.ls ≠ [] ∧ lb = ((s.done % 2 : Nat) : Int) then
    (if ldEnough (ldHear s.o) s.k (s.acks + 1) = true then
      (if s.ls.tail = [] then { s with o := ldHear s.o, ls := s.ls.tail, done := s.done + 1, acks := s.acks + 1 } else caNext { s with o := ldHear s.o, ls := s.ls.tail, done := s.done + 1, acks := s.acks + 1 })
     else { s with o := ldHear s.o, acks := s.acks + 1 })
  else { s with o := ldHear s.o }
def caTake (s : Cs) (kd lb : Int) : Cs := if kd = 4 then caAck s lb else s
def caTakeL (s : Cs) (kd : Int) : List Pkt := if kd = 0 then (if s.ls = [] then [(2, 0, [])] else [(3, ((s.done % 2 : Nat) : Int), s.ls.headD [])]) else []
/-- numbers that are within their kinds -/
def CaOk (s : Cs) : Prop := QOk s.room s.ls ∧ s.o < 18446744073709551616 ∧ s.k < 18446744073709551616 ∧ s.acc ≤ 1000000 ∧ s.done ≤ 1000000 ∧ s.acks ≤ 1000000

def ccells (gq gl : Nat) (s : Cs) : Array Value := #[.pointer (some ⟨gq, 0, none⟩), .pointer (some ⟨gl, 0, none⟩), .int .i64 (s.acc : Int), .int .i64 (s.done : Int), .int .u64 (s.acks : Int)]
/-- the blocks of an object of three parts -/
def Al (g gl : Nat) (Xq : Nat → Prop) : Nat → Prop := fun k => k = g ∨ k = gl ∨ Xq k
section
variable {g gq gl : Nat} {s : Cs} {Xq : Nat → Prop} {w w1 : World}
end
end Go.Proofs.Ytpdnpfohcnpenaa
