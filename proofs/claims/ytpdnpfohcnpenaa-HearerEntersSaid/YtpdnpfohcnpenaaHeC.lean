/- Package hearer by its contracts; what layer 21's law's own num, huge, alike answer over them. -/
import Derived.Test.YtpdnpfohcnpenaaRhe4
import Derived.Test.YtpdnpfohcnpenaaRecs
import Derived.Test.YtpdnpfohcnpenaaSameAll
namespace Go.Proofs.Ytpdnpfohcnpenaa
open Go.RowKit
set_option maxRecDepth 20000

/-- bytes that are told of an object: they avoid it, and were its own or are new -/
def GivesRf (F : World → (Nat → Prop) → Prop) (X : Nat → Prop) (l : List UInt8) (b : Bool) (w : World) (e : Ending) (w' : World) : Prop := ∃ A n c X', e = .returned (.tuple #[.slice A n c, .bool b]) ∧ Bys w' A n c l ∧ Av X' n A ∧ (0 < n → ∀ p, A = some p → X p.block ∨ w.heap.size ≤ p.block) ∧ F w' X' ∧ Turns X X' w w'
/-- what package hearer answers, in plain words: F g s w X: at block g lies a hearer in the state s; its blocks are X -/
structure HeC (F : Nat → Hs → World → (Nat → Prop) → Prop) : Prop where
  holds : ∀ g s, Holds (F g s)
  new_no : ∀ (r : Int) (b : Nat) (w : World), I64 r → b < 18446744073709551616 → r < 1 ∨ 16 < r → Calls Try.prog 9 #[.int .i64 r, .int .u64 (b : Int)] w fun e w' => e = .returned (.tuple #[.pointer none, .int .i64 1]) ∧ Below w.heap.size w w'
  new_yes : ∀ (room b : Nat) (w : World), 1 ≤ room → room ≤ 16 → b < 18446744073709551616 → Calls Try.prog 9 #[.int .i64 (room : Int), .int .u64 (b : Int)] w fun e w' => ∃ g X, e = .returned (.tuple #[.pointer (some ⟨g, 0, none⟩), .int .i64 0]) ∧ F g ⟨room, [], b, b, [], 0, 0⟩ w' X ∧ (∀ k, X k → w.heap.size ≤ k) ∧ Below w.heap.size w w'
  tick : ∀ (g : Nat) (s : Hs) (w : World) (X : Nat → Prop), F g s w X → HeOk s → Calls Try.prog 13 #[.pointer (some ⟨g, 0, none⟩)] w (GivesPks (F g (heTick s)) X (heTickL s) w)
  take : ∀ (g : Nat) (s : Hs) (kd lb : Int) (A : Option Addr) (n c : Nat) (d : List UInt8) (w : World) (X : Nat → Prop), F g s w X → HeOk s → s.al.length < 1000 → alCount s.al lb d < 1000000 → s.ent < 1000000 → I64 kd → I64 lb → Bys w A n c d → Av X n A → (ldCan s.o = true → n ≤ 140737488355328) → Calls Try.prog 15 #[.pointer (some ⟨g, 0, none⟩), .agg #[.int .i64 kd, .int .i64 lb, .slice A n c]] w (GivesPks (F g (heTake s kd lb d)) X (heTakeL s kd) w)
  recv : ∀ (g : Nat) (s : Hs) (w : World) (X : Nat → Prop), F g s w X → HeOk s → s.ent < 1000000 → s.ret < 1000000 → Calls Try.prog 17 #[.pointer (some ⟨g, 0, none⟩)] w (GivesRf (F g (heRecv s)) X (s.ls.headD []) (!s.ls.isEmpty) w)
  state : ∀ (g : Nat) (s : Hs) (w : World) (X : Nat → Prop), F g s w X → Calls Try.prog 21 #[.pointer (some ⟨g, 0, none⟩)] w fun e w' => e = .returned (.agg #[.int .i64 (s.ent : Int), .int .i64 (s.ret : Int), .int .u64 (s.o : Int), .int .u64 (s.k : Int), .bool (ldS s.o)]) ∧ Below w.heap.size w w'
  kept : ∀ (g : Nat) (s : Hs) (w : World) (X : Nat → Prop), F g s w X → Calls Try.prog 22 #[.pointer (some ⟨g, 0, none⟩)] w fun e w' => ∃ P n c, e = .returned (.slice P n c) ∧ RFre w' (· < w.heap.size) P n c s.ls ∧ Below w.heap.size w w'
  ntick : ∀ (w : World), Calls Try.prog 13 #[.pointer none] w fun e w' => ∃ P c, e = .returned (.slice P 0 c) ∧ Below w.heap.size w w'
  ntake : ∀ (kd lb : Int) (A : Option Addr) (n c : Nat) (d : List UInt8) (w : World), I64 kd → I64 lb → Bys w A n c d → Calls Try.prog 15 #[.pointer none, .agg #[.int .i64 kd, .int .i64 lb, .slice A n c]] w fun e w' => ∃ P c, e = .returned (.slice P 0 c) ∧ Below w.heap.size w w'
  nrecv : ∀ (w : World), Calls Try.prog 17 #[.pointer none] w fun e w' => e = .returned (.tuple #[.slice none 0 0, .bool false]) ∧ Below w.heap.size w w'
  nstate : ∀ (w : World), Calls Try.prog 21 #[.pointer none] w fun e w' => e = .returned (.agg #[.int .i64 0, .int .i64 0, .int .u64 0, .int .u64 0, .bool true]) ∧ Below w.heap.size w w'
  nkept : ∀ (w : World), Calls Try.prog 22 #[.pointer none] w fun e w' => ∃ P c, e = .returned (.slice P 0 c) ∧ Below w.heap.size w w'
theorem alCount_le {l : List Tal} {j : Nat} (h : ∀ t ∈ l, t.2.2 ≤ j) (a : Int) (d : List UInt8) : alCount l a d ≤ j := by
  unfold alCount
  cases h2 : l[alAt l a d]? with
  | none => exact Nat.zero_le _
  | some t => exact h t (List.mem_of_getElem? h2)
/-- the state stays within its kinds -/
theorem HeOk.enter {s : Hs} (h : HeOk s) (he : s.ent < 1000000) : HeOk (heEnter s) := by
  unfold heEnter
  split
  · rename_i hm
    obtain ⟨h1, h2, h3, h4⟩ := hm
    refine ⟨⟨h.1.1, h.1.2.1, ?_, ?_⟩, h.2.1, ldMark_lt h.2.1 h.2.2.1, ⟨Nat.zero_le _, fun t ht => by cases ht⟩, ?_, h.2.2.2.2.2⟩
    · show (s.ls ++ [(heBest s).1]).length ≤ s.room
      simp
      omega
    · intro m hm
      rcases List.mem_append.1 (show m ∈ s.ls ++ [(heBest s).1] from hm) with h5 | h5
      · exact h.1.2.2.2 m h5
      · rw [List.mem_singleton] at h5
        subst h5
        exact h4
    · show s.ent + 1 ≤ 1000000
      omega
  · exact h
/-- how far the numbers may have come -/
def HeFew (j : Nat) (s : Hs) : Prop := HeOk s ∧ s.al.length ≤ j ∧ (∀ t ∈ s.al, t.2.2 ≤ j) ∧ s.ent ≤ j ∧ s.ret ≤ j
theorem HeFew.new (room b : Nat) (h1 : 1 ≤ room) (h2 : room ≤ 16) (hb : b < 18446744073709551616) : HeFew 0 ⟨room, [], b, b, [], 0, 0⟩ := ⟨⟨⟨h1, h2, Nat.zero_le _, fun m hm => by cases hm⟩, hb, hb, ⟨Nat.zero_le _, fun t ht => by cases ht⟩, Nat.zero_le _, Nat.zero_le _⟩, Nat.le_refl _, (fun t ht => by cases ht), Nat.le_refl _, Nat.le_refl _⟩
theorem HeFew.more {j : Nat} {s : Hs} (h : HeFew j s) : HeFew (j + 1) s := ⟨h.1, by have := h.2.1; omega, fun t ht => by have := h.2.2.1 t ht; omega, by have := h.2.2.2.1; omega, by have := h.2.2.2.2; omega⟩
theorem HeFew.tick {j : Nat} {s : Hs} (h : HeFew j s) : HeFew (j + 1) (heTick s) := ⟨⟨h.1.1, ldAsk_lt h.1.2.1, h.1.2.2⟩, h.more.2⟩
theorem HeFew.enter {j : Nat} {s : Hs} (hok : HeOk s) (h1 : s.al.length ≤ j + 1) (h2 : ∀ t ∈ s.al, t.2.2 ≤ j + 1) (h3 : s.ent ≤ j) (h4 : s.ret ≤ j + 1) (hj : j < 1000000) : HeFew (j + 1) (heEnter s) := by
  refine ⟨hok.enter (by omega), ?_⟩
  unfold heEnter
  split
  · exact ⟨Nat.zero_le _, (fun t ht => by cases ht), by show s.ent + 1 ≤ _; omega, by show s.ret ≤ _; omega⟩
  · exact ⟨h1, h2, by omega, h4⟩
theorem HeFew.hear {j : Nat} {s : Hs} (h : HeFew j s) : HeFew (j + 1) { s with o := ldHear s.o } := ⟨⟨h.1.1, ldHear_lt h.1.2.1, h.1.2.2⟩, h.more.2⟩
theorem HeFew.recv {j : Nat} {s : Hs} (h : HeFew j s) (hj : j < 1000000) : HeFew (j + 1) (heRecv s) := by
  unfold heRecv
  split
  · exact h.more
  · refine HeFew.enter ⟨⟨h.1.1.1, h.1.1.2.1, ?_, fun m hm => h.1.1.2.2.2 m (List.mem_of_mem_tail hm)⟩, h.1.2.1, h.1.2.2.1, h.1.2.2.2.1, h.1.2.2.2.2.1, ?_⟩ h.more.2.1 h.more.2.2.1 h.2.2.2.1 ?_ hj
    · have := h.1.1.2.2.1
      show s.ls.tail.length ≤ s.room
      simp
      omega
    · have := h.2.2.2.2
      show s.ret + 1 ≤ 1000000
      omega
    · have := h.2.2.2.2
      show s.ret + 1 ≤ j + 1
      omega
theorem HeFew.take {j : Nat} {s : Hs} (h : HeFew j s) (hj : j < 999) (kd lb : Int) (d : List UInt8) (hd : d.length ≤ 140737488355328) : HeFew (j + 1) (heTake s kd lb d) := by
  unfold heTake
  split
  · exact h.hear
  · split
    · unfold heData
      split
      · have hc := alCount_le h.2.2.1 lb d
        refine HeFew.enter ⟨h.1.1, ldHear_lt h.1.2.1, h.1.2.2.1, alAdd_ok h.1.2.2.2.1 (by have := h.2.1; omega) (by omega) hd, h.1.2.2.2.2⟩ ?_ ?_ h.2.2.2.1 h.more.2.2.2.2 (by omega)
        · show (alAdd s.al lb d).length ≤ j + 1
          have := h.2.1
          unfold alAdd
          split
          · simp; omega
          · simp; omega
        · intro t ht
          have ht : t ∈ alAdd s.al lb d := ht
          unfold alAdd at ht
          split at ht
          · rcases List.mem_or_eq_of_mem_set ht with h5 | h5
            · have := h.2.2.1 t h5; omega
            · subst h5
              show alCount s.al lb d + 1 ≤ j + 1
              omega
          · rcases List.mem_append.1 ht with h5 | h5
            · have := h.2.2.1 t h5; omega
            · rw [List.mem_singleton] at h5
              subst h5
              show 1 ≤ j + 1
              omega
      · exact h.hear
    · exact h.more
/-- a packet in a list -/
def rdPkt (w : World) (b o : Nat) (x : Pkt) : Prop := (I64 x.1 ∧ I64 x.2.1) ∧ ∃ A c, w.cell? ⟨b, o, none⟩ = some (.int .i64 x.1) ∧ w.cell? ⟨b, o + 1, none⟩ = some (.int .i64 x.2.1) ∧ w.cell? ⟨b, o + 2, none⟩ = some (.slice A x.2.2.length c) ∧ Bys w A x.2.2.length c x.2.2
theorem keepsPkt : Keeps rdPkt := fun _ _ b o _ hb T ⟨h0, A, c, h1, h2, h3, h4⟩ => ⟨h0, A, c, (T.cell (p := ⟨b, o, none⟩) hb).trans h1, (T.cell (p := ⟨b, o + 1, none⟩) hb).trans h2, (T.cell (p := ⟨b, o + 2, none⟩) hb).trans h3, h4.below T⟩
theorem num21_any (e : Int) (w : World) : Calls Try.prog 11 #[.int .i64 e] w fun e' w' => e' = .returned (.int .i64 e) ∧ w = w' := by
  go_enter Try.func11, Try.ntmps11
  go_wp2
  go_ret
  exact ⟨rfl, rfl⟩
/-- an act: its kind, the packet -/
abbrev Act21 := Int × Pkt
def rdAct21 (w : World) (b o : Nat) (x : Act21) : Prop := (I64 x.1 ∧ I64 x.2.1 ∧ I64 x.2.2.1) ∧ ∃ A c, w.cell? ⟨b, o, none⟩ = some (.int .i64 x.1) ∧ w.cell? ⟨b, o + 1, none⟩ = some (.int .i64 x.2.1) ∧ w.cell? ⟨b, o + 2, none⟩ = some (.int .i64 x.2.2.1) ∧ w.cell? ⟨b, o + 3, none⟩ = some (.slice A x.2.2.2.length c) ∧ Bys w A x.2.2.2.length c x.2.2.2
theorem keeps21 : Keeps rdAct21 := fun _ _ b o _ hb T ⟨h0, A, c, h1, h2, h3, h4, h5⟩ => ⟨h0, A, c, (T.cell (p := ⟨b, o, none⟩) hb).trans h1, (T.cell (p := ⟨b, o + 1, none⟩) hb).trans h2, (T.cell (p := ⟨b, o + 2, none⟩) hb).trans h3, (T.cell (p := ⟨b, o + 3, none⟩) hb).trans h4, h5.below T⟩
def long21 (x : Act21) : Bool := decide (200 < x.2.2.2.length)
def huge21 (l : List Act21) : Bool := decide (100 < l.length) || (l.take 200).any long21
set_option maxHeartbeats 4000000 in
theorem huge21_any (A : Option Addr) (n c : Nat) (l : List Act21) (w : World) (hR : Recs rdAct21 4 w A n c l) :
    Calls Try.prog 7 #[.slice A n c] w fun e w' => e = .returned (.bool (huge21 l)) ∧ Below w.heap.size w w' := by
  have hl := hR.1
  have hnc := hR.2.1
  have hcm := hR.2.2.1
  unfold maxLen at hcm
  have HC := Lib.hid hR.2.2.2
  have HLN := Lib.hid hl
  obtain ⟨r, hr⟩ : ∃ r, huge21 l = r := ⟨_, rfl⟩
  have HR := Lib.hid hr
  rw [hr]
  clear hR hl hr
  go_enter Try.func7, Try.ntmps7
  go_wp2_with (fail)
  go_loopw [3] (fun i wr => ∃ k : Nat, k ≤ n ∧ k ≤ 200 ∧ i = .int .i64 (k : Int) ∧ Hid ((l.take k).any long21 = false) ∧ Below w.heap.size w wr) (fun i _ => n - (intOf i).toNat)
  case atStart => exact ⟨0, Nat.zero_le _, Nat.zero_le _, rfl, rfl, Below.refl _ _⟩
  case round =>
    obtain ⟨k, hk, hk2, rfl, HK, hbel⟩ := hrel
    by_cases hlt : k < n ∧ k < 200
    · have d1 : decide ((k : Int) < (n : Int)) = true := by simp; omega
      have d2 : decide ((k : Int) < 200) = true := by simp; omega
      have hkl : k < l.length := by rw [HLN.out]; exact hlt.1
      obtain ⟨b, o, rfl, hb, hc⟩ := HC.out (by omega)
      obtain ⟨-, A', c', -, -, -, q3, qB⟩ := hc k hkl
      have e3 := (hbel.cell (p := ⟨b, o + k * 4 + 3, none⟩) hb).trans q3
      have ht : l.take (k + 1) = l.take k ++ [l[k]] := List.take_succ_eq_append_getElem hkl
      have hlen := qB.le
      have hkn : (k : Int) < (n : Int) := by omega
      have HT : Hid ((l.take (k + 1)).any long21 = long21 l[k]) := by
        show _ = _
        rw [ht, List.any_append, HK.out]
        simp
      have HH : Hid (long21 l[k] = true → huge21 l = true) := fun h => by
        unfold huge21
        rw [Bool.or_eq_true]
        refine .inr (List.any_eq_true.2 ⟨l[k], ?_, h⟩)
        exact List.mem_iff_getElem.2 ⟨k, by simp; omega, by simp⟩
      have HLG : Hid (long21 l[k] = decide (200 < l[k].2.2.2.length)) := rfl
      clear hc q3 ht qB
      generalize long21 l[k] = lg at *
      generalize l[k].2.2.2.length = L at *
      by_cases h1 : 200 < L
      · have d3 : decide ((200 : Int) < (L : Int)) = true := by simp; omega
        have e := HH.out (by rw [HLG.out, show decide (200 < L) = true by simpa using h1])
        rw [HR.out] at e
        subst e
        go_wp2
        go_ret
        exact ⟨rfl, hbel⟩
      · have d3 : decide ((200 : Int) < (L : Int)) = false := by simp; omega
        have e := HT.out
        rw [HLG.out, show decide (200 < L) = false by simpa using h1] at e
        have HT2 := Lib.hid e
        clear e HT HH HLG
        go_wp2
        go_roundw
        case rel => exact ⟨k + 1, by omega, by omega, by go_num, HT2.out, hbel⟩
        case measure => simp [intOf]; omega
    · have e : r = decide (100 < n) := by
        rw [← HR.out]
        unfold huge21
        rw [HLN.out]
        by_cases h3 : 100 < n
        · rw [show decide (100 < n) = true by simpa using h3, Bool.true_or]
        · have h4 : l.take 200 = l.take k := by rw [List.take_of_length_le (by rw [HLN.out]; omega), List.take_of_length_le (by rw [HLN.out]; omega)]
          rw [h4, HK.out, Bool.or_false]
      subst e
      by_cases h1 : k < n
      · have d1 : decide ((k : Int) < (n : Int)) = true := by simp; omega
        have d2 : decide ((k : Int) < 200) = false := by simp; omega
        have d3 : decide ((100 : Int) < (n : Int)) = true := by simp; omega
        have d4 : decide (100 < n) = true := by simp; omega
        have HD4 := Lib.hid d4
        clear HR d4
        go_wp2
        go_ret
        exact ⟨ret_bool HD4.out.symm, hbel⟩
      · have d1 : decide ((k : Int) < (n : Int)) = false := by simp; omega
        have d4 : decide ((100 : Int) < (n : Int)) = decide (100 < n) := by rw [decide_eq_decide]; omega
        clear HR
        go_wp2
        go_ret
        exact ⟨rfl, hbel⟩
theorem huge21_few {l : List Act21} (h : huge21 l = false) : l.length ≤ 100 ∧ ∀ x ∈ l, x.2.2.2.length ≤ 200 := by
  unfold huge21 at h
  rw [Bool.or_eq_false_iff] at h
  have h1 : l.length ≤ 100 := by simpa using h.1
  refine ⟨h1, fun x hx => ?_⟩
  have h2 := h.2
  rw [List.take_of_length_le (by omega), List.any_eq_false] at h2
  have h3 := h2 x hx
  unfold long21 at h3
  simpa using h3
theorem row5 {w : World} {g : Nat} {t : TypeId} {a b c d e : Value} (h : w.heap[g]? = some (.cells #[a, b, c, d, e] t (0, 0))) :
    w.cell? ⟨g, 0, none⟩ = some a ∧ w.cell? ⟨g, 1, none⟩ = some b ∧ w.cell? ⟨g, 2, none⟩ = some c ∧ w.cell? ⟨g, 3, none⟩ = some d ∧ w.cell? ⟨g, 4, none⟩ = some e :=
  ⟨cell_of_row _ _ _ _ _ _ h, cell_of_row _ _ _ _ _ _ h, cell_of_row _ _ _ _ _ _ h, cell_of_row _ _ _ _ _ _ h, cell_of_row _ _ _ _ _ _ h⟩
set_option maxHeartbeats 8000000 in
theorem alike21_any {F : Nat → Hs → World → (Nat → Prop) → Prop} (C : HeC F) (ga gr : Nat) (s : Hs) (w : World) (X Y : Nat → Prop) (hF : F ga s w X) (hR : RHe gr s w Y) :
    Calls Try.prog 20 #[.pointer (some ⟨ga, 0, none⟩), .pointer (some ⟨gr, 0, none⟩)] w fun e w' => e = .returned (.bool true) ∧ Below w.heap.size w w' := by
  obtain ⟨gq, gl, gt, Xq, Xt, hv, rfl⟩ := hR
  have HS := Lib.hid (C.state ga s w X hF)
  obtain ⟨P, pc, hp1, hp2, -, cq0, cqR⟩ := hv.2.1.cells
  have hgq := hv.lt gq (.inr (.inr (.inl hv.2.1.1)))
  have HV := Lib.hid (fun W (U : Below w.heap.size w W) => hv.below U)
  have HQ := Lib.hid (fun W (U : Below w.heap.size w W) => And.intro ((U.cell (p := ⟨gq, 1, none⟩) hgq).trans cq0) (cqR.below U))
  have HF := Lib.hid (fun W (U : Below w.heap.size w W) => C.kept ga s W X ((C.holds _ _).below hF U))
  clear hF hv cq0 cqR hgq
  obtain ⟨sp, hsp⟩ : ∃ b, ldS s.o = b := ⟨_, rfl⟩
  have HSP := Lib.hid hsp
  rw [hsp] at HS
  have n1 : ((s.ent : Int) == (s.ent : Int)) = true := by simp
  have n2 : ((s.ret : Int) == (s.ret : Int)) = true := by simp
  have n3 : ((s.o : Int) == (s.o : Int)) = true := by simp
  have n4 : ((s.k : Int) == (s.k : Int)) = true := by simp
  have n6 : (sp == sp) = true := by simp
  obtain ⟨N, hN⟩ : ∃ N, s.ls.length = N := ⟨_, rfl⟩
  rw [hN] at hp1 HQ
  go_enter Try.func20, Try.ntmps20
  go_wp2_with (fail)
  refine HS.out.mono ?_
  rintro e w1 ⟨rfl, T1⟩
  have U := T1.alloc T1.size (.cells #[.int .i64 (s.ent : Int), .int .i64 (s.ret : Int), .int .u64 (s.o : Int), .int .u64 (s.k : Int), .bool sp] 50)
  have h0 := heap_alloc_new w1 (.cells #[.int .i64 (s.ent : Int), .int .i64 (s.ret : Int), .int .u64 (s.o : Int), .int .u64 (s.k : Int), .bool sp] 50)
  obtain ⟨xb, hxb⟩ : ∃ xb, w1.heap.size = xb := ⟨_, rfl⟩
  rw [hxb] at h0
  have K : Hid (∀ w', Below (w1.alloc (.cells #[.int .i64 (s.ent : Int), .int .i64 (s.ret : Int), .int .u64 (s.o : Int), .int .u64 (s.k : Int), .bool sp] 50)).heap.size (w1.alloc (.cells #[.int .i64 (s.ent : Int), .int .i64 (s.ret : Int), .int .u64 (s.o : Int), .int .u64 (s.k : Int), .bool sp] 50)) w' → w'.cell? ⟨xb, 0, none⟩ = some (.int .i64 (s.ent : Int)) ∧ w'.cell? ⟨xb, 1, none⟩ = some (.int .i64 (s.ret : Int)) ∧ w'.cell? ⟨xb, 2, none⟩ = some (.int .u64 (s.o : Int)) ∧ w'.cell? ⟨xb, 3, none⟩ = some (.int .u64 (s.k : Int)) ∧ w'.cell? ⟨xb, 4, none⟩ = some (.bool sp) ∧ w'.cell? ⟨gr, 0, none⟩ = some (.pointer (some ⟨gq, 0, none⟩)) ∧ w'.cell? ⟨gr, 1, none⟩ = some (.pointer (some ⟨gl, 0, none⟩)) ∧ w'.cell? ⟨gr, 3, none⟩ = some (.int .i64 (s.ent : Int)) ∧ w'.cell? ⟨gr, 4, none⟩ = some (.int .i64 (s.ret : Int)) ∧ w'.cell? ⟨gl, 0, none⟩ = some (.int .u64 (s.o : Int)) ∧ w'.cell? ⟨gl, 1, none⟩ = some (.int .u64 (s.k : Int)) ∧ w'.cell? ⟨gl, 2, none⟩ = some (.bool sp) ∧ w'.cell? ⟨gq, 1, none⟩ = some (Value.slice P N pc)) := fun w' V => by
    have hx := (V.block xb (lt_row h0)).trans h0
    obtain ⟨a0, a1, a2, a3, a4⟩ := row5 hx
    have R1 := (HV.out _ U).below V
    obtain ⟨c0, c1, c2, c3, c4, -⟩ := R1.cells
    have hl := R1.2.2.1
    unfold LRow at hl
    rw [HSP.out] at hl
    obtain ⟨l0, l1, l2, -, -, -⟩ := row3 hl
    exact ⟨a0, a1, a2, a3, a4, c0, c1, c3, c4, l0, l1, l2, (HQ.out _ (nxt U V)).1⟩
  clear HV h0 hsp HS
  go_wp2_with (fail)
  generalize w1.alloc (.cells #[.int .i64 (s.ent : Int), .int .i64 (s.ret : Int), .int .u64 (s.o : Int), .int .u64 (s.k : Int), .bool sp] 50) = W0 at *
  have P0 := Below.refl W0.heap.size W0
  simp only [List.append]
  go_region_held3 (fun w' => w'.cell? ⟨xb, 0, none⟩ = some (.int .i64 (s.ent : Int)) ∧ w'.cell? ⟨xb, 1, none⟩ = some (.int .i64 (s.ret : Int)) ∧ w'.cell? ⟨xb, 2, none⟩ = some (.int .u64 (s.o : Int)) ∧ w'.cell? ⟨xb, 3, none⟩ = some (.int .u64 (s.k : Int)) ∧ w'.cell? ⟨xb, 4, none⟩ = some (.bool sp) ∧ w'.cell? ⟨gr, 0, none⟩ = some (.pointer (some ⟨gq, 0, none⟩)) ∧ w'.cell? ⟨gr, 1, none⟩ = some (.pointer (some ⟨gl, 0, none⟩)) ∧ w'.cell? ⟨gr, 3, none⟩ = some (.int .i64 (s.ent : Int)) ∧ w'.cell? ⟨gr, 4, none⟩ = some (.int .i64 (s.ret : Int)) ∧ w'.cell? ⟨gl, 0, none⟩ = some (.int .u64 (s.o : Int)) ∧ w'.cell? ⟨gl, 1, none⟩ = some (.int .u64 (s.k : Int)) ∧ w'.cell? ⟨gl, 2, none⟩ = some (.bool sp) ∧ w'.cell? ⟨gq, 1, none⟩ = some (Value.slice P N pc)) (first | exact K.out _ P0 | exact K.out _ P0.drew | exact K.out _ Z1 | exact K.out _ Z2)
    (first
      | (go_at_call 22; (with_reducible refine (HF.out _ (by first | exact U | exact U.drew)).mono ?_); rintro e w2 ⟨P2, m2, d2, rfl, rf2, V1⟩; have Z1 := nxt (by first | exact P0 | exact P0.drew) V1; have RF := Lib.hid rf2.rws; have V2 := nxt U Z1)
      | (go_at_call 38; (with_reducible refine (sameall_true _ _ _ _ _ _ s.ls _ RF.out (HQ.out _ V2).2).mono ?_); rintro e w3 ⟨rfl, V3⟩; have Z2 := nxt Z1 V3))
  all_goals
    go_wp2
    go_ret
    exact ⟨rfl, nxt U Z2⟩
end Go.Proofs.Ytpdnpfohcnpenaa
