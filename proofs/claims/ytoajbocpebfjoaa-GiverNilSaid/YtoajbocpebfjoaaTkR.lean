/- Lists of handshake packets (tokens) in memory: read, kept, of one's own, append of one; what kedgeref15.Same and SameAll answer of two that read alike. -/
import Derived.Test.YtoajbocpebfjoaaRecV
import Derived.Test.YtoajbocpebfjoaaResD
import Derived.Test.YtoajbocpebfjoaaSame
import Derived.Deep.RegionHeld3
namespace Go.Proofs.Ytoajbocpebfjoaa
open Go.RowKit
set_option maxRecDepth 20000

/-- a token: its kind, T, C, R, the message -/
abbrev Tok := Int × Nat × Nat × Nat × List UInt8
def tokV (x : Tok) : Rcv := ([.int .i64 x.1, .int .u64 (x.2.1 : Int), .int .u64 (x.2.2.1 : Int), .int .u64 (x.2.2.2.1 : Int)], x.2.2.2.2)
/-- the slice '.slice A n c' reads as the packets l; none of its memory lies at a block of Y -/
def Tks (w : World) (Y : Nat → Prop) (A : Option Addr) (n c : Nat) (l : List Tok) : Prop := RV w Y 5 A n c (l.map tokV)
section
variable {w w' : World} {Y Y' : Nat → Prop} {A : Option Addr} {n c : Nat} {l : List Tok}
theorem Tks.nil (w : World) (Y : Nat → Prop) : Tks w Y none 0 0 [] := RV.nil _ _ _ _ _ (Nat.zero_le _)
theorem Tks.len (h : Tks w Y A n c l) : l.length = n := by have := RV.len h; simpa using this
theorem Tks.below (h : Tks w Y A n c l) (T : Below w.heap.size w w') : Tks w' Y A n c l := RV.below h T
theorem Tks.off {X : Nat → Prop} (h : Tks w Y A n c l) (o : Off X w w') (hX : ∀ k, k < w.heap.size → X k → Y k) : Tks w' Y A n c l := RV.off h o hX
theorem Tks.imp (h : Tks w Y A n c l) (hY : ∀ k, k < w.heap.size → Y' k → Y k) : Tks w Y' A n c l := RV.imp h hY
theorem Tks.turn {X X' : Nat → Prop} (h : Tks w Y A n c l) (T : Turns X X' w w') (hX : ∀ k, k < w.heap.size → X k → Y k) : Tks w' (fun k => X' k ∨ Y k) A n c l := RV.turn h T hX
theorem Tks.at_ (h : Tks w Y A n c l) (hn : 0 < n) : ∃ b o, A = some ⟨b, o, none⟩ ∧ b < w.heap.size ∧ ∀ j (h : j < l.length), ∃ P d, (w.cell? ⟨b, o + j * 5, none⟩ = some (.int .i64 l[j].1) ∧ w.cell? ⟨b, o + j * 5 + 1, none⟩ = some (.int .u64 (l[j].2.1 : Int)) ∧ w.cell? ⟨b, o + j * 5 + 2, none⟩ = some (.int .u64 (l[j].2.2.1 : Int)) ∧ w.cell? ⟨b, o + j * 5 + 3, none⟩ = some (.int .u64 (l[j].2.2.2.1 : Int)) ∧ w.cell? ⟨b, o + j * 5 + 4, none⟩ = some (.slice P l[j].2.2.2.2.length d)) ∧ Bys w P l[j].2.2.2.2.length d l[j].2.2.2.2 := by
  obtain ⟨b, o, e, hb, hc⟩ := RV.at_' h hn
  refine ⟨b, o, e, hb, fun j hj => ?_⟩
  obtain ⟨h3, P, d, h4, h5⟩ := hc j (by simpa using hj)
  simp only [List.getElem_map, tokV] at h3 h4 h5
  exact ⟨P, d, ⟨h3 0 (by simp), h3 1 (by simp), h3 2 (by simp), h3 3 (by simp), h4⟩, h5⟩
end
/-- a literal of one packet -/
theorem Tks.one {w : World} {Y : Nat → Prop} {P : Option Addr} {m d : Nat} {k : Int} {x y z : Nat} {t : List UInt8} (hB : Bys w P m d t) (hP : Av Y m P) (hY : ¬ Y w.heap.size) :
    Tks (w.alloc (.cells #[.int .i64 k, .int .u64 (x : Int), .int .u64 (y : Int), .int .u64 (z : Int), .slice P m d] 41)) Y (some ⟨w.heap.size, 0, none⟩) 1 1 [(k, x, y, z, t)] :=
  RV.one (ps := [.int .i64 k, .int .u64 (x : Int), .int .u64 (y : Int), .int .u64 (z : Int)]) rfl (by intro u hx; simp at hx; rcases hx with rfl | rfl | rfl | rfl <;> rfl) hB hP hY
/-- packets in blocks of one's own, from B on; no Data of them lies at a block of Z -/
def OwnTk (w : World) (B : Nat) (Z : Nat → Prop) (v : Value) (l : List Tok) : Prop := OwnV 41 5 w B Z v (l.map tokV)
theorem OwnTk.nil (w : World) (B : Nat) (Z : Nat → Prop) : OwnTk w B Z (.slice none 0 0) [] := OwnV.nil _ _ _
theorem OwnTk.below {w w' : World} {B : Nat} {Z : Nat → Prop} {v : Value} {l : List Tok} (h : OwnTk w B Z v l) (T : Below w.heap.size w w') : OwnTk w' B Z v l := OwnV.below h T
theorem OwnTk.off {X Z : Nat → Prop} {w w' : World} {B : Nat} {v : Value} {l : List Tok} (h : OwnTk w B Z v l) (o : Off X w w') (hX : ∀ k, k < w.heap.size → X k → Z k) (hv : ∀ k, v.ownBlock = some k → ¬ X k) : OwnTk w' B Z v l := OwnV.off h o hX hv
theorem OwnTk.lt {w : World} {B : Nat} {Z : Nat → Prop} {v : Value} {l : List Tok} (h : OwnTk w B Z v l) (k : Nat) (hk : v.ownBlock = some k) : B ≤ k ∧ k < w.heap.size := OwnV.lt h k hk
/-- .. as what is answered -/
theorem OwnTk.tks {w : World} {B : Nat} {Z Y : Nat → Prop} {v : Value} {l : List Tok} (h : OwnTk w B Z v l) (hY : ∀ k, k < w.heap.size → Y k → Z k) (hB : ∀ k, B ≤ k → ¬ Y k) : ∃ A c, v = .slice A l.length c ∧ Tks w Y A l.length c l := by
  obtain ⟨P, c, e, _, _, _, h2⟩ := OwnV.shape h
  have := h2 Y (fun k hk hy => .inl (hY k hk hy)) (fun k hk => hB k (OwnV.lt h k hk).1)
  rw [List.length_map] at e this
  exact ⟨P, c, e, this⟩
theorem Try.infoTk : (Try.prog.info? 41).map (fun i => (i.zero, i.size, i.bytes)) = some (some (.agg #[.int .i64 0, .int .u64 0, .int .u64 0, .int .u64 0, .slice none 0 0]), 5, 56) := by kernel_rfl
theorem app_tk {ops : Array Oper} {rest : List Oper} {o : Oper} {ac : Act} {Q : Exit → Act → World → Prop} (w : World) (hgd : o.guard = none) (x y : Operand)
    (ho : o.op = .call { callee := .builtin .append, args := #[x, y], argTypes := #[45, 45] })
    (B : Nat) (Z : Nat → Prop) (v : Value) (l : List Tok) (hx : ac.eval x = v) (hown : OwnTk w B Z v l) (Z' : Nat → Prop) (P : Option Addr) (m c : Nat) (ms : List Tok) (hy : ac.eval y = .slice P m c) (hR : Tks w Z' P m c ms)
    (hlen : l.length + m ≤ 1099511627776) (hbase : B ≤ w.heap.size) (hZ : ∀ k, k < w.heap.size → Z k → Z' k) (hv' : ∀ k, v.ownBlock = some k → Z' k)
    (h : ∀ v' w', OwnTk w' B Z v' (l ++ ms) → w.grownBy w' v.ownBlock → (v'.ownBlock = v.ownBlock ∨ v'.ownBlock = some w.heap.size) → wpList Try.prog ops Q rest (ac.put o.dst v') w') : wpList Try.prog ops Q (o :: rest) ac w :=
  app_rv Try.underlying45 Try.infoTk rfl (by decide) (by decide) w hgd x y ho B Z v (l.map tokV) hx hown Z' P m c (ms.map tokV) hy hR (by rw [List.length_map]; exact hlen) hbase hZ hv' (fun v' w' h1 h2 h3 => h v' w' (by unfold OwnTk; rw [List.map_append]; exact h1) h2 h3)
set_option maxHeartbeats 4000000 in
theorem rtksame15 (k : Int) (x y z : Nat) (A : Option Addr) (n c : Nat) (d : List UInt8) (A' : Option Addr) (n' c' : Nat) (w : World) (hB : Bys w A n c d) (hB' : Bys w A' n' c' d) :
    Calls Try.prog 29 #[.agg #[.int .i64 k, .int .u64 (x : Int), .int .u64 (y : Int), .int .u64 (z : Int), .slice A n c], .agg #[.int .i64 k, .int .u64 (x : Int), .int .u64 (y : Int), .int .u64 (z : Int), .slice A' n' c']] w fun e w' => e = .returned (.bool true) ∧ Below w.heap.size w w' := by
  have T0 : Below w.heap.size w ((w.alloc (.cells #[.int .i64 k, .int .u64 (x : Int), .int .u64 (y : Int), .int .u64 (z : Int), .slice A n c] 41)).alloc (.cells #[.int .i64 k, .int .u64 (x : Int), .int .u64 (y : Int), .int .u64 (z : Int), .slice A' n' c'] 41)) := ((Below.refl _ w).alloc (Nat.le_refl _) _).alloc (by simp) _
  have e1 : (k == k) = true := by simp
  have e2 : ((x : Int) == (x : Int)) = true := by simp
  have e3 : ((y : Int) == (y : Int)) = true := by simp
  have e4 : ((z : Int) == (z : Int)) = true := by simp
  have HS := Lib.hid (fun W (h : Below w.heap.size w W) => same_any A A' n c n' c' d d W (hB.below h) (hB'.below h))
  have hr : sameB d d = true := by unfold sameB; simp
  rw [hr] at HS
  have HT := Lib.hid T0
  clear hB hB' hr T0
  go_enter Try.func29, Try.ntmps29
  go_wp2_with (fail)
  refine (HS.out _ HT.out).mono ?_
  rintro e w1 ⟨rfl, q, rfl⟩
  go_wp2
  go_ret
  exact ⟨rfl, below_drewN' HT.out _⟩
set_option maxHeartbeats 4000000 in
theorem rsameall15 (Y Y' : Nat → Prop) (A A' : Option Addr) (n c n' c' : Nat) (l : List Tok) (w : World) (h : Tks w Y A n c l) (h' : Tks w Y' A' n' c' l) :
    Calls Try.prog 13 #[.slice A n c, .slice A' n' c'] w fun e w' => e = .returned (.bool true) ∧ Below w.heap.size w w' := by
  obtain rfl : n' = n := h'.len.symm.trans h.len
  have hnc := h.2.1
  have hcm := h.2.2.1
  unfold maxLen at hcm
  have H1 := Lib.hid (fun W (U : Below w.heap.size w W) => h.below U)
  have H2 := Lib.hid (fun W (U : Below w.heap.size w W) => h'.below U)
  have HL := Lib.hid h.len
  have hne : ((n' : Int) != (n' : Int)) = false := by simp
  clear h h'
  go_enter Try.func13, Try.ntmps13
  go_wp2_with (fail)
  go_loopw [5] (fun k wr => ∃ j : Nat, j ≤ n' ∧ k = .int .i64 (j : Int) ∧ Below w.heap.size w wr) (fun k _ => n' - (intOf k).toNat)
  case atStart => exact ⟨0, Nat.zero_le _, rfl, Below.refl _ _⟩
  case round =>
    obtain ⟨j, hj, rfl, hbel⟩ := hrel
    by_cases hlt : j < n'
    · have d0 : decide ((j : Int) < (n' : Int)) = true := by simp; omega
      have hjn : (j : Int) < (n' : Int) := by omega
      have hjl : j < l.length := by rw [HL.out]; exact hlt
      obtain ⟨b1, o1, rfl, hb1, g1⟩ := (H1.out _ hbel).at_ (by omega)
      obtain ⟨b2, o2, rfl, hb2, g2⟩ := (H2.out _ hbel).at_ (by omega)
      obtain ⟨P1, d1, ⟨p0, p1, p2, p3, p4⟩, pB⟩ := g1 j hjl
      obtain ⟨P2, d2, ⟨q0, q1, q2, q3, q4⟩, qB⟩ := g2 j hjl
      generalize l[j] = x at *
      obtain ⟨xk, xa, xb, xc, xt⟩ := x
      simp only at p0 p1 p2 p3 p4 pB q0 q1 q2 q3 q4 qB
      obtain ⟨m, hm⟩ : ∃ m, xt.length = m := ⟨_, rfl⟩
      rw [hm] at p4 pB q4 qB
      have HS := Lib.hid (fun W (U : Below wr.heap.size wr W) => rtksame15 xk xa xb xc P1 m d1 xt P2 m d2 W (pB.below U) (qB.below U))
      clear hm pB qB g1 g2
      have P0 := Below.refl wr.heap.size wr
      have K : Hid (∀ W, Below wr.heap.size wr W → (W.cell? ⟨b1, o1 + j * 5, none⟩ = some (.int .i64 xk) ∧ W.cell? ⟨b1, o1 + j * 5 + 1, none⟩ = some (.int .u64 (xa : Int)) ∧ W.cell? ⟨b1, o1 + j * 5 + 2, none⟩ = some (.int .u64 (xb : Int)) ∧ W.cell? ⟨b1, o1 + j * 5 + 3, none⟩ = some (.int .u64 (xc : Int)) ∧ W.cell? ⟨b1, o1 + j * 5 + 4, none⟩ = some (.slice P1 m d1)) ∧ W.cell? ⟨b2, o2 + j * 5, none⟩ = some (.int .i64 xk) ∧ W.cell? ⟨b2, o2 + j * 5 + 1, none⟩ = some (.int .u64 (xa : Int)) ∧ W.cell? ⟨b2, o2 + j * 5 + 2, none⟩ = some (.int .u64 (xb : Int)) ∧ W.cell? ⟨b2, o2 + j * 5 + 3, none⟩ = some (.int .u64 (xc : Int)) ∧ W.cell? ⟨b2, o2 + j * 5 + 4, none⟩ = some (.slice P2 m d2)) := fun W U =>
        ⟨⟨(U.cell (p := ⟨b1, o1 + j * 5, none⟩) hb1).trans p0, (U.cell (p := ⟨b1, o1 + j * 5 + 1, none⟩) hb1).trans p1, (U.cell (p := ⟨b1, o1 + j * 5 + 2, none⟩) hb1).trans p2, (U.cell (p := ⟨b1, o1 + j * 5 + 3, none⟩) hb1).trans p3, (U.cell (p := ⟨b1, o1 + j * 5 + 4, none⟩) hb1).trans p4⟩, ⟨(U.cell (p := ⟨b2, o2 + j * 5, none⟩) hb2).trans q0, (U.cell (p := ⟨b2, o2 + j * 5 + 1, none⟩) hb2).trans q1, (U.cell (p := ⟨b2, o2 + j * 5 + 2, none⟩) hb2).trans q2, (U.cell (p := ⟨b2, o2 + j * 5 + 3, none⟩) hb2).trans q3, (U.cell (p := ⟨b2, o2 + j * 5 + 4, none⟩) hb2).trans q4⟩⟩
      go_wp2_with (fail)
      clear p0 p1 p2 p3 p4 q0 q1 q2 q3 q4
      go_region_held3 (fun w' => (w'.cell? ⟨b1, o1 + j * 5, none⟩ = some (.int .i64 xk) ∧ w'.cell? ⟨b1, o1 + j * 5 + 1, none⟩ = some (.int .u64 (xa : Int)) ∧ w'.cell? ⟨b1, o1 + j * 5 + 2, none⟩ = some (.int .u64 (xb : Int)) ∧ w'.cell? ⟨b1, o1 + j * 5 + 3, none⟩ = some (.int .u64 (xc : Int)) ∧ w'.cell? ⟨b1, o1 + j * 5 + 4, none⟩ = some (Value.slice P1 m d1)) ∧ w'.cell? ⟨b2, o2 + j * 5, none⟩ = some (.int .i64 xk) ∧ w'.cell? ⟨b2, o2 + j * 5 + 1, none⟩ = some (.int .u64 (xa : Int)) ∧ w'.cell? ⟨b2, o2 + j * 5 + 2, none⟩ = some (.int .u64 (xb : Int)) ∧ w'.cell? ⟨b2, o2 + j * 5 + 3, none⟩ = some (.int .u64 (xc : Int)) ∧ w'.cell? ⟨b2, o2 + j * 5 + 4, none⟩ = some (Value.slice P2 m d2)) (first | exact K.out _ Z1 | exact K.out _ P0 | exact K.out _ P0.drew)
        (first
          | (go_at_call 29; (with_reducible refine (HS.out _ (by first | exact P0 | exact P0.drew)).mono ?_); rintro e z1 ⟨rfl, V1⟩; have Z1 := nxt (by first | exact P0 | exact P0.drew) V1))
      all_goals
        have Z2 := hbel.trans (Z1.mono hbel.size)
        go_wp2
        go_roundw
        case rel => exact ⟨j + 1, by omega, by go_num, Z2⟩
        case measure => simp [intOf]; omega
    · have d0 : decide ((j : Int) < (n' : Int)) = false := by simp; omega
      go_wp2
      go_ret
      exact ⟨rfl, hbel⟩
/-- packets told of an object: they avoid it and all that was there -/
def GivesTks (F : World → (Nat → Prop) → Prop) (X : Nat → Prop) (l : List Tok) (w : World) (e : Ending) (w' : World) : Prop := ∃ A n c X', e = .returned (.slice A n c) ∧ Tks w' (fun k => X' k ∨ k < w.heap.size) A n c l ∧ F w' X' ∧ Turns X X' w w'
end Go.Proofs.Ytoajbocpebfjoaa
