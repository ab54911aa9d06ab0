/- Lists of window packets in memory: read, kept, of one's own, append of one; what kedgeref14.Same and SameAll answer of two that read alike. -/
import Derived.Test.YtpidbgnlehikeaaRecV
import Derived.Test.YtpidbgnlehikeaaResD
import Derived.Test.YtpidbgnlehikeaaSame
import Derived.Test.YtpidbgnlehikeaaPusM
import Derived.Deep.RegionHeld3
namespace Go.Proofs.Ytpidbgnlehikeaa
open Go.RowKit
set_option maxRecDepth 20000

def sldV (x : Sld) : Rcv := ([.bool x.1, .int .i64 x.2.1, .int .u64 (x.2.2.1 : Int)], x.2.2.2)
/-- the slice '.slice A n c' reads as the packets l; none of its memory lies at a block of Y -/
def Sls (w : World) (Y : Nat → Prop) (A : Option Addr) (n c : Nat) (l : List Sld) : Prop := RV w Y 4 A n c (l.map sldV)
section
variable {w w' : World} {Y Y' : Nat → Prop} {A : Option Addr} {n c : Nat} {l : List Sld}
theorem Sls.nil (w : World) (Y : Nat → Prop) : Sls w Y none 0 0 [] := RV.nil _ _ _ _ _ (Nat.zero_le _)
theorem Sls.len (h : Sls w Y A n c l) : l.length = n := by have := RV.len h; simpa using this
theorem Sls.below (h : Sls w Y A n c l) (T : Below w.heap.size w w') : Sls w' Y A n c l := RV.below h T
theorem Sls.off {X : Nat → Prop} (h : Sls w Y A n c l) (o : Off X w w') (hX : ∀ k, k < w.heap.size → X k → Y k) : Sls w' Y A n c l := RV.off h o hX
theorem Sls.imp (h : Sls w Y A n c l) (hY : ∀ k, k < w.heap.size → Y' k → Y k) : Sls w Y' A n c l := RV.imp h hY
theorem Sls.turn {X X' : Nat → Prop} (h : Sls w Y A n c l) (T : Turns X X' w w') (hX : ∀ k, k < w.heap.size → X k → Y k) : Sls w' (fun k => X' k ∨ Y k) A n c l := RV.turn h T hX
theorem Sls.at_ (h : Sls w Y A n c l) (hn : 0 < n) : ∃ b o, A = some ⟨b, o, none⟩ ∧ b < w.heap.size ∧ ∀ j (h : j < l.length), ∃ P d, (w.cell? ⟨b, o + j * 4, none⟩ = some (.bool l[j].1) ∧ w.cell? ⟨b, o + j * 4 + 1, none⟩ = some (.int .i64 l[j].2.1) ∧ w.cell? ⟨b, o + j * 4 + 2, none⟩ = some (.int .u64 (l[j].2.2.1 : Int)) ∧ w.cell? ⟨b, o + j * 4 + 3, none⟩ = some (.slice P l[j].2.2.2.length d)) ∧ Bys w P l[j].2.2.2.length d l[j].2.2.2 := by
  obtain ⟨b, o, e, hb, hc⟩ := RV.at_' h hn
  refine ⟨b, o, e, hb, fun j hj => ?_⟩
  obtain ⟨h3, P, d, h4, h5⟩ := hc j (by simpa using hj)
  simp only [List.getElem_map, sldV] at h3 h4 h5
  exact ⟨P, d, ⟨h3 0 (by simp), h3 1 (by simp), h3 2 (by simp), h4⟩, h5⟩
end
/-- a literal of one packet -/
theorem Sls.one {w : World} {Y : Nat → Prop} {P : Option Addr} {m d : Nat} {a : Bool} {s : Int} {u : Nat} {t : List UInt8} (hB : Bys w P m d t) (hP : Av Y m P) (hY : ¬ Y w.heap.size) :
    Sls (w.alloc (.cells #[.bool a, .int .i64 s, .int .u64 (u : Int), .slice P m d] 38)) Y (some ⟨w.heap.size, 0, none⟩) 1 1 [(a, s, u, t)] :=
  RV.one (ps := [.bool a, .int .i64 s, .int .u64 (u : Int)]) rfl (by intro x hx; simp at hx; rcases hx with rfl | rfl | rfl <;> rfl) hB hP hY
/-- packets in blocks of one's own, from B on; no Data of them lies at a block of Z -/
def OwnS (w : World) (B : Nat) (Z : Nat → Prop) (v : Value) (l : List Sld) : Prop := OwnV 38 4 w B Z v (l.map sldV)
theorem OwnS.nil (w : World) (B : Nat) (Z : Nat → Prop) : OwnS w B Z (.slice none 0 0) [] := OwnV.nil _ _ _
theorem OwnS.below {w w' : World} {B : Nat} {Z : Nat → Prop} {v : Value} {l : List Sld} (h : OwnS w B Z v l) (T : Below w.heap.size w w') : OwnS w' B Z v l := OwnV.below h T
theorem OwnS.off {X Z : Nat → Prop} {w w' : World} {B : Nat} {v : Value} {l : List Sld} (h : OwnS w B Z v l) (o : Off X w w') (hX : ∀ k, k < w.heap.size → X k → Z k) (hv : ∀ k, v.ownBlock = some k → ¬ X k) : OwnS w' B Z v l := OwnV.off h o hX hv
theorem OwnS.lt {w : World} {B : Nat} {Z : Nat → Prop} {v : Value} {l : List Sld} (h : OwnS w B Z v l) (k : Nat) (hk : v.ownBlock = some k) : B ≤ k ∧ k < w.heap.size := OwnV.lt h k hk
/-- .. as what is answered -/
theorem OwnS.sls {w : World} {B : Nat} {Z Y : Nat → Prop} {v : Value} {l : List Sld} (h : OwnS w B Z v l) (hY : ∀ k, k < w.heap.size → Y k → Z k) (hB : ∀ k, B ≤ k → ¬ Y k) : ∃ A c, v = .slice A l.length c ∧ Sls w Y A l.length c l := by
  obtain ⟨P, c, e, _, _, _, h2⟩ := OwnV.shape h
  have := h2 Y (fun k hk hy => .inl (hY k hk hy)) (fun k hk => hB k (OwnV.lt h k hk).1)
  rw [List.length_map] at e this
  exact ⟨P, c, e, this⟩
theorem Try.infoSl : (Try.prog.info? 38).map (fun i => (i.zero, i.size, i.bytes)) = some (some (.agg #[.bool false, .int .i64 0, .int .u64 0, .slice none 0 0]), 4, 48) := by kernel_rfl
theorem app_s {ops : Array Oper} {rest : List Oper} {o : Oper} {ac : Act} {Q : Exit → Act → World → Prop} (w : World) (hgd : o.guard = none) (x y : Operand)
    (ho : o.op = .call { callee := .builtin .append, args := #[x, y], argTypes := #[42, 42] })
    (B : Nat) (Z : Nat → Prop) (v : Value) (l : List Sld) (hx : ac.eval x = v) (hown : OwnS w B Z v l) (Z' : Nat → Prop) (P : Option Addr) (m c : Nat) (ms : List Sld) (hy : ac.eval y = .slice P m c) (hR : Sls w Z' P m c ms)
    (hlen : l.length + m ≤ 1099511627776) (hbase : B ≤ w.heap.size) (hZ : ∀ k, k < w.heap.size → Z k → Z' k) (hv' : ∀ k, v.ownBlock = some k → Z' k)
    (h : ∀ v' w', OwnS w' B Z v' (l ++ ms) → w.grownBy w' v.ownBlock → (v'.ownBlock = v.ownBlock ∨ v'.ownBlock = some w.heap.size) → wpList Try.prog ops Q rest (ac.put o.dst v') w') : wpList Try.prog ops Q (o :: rest) ac w :=
  app_rv Try.underlying42 Try.infoSl rfl (by decide) (by decide) w hgd x y ho B Z v (l.map sldV) hx hown Z' P m c (ms.map sldV) hy hR (by rw [List.length_map]; exact hlen) hbase hZ hv' (fun v' w' h1 h2 h3 => h v' w' (by unfold OwnS; rw [List.map_append]; exact h1) h2 h3)
set_option maxHeartbeats 4000000 in
theorem rsdsame_any (a : Bool) (s : Int) (u : Nat) (A : Option Addr) (n c : Nat) (d : List UInt8) (A' : Option Addr) (n' c' : Nat) (w : World) (hB : Bys w A n c d) (hB' : Bys w A' n' c' d) :
    Calls Try.prog 25 #[.agg #[.bool a, .int .i64 s, .int .u64 (u : Int), .slice A n c], .agg #[.bool a, .int .i64 s, .int .u64 (u : Int), .slice A' n' c']] w fun e w' => e = .returned (.bool true) ∧ Below w.heap.size w w' := by
  have T0 : Below w.heap.size w ((w.alloc (.cells #[.bool a, .int .i64 s, .int .u64 (u : Int), .slice A n c] 38)).alloc (.cells #[.bool a, .int .i64 s, .int .u64 (u : Int), .slice A' n' c'] 38)) := ((Below.refl _ w).alloc (Nat.le_refl _) _).alloc (by simp) _
  have e1 : (a == a) = true := by simp
  have e2 : (s == s) = true := by simp
  have e3 : ((u : Int) == (u : Int)) = true := by simp
  have HS := Lib.hid (fun W (h : Below w.heap.size w W) => same_any A A' n c n' c' d d W (hB.below h) (hB'.below h))
  have hr : sameB d d = true := by unfold sameB; simp
  rw [hr] at HS
  have HT := Lib.hid T0
  clear hB hB' hr T0
  go_enter Try.func25, Try.ntmps25
  go_wp2_with (fail)
  refine (HS.out _ HT.out).mono ?_
  rintro e w1 ⟨rfl, q, rfl⟩
  go_wp2
  go_ret
  exact ⟨rfl, below_drewN' HT.out _⟩
set_option maxHeartbeats 4000000 in
theorem rsameall14 (Y Y' : Nat → Prop) (A A' : Option Addr) (n c n' c' : Nat) (l : List Sld) (w : World) (h : Sls w Y A n c l) (h' : Sls w Y' A' n' c' l) :
    Calls Try.prog 11 #[.slice A n c, .slice A' n' c'] w fun e w' => e = .returned (.bool true) ∧ Below w.heap.size w w' := by
  obtain rfl : n' = n := h'.len.symm.trans h.len
  have hnc := h.2.1
  have hcm := h.2.2.1
  unfold maxLen at hcm
  have H1 := Lib.hid (fun W (U : Below w.heap.size w W) => h.below U)
  have H2 := Lib.hid (fun W (U : Below w.heap.size w W) => h'.below U)
  have HL := Lib.hid h.len
  have hne : ((n' : Int) != (n' : Int)) = false := by simp
  clear h h'
  go_enter Try.func11, Try.ntmps11
  go_wp2_with (fail)
  go_loopw [5] (fun k wr => ∃ j : Nat, j ≤ n' ∧ k = .int .i64 (j : Int) ∧ Below w.heap.size w wr) (fun k _ => n' - (intOf k).toNat)
  case atStart => exact ⟨0, Nat.zero_le _, rfl, Below.refl _ _⟩
  case round =>
    obtain ⟨j, hj, rfl, hbel⟩ := hrel
    by_cases hlt : j < n'
    · have d0 : decide ((j : Int) < (n' : Int)) = true := by simp; omega
      have hjn : (j : Int) < (n' : Int) := by omega
      have hjl : j < l.length := by rw [HL.out]; exact hlt
      obtain ⟨b1, o1, rfl, hb1, g1⟩ := (H1.out _ hbel).at_ (by omega)
      obtain ⟨b2, o2, rfl, hb2, g2⟩ := (H2.out _ hbel).at_ (by omega)
      obtain ⟨P1, d1, ⟨p0, p1, p2, p3⟩, pB⟩ := g1 j hjl
      obtain ⟨P2, d2, ⟨q0, q1, q2, q3⟩, qB⟩ := g2 j hjl
      generalize l[j] = x at *
      obtain ⟨xa, xs, xu, xt⟩ := x
      simp only at p0 p1 p2 p3 pB q0 q1 q2 q3 qB
      obtain ⟨m, hm⟩ : ∃ m, xt.length = m := ⟨_, rfl⟩
      rw [hm] at p3 pB q3 qB
      have HS := Lib.hid (fun W (U : Below wr.heap.size wr W) => rsdsame_any xa xs xu P1 m d1 xt P2 m d2 W (pB.below U) (qB.below U))
      clear hm pB qB g1 g2
      have P0 := Below.refl wr.heap.size wr
      have K : Hid (∀ W, Below wr.heap.size wr W → (W.cell? ⟨b1, o1 + j * 4, none⟩ = some (.bool xa) ∧ W.cell? ⟨b1, o1 + j * 4 + 1, none⟩ = some (.int .i64 xs) ∧ W.cell? ⟨b1, o1 + j * 4 + 2, none⟩ = some (.int .u64 (xu : Int)) ∧ W.cell? ⟨b1, o1 + j * 4 + 3, none⟩ = some (.slice P1 m d1)) ∧ W.cell? ⟨b2, o2 + j * 4, none⟩ = some (.bool xa) ∧ W.cell? ⟨b2, o2 + j * 4 + 1, none⟩ = some (.int .i64 xs) ∧ W.cell? ⟨b2, o2 + j * 4 + 2, none⟩ = some (.int .u64 (xu : Int)) ∧ W.cell? ⟨b2, o2 + j * 4 + 3, none⟩ = some (.slice P2 m d2)) := fun W U =>
        ⟨⟨(U.cell (p := ⟨b1, o1 + j * 4, none⟩) hb1).trans p0, (U.cell (p := ⟨b1, o1 + j * 4 + 1, none⟩) hb1).trans p1, (U.cell (p := ⟨b1, o1 + j * 4 + 2, none⟩) hb1).trans p2, (U.cell (p := ⟨b1, o1 + j * 4 + 3, none⟩) hb1).trans p3⟩, (U.cell (p := ⟨b2, o2 + j * 4, none⟩) hb2).trans q0, (U.cell (p := ⟨b2, o2 + j * 4 + 1, none⟩) hb2).trans q1, (U.cell (p := ⟨b2, o2 + j * 4 + 2, none⟩) hb2).trans q2, (U.cell (p := ⟨b2, o2 + j * 4 + 3, none⟩) hb2).trans q3⟩
      go_wp2_with (fail)
      clear p0 p1 p2 p3 q0 q1 q2 q3
      go_region_held3 (fun w' => (w'.cell? ⟨b1, o1 + j * 4, none⟩ = some (.bool xa) ∧ w'.cell? ⟨b1, o1 + j * 4 + 1, none⟩ = some (.int .i64 xs) ∧ w'.cell? ⟨b1, o1 + j * 4 + 2, none⟩ = some (.int .u64 (xu : Int)) ∧ w'.cell? ⟨b1, o1 + j * 4 + 3, none⟩ = some (Value.slice P1 m d1)) ∧ w'.cell? ⟨b2, o2 + j * 4, none⟩ = some (.bool xa) ∧ w'.cell? ⟨b2, o2 + j * 4 + 1, none⟩ = some (.int .i64 xs) ∧ w'.cell? ⟨b2, o2 + j * 4 + 2, none⟩ = some (.int .u64 (xu : Int)) ∧ w'.cell? ⟨b2, o2 + j * 4 + 3, none⟩ = some (Value.slice P2 m d2)) (first | exact K.out _ Z1 | exact K.out _ P0 | exact K.out _ P0.drew)
        (first
          | (go_at_call 25; (with_reducible refine (HS.out _ (by first | exact P0 | exact P0.drew)).mono ?_); rintro e z1 ⟨rfl, V1⟩; have Z1 := nxt (by first | exact P0 | exact P0.drew) V1))
      all_goals
        have Z2 := hbel.trans (Z1.mono hbel.size)
        go_wp2
        go_roundw
        case rel => exact ⟨j + 1, by omega, by go_num, Z2⟩
        case measure => simp [intOf]; omega
    · have d0 : decide ((j : Int) < (n' : Int)) = false := by simp; omega
      go_wp2
      go_ret
      exact ⟨rfl, hbel⟩
/-- packets that a call made so far: in memory that is new since w0, off the object's blocks X -/
def Out (w0 : World) (X : Nat → Prop) (v : Value) (l : List Sld) (w : World) : Prop := OwnS w w0.heap.size (fun k => k < w0.heap.size ∨ X k) v l ∧ ∀ k, v.ownBlock = some k → ¬ X k
section
variable {w0 w w1 : World} {X X' : Nat → Prop} {v : Value} {l : List Sld}
theorem Out.nil (w0 w : World) (X : Nat → Prop) : Out w0 X (.slice none 0 0) [] w := ⟨OwnS.nil _ _ _, fun k hk => by cases hk⟩
theorem Out.below (h : Out w0 X v l w) (T : Below w.heap.size w w1) : Out w0 X v l w1 := ⟨h.1.below T, h.2⟩
theorem Out.turn (h : Out w0 X v l w) (T : Turns X X' w w1) : Out w0 X' v l w1 := by
  have h1 : OwnS w w0.heap.size (fun k => (k < w0.heap.size ∨ X k) ∨ X' k) v l := OwnV.imp h.1 (fun k hk hz => by
    rcases hz with hz | hz
    · exact hz
    · rcases T.grow k hz with h | h
      · exact .inr h
      · omega)
  refine ⟨OwnV.imp (h1.off T.off (fun k _ hx => .inl (.inr hx)) h.2) (fun k _ hz => hz.elim (fun h => .inl (.inl h)) .inr), fun k hk hx => ?_⟩
  rcases T.grow k hx with h3 | h3
  · exact h.2 k hk h3
  · have := (h.1.lt k hk).2; omega
theorem Out.sls (h : Out w0 X v l w) : ∃ A c, v = .slice A l.length c ∧ Sls w (fun k => X k ∨ k < w0.heap.size) A l.length c l := by
  obtain ⟨P, c, e, _, _, _, h2⟩ := OwnV.shape h.1
  have := h2 (fun k => X k ∨ k < w0.heap.size) (fun k _ hz => .inl (hz.elim .inr .inl)) (fun k hk hz => by
    rcases hz with hz | hz
    · exact h.2 k hk hz
    · have := (OwnV.lt h.1 k hk).1; omega)
  rw [List.length_map] at e this
  exact ⟨P, c, e, this⟩
/-- one more -/
theorem Out.more {v' : Value} {x : Sld} {wb w2 : World} (h : Out w0 X v l w) (T : Below w.heap.size w wb) (hlt : ∀ k, X k → k < w.heap.size) (h2 : OwnS w2 w0.heap.size (fun k => k < w0.heap.size ∨ X k) v' (l ++ [x])) (hg : wb.grownBy w2 v.ownBlock) (hw : v'.ownBlock = v.ownBlock ∨ v'.ownBlock = some wb.heap.size) : Out w0 X v' (l ++ [x]) w2 ∧ Off (fun k => v.ownBlock = some k) w w2 := by
  refine ⟨⟨h2, fun k hk hx => ?_⟩, (Off.of_below T).grown hg (fun k hk => .inl hk)⟩
  rcases hw with hw | hw
  · exact h.2 k (hw ▸ hk) hx
  · rw [hw] at hk
    injection hk with hk
    have := hlt k hx
    have := T.size
    omega
end
theorem Out.base {w0 w1 w : World} {X : Nat → Prop} {v : Value} {l : List Sld} (h : Out w1 X v l w) (hs : w0.heap.size ≤ w1.heap.size) : Out w0 X v l w :=
  ⟨OwnV.imp (OwnV.down h.1 hs) (fun _ _ hz => hz.elim (fun h => .inl (Nat.lt_of_lt_of_le h hs)) .inr), h.2⟩
/-- a call's end that tells packets in new memory, and turns an object -/
def GivesSls (F : World → (Nat → Prop) → Prop) (X : Nat → Prop) (l : List Sld) (w : World) (e : Ending) (w' : World) : Prop := ∃ A n c X', e = .returned (.slice A n c) ∧ Sls w' (fun k => X' k ∨ k < w.heap.size) A n c l ∧ F w' X' ∧ Turns X X' w w'
end Go.Proofs.Ytpidbgnlehikeaa
