/- Lists of probe packets in memory: read, kept, made by a literal of one; what kedgeref13.SameAll answers of two that read alike. -/
import Derived.Test.YtpdnpfohcnpenaaObj
import Derived.Test.YtpdnpfohcnpenaaRpr4
namespace Go.Proofs.Ytpdnpfohcnpenaa
open Go.RowKit
set_option maxRecDepth 20000

abbrev Pkt := Int × Int × List UInt8
/-- the slice '.slice A n c' reads as the packets l; none of its memory lies at a block of Y -/
def Pks (w : World) (Y : Nat → Prop) (A : Option Addr) (n c : Nat) (l : List Pkt) : Prop :=
  l.length = n ∧ n ≤ c ∧ c ≤ maxLen ∧ Av Y n A ∧ (0 < n → ∃ b o, A = some ⟨b, o, none⟩ ∧ b < w.heap.size ∧ ∀ j (h : j < l.length), ∃ P d, w.cell? ⟨b, o + j * 3, none⟩ = some (.int .i64 l[j].1) ∧ w.cell? ⟨b, o + j * 3 + 1, none⟩ = some (.int .i64 l[j].2.1) ∧ w.cell? ⟨b, o + j * 3 + 2, none⟩ = some (.slice P l[j].2.2.length d) ∧ Bys w P l[j].2.2.length d l[j].2.2 ∧ Av Y l[j].2.2.length P)
theorem Pks.nil (w : World) (Y : Nat → Prop) : Pks w Y none 0 0 [] := ⟨rfl, Nat.le_refl _, Nat.zero_le _, Av.none _ _, fun h => absurd h (by omega)⟩
theorem Pks.len {w : World} {Y : Nat → Prop} {A : Option Addr} {n c : Nat} {l : List Pkt} (h : Pks w Y A n c l) : l.length = n := h.1
theorem Bys.off_lt {X Y : Nat → Prop} {w w' : World} {A : Option Addr} {n c : Nat} {l : List UInt8} (h : Bys w A n c l) (hA : Av Y n A) (o : Off X w w') (hX : ∀ k, k < w.heap.size → X k → Y k) : Bys w' A n c l :=
  h.off (fun hn p e hx => by
    obtain ⟨b, of, e', hb, _⟩ := h.at_ hn
    rw [e] at e'
    injection e' with e'
    subst e'
    exact hA hn _ e (hX _ hb hx)) o
theorem Pks.off {X Y : Nat → Prop} {w w' : World} {A : Option Addr} {n c : Nat} {l : List Pkt} (h : Pks w Y A n c l) (o : Off X w w') (hX : ∀ k, k < w.heap.size → X k → Y k) : Pks w' Y A n c l :=
  ⟨h.1, h.2.1, h.2.2.1, h.2.2.2.1, fun hn => by
    obtain ⟨b, of, rfl, hb, hc⟩ := h.2.2.2.2 hn
    have hbY : ¬ X b := fun hx => h.2.2.2.1 hn _ rfl (hX b hb hx)
    refine ⟨b, of, rfl, Nat.lt_of_lt_of_le hb o.size, fun j hj => ?_⟩
    obtain ⟨P, d, h1, h2, h3, h4, h5⟩ := hc j hj
    exact ⟨P, d, (o.cell (p := ⟨b, of + j * 3, none⟩) hb hbY).trans h1, (o.cell (p := ⟨b, of + j * 3 + 1, none⟩) hb hbY).trans h2, (o.cell (p := ⟨b, of + j * 3 + 2, none⟩) hb hbY).trans h3, h4.off_lt h5 o hX, h5⟩⟩
theorem Pks.below {Y : Nat → Prop} {w w' : World} {A : Option Addr} {n c : Nat} {l : List Pkt} (h : Pks w Y A n c l) (T : Below w.heap.size w w') : Pks w' Y A n c l := h.off (X := fun _ => False) (Off.of_below T) (fun _ _ h => h.elim)
theorem Pks.imp {Y Y' : Nat → Prop} {w : World} {A : Option Addr} {n c : Nat} {l : List Pkt} (h : Pks w Y A n c l) (hY : ∀ k, k < w.heap.size → Y' k → Y k) : Pks w Y' A n c l := by
  obtain ⟨h1, h2, h3, h4, h5⟩ := h
  refine ⟨h1, h2, h3, fun hn p e hy => ?_, fun hn => ?_⟩
  · obtain ⟨b, of, e', hb, _⟩ := h5 hn
    rw [e] at e'
    injection e' with e'
    subst e'
    exact h4 hn _ e (hY _ hb hy)
  · obtain ⟨b, of, e, hb, hc⟩ := h5 hn
    refine ⟨b, of, e, hb, fun j hj => ?_⟩
    obtain ⟨P, d, k1, k2, k3, k4, k5⟩ := hc j hj
    refine ⟨P, d, k1, k2, k3, k4, fun hn p e hy => ?_⟩
    obtain ⟨b', of', e', hb', _⟩ := k4.at_ hn
    rw [e] at e'
    injection e' with e'
    subst e'
    exact k5 hn _ e (hY _ hb' hy)
/-- .. while an object is turned -/
theorem Pks.turn {X X' Y : Nat → Prop} {w w' : World} {A : Option Addr} {n c : Nat} {l : List Pkt} (h : Pks w Y A n c l) (T : Turns X X' w w') (hX : ∀ k, k < w.heap.size → X k → Y k) : Pks w' (fun k => X' k ∨ Y k) A n c l := by
  have h1 := (h.imp (Y' := fun k => Y k ∨ w.heap.size ≤ k) (fun k hk hx => hx.elim id (fun e => by omega))).off T.off (fun k hk hx => .inl (hX k hk hx))
  refine h1.imp (fun k _ hx => ?_)
  rcases hx with hx | hx
  · rcases T.grow k hx with h2 | h2
    · rcases Nat.lt_or_ge k w.heap.size with h3 | h3
      · exact .inl (hX k h3 h2)
      · exact .inr h3
    · exact .inr h2
  · exact .inl hx
/-- a literal of one packet -/
theorem Pks.one {w : World} {Y : Nat → Prop} {P : Option Addr} {m d : Nat} {k lb : Int} {t : List UInt8} (hB : Bys w P m d t) (hP : Av Y m P) (hY : ¬ Y w.heap.size) :
    Pks (w.alloc (.cells #[.int .i64 k, .int .i64 lb, .slice P m d] 36)) Y (some ⟨w.heap.size, 0, none⟩) 1 1 [(k, lb, t)] := by
  have hl := hB.len
  refine ⟨rfl, Nat.le_refl _, by unfold maxLen; omega, Av.of hY, fun _ => ⟨w.heap.size, 0, rfl, by simp, fun j hj => ?_⟩⟩
  match j, hj with
  | 0, _ =>
    have h0 := heap_alloc_new w (.cells #[.int .i64 k, .int .i64 lb, .slice P m d] 36)
    obtain ⟨c0, c1, c2, -, -, -⟩ := row3 h0
    refine ⟨P, d, c0, c1, ?_, ?_, ?_⟩
    · show _ = some (Value.slice P t.length d)
      rw [hl]
      exact c2
    · show Bys _ P t.length d t
      rw [hl]
      exact hB.alloc _
    · show Av Y t.length P
      rw [hl]
      exact hP
/-- two lists that read alike -/
theorem rsameall13 (Y Y' : Nat → Prop) (A A' : Option Addr) (n c n' c' : Nat) (l : List Pkt) (w : World) (h : Pks w Y A n c l) (h' : Pks w Y' A' n' c' l) :
    Calls Try.prog 12 #[.slice A n c, .slice A' n' c'] w fun e w' => e = .returned (.bool true) ∧ Below w.heap.size w w' := by
  obtain rfl : n' = n := h'.1.symm.trans h.1
  have hl := h.1
  have hnc := h.2.1
  have hcm := h.2.2.1
  unfold maxLen at hcm
  have H1 := Lib.hid (fun W (U : Below w.heap.size w W) => h.below U)
  have H2 := Lib.hid (fun W (U : Below w.heap.size w W) => h'.below U)
  have HL := Lib.hid hl
  have hne : ((n' : Int) != (n' : Int)) = false := by simp
  clear h h' hl
  go_enter Try.func12, Try.ntmps12
  go_wp2_with (fail)
  go_loopw [5] (fun k wr => ∃ j : Nat, j ≤ n' ∧ k = .int .i64 (j : Int) ∧ Below w.heap.size w wr) (fun k _ => n' - (intOf k).toNat)
  case atStart => exact ⟨0, Nat.zero_le _, rfl, Below.refl _ _⟩
  case round =>
    obtain ⟨j, hj, rfl, hbel⟩ := hrel
    by_cases hlt : j < n'
    · have d0 : decide ((j : Int) < (n' : Int)) = true := by simp; omega
      have hjn : (j : Int) < (n' : Int) := by omega
      have hjl : j < l.length := by rw [HL.out]; exact hlt
      obtain ⟨b1, o1, rfl, hb1, g1⟩ := (H1.out _ hbel).2.2.2.2 (by omega)
      obtain ⟨b2, o2, rfl, hb2, g2⟩ := (H2.out _ hbel).2.2.2.2 (by omega)
      obtain ⟨P1, d1, p0, p1, p2, pB, -⟩ := g1 j hjl
      obtain ⟨P2, d2, q0, q1, q2, qB, -⟩ := g2 j hjl
      generalize l[j] = x at *
      obtain ⟨xk, xl, xt⟩ := x
      simp only at p0 p1 p2 pB q0 q1 q2 qB
      obtain ⟨m, hm⟩ : ∃ m, xt.length = m := ⟨_, rfl⟩
      rw [hm] at p2 pB q2 qB
      have HS := Lib.hid (fun W (U : Below wr.heap.size wr W) => rpsame_any xk xl P1 m d1 xt xk xl P2 m d2 xt W (pB.below U) (qB.below U))
      have hsm : prSame xk xl xt xk xl xt = true := by unfold prSame; simp
      rw [hsm] at HS
      clear hm hsm pB qB g1 g2
      have P0 := Below.refl wr.heap.size wr
      have K : Hid (∀ W, Below wr.heap.size wr W → (W.cell? ⟨b1, o1 + j * 3, none⟩ = some (.int .i64 xk) ∧ W.cell? ⟨b1, o1 + j * 3 + 1, none⟩ = some (.int .i64 xl) ∧ W.cell? ⟨b1, o1 + j * 3 + 2, none⟩ = some (.slice P1 m d1)) ∧ W.cell? ⟨b2, o2 + j * 3, none⟩ = some (.int .i64 xk) ∧ W.cell? ⟨b2, o2 + j * 3 + 1, none⟩ = some (.int .i64 xl) ∧ W.cell? ⟨b2, o2 + j * 3 + 2, none⟩ = some (.slice P2 m d2)) := fun W U =>
        ⟨⟨(U.cell (p := ⟨b1, o1 + j * 3, none⟩) hb1).trans p0, (U.cell (p := ⟨b1, o1 + j * 3 + 1, none⟩) hb1).trans p1, (U.cell (p := ⟨b1, o1 + j * 3 + 2, none⟩) hb1).trans p2⟩, (U.cell (p := ⟨b2, o2 + j * 3, none⟩) hb2).trans q0, (U.cell (p := ⟨b2, o2 + j * 3 + 1, none⟩) hb2).trans q1, (U.cell (p := ⟨b2, o2 + j * 3 + 2, none⟩) hb2).trans q2⟩
      go_wp2_with (fail)
      clear p0 p1 p2 q0 q1 q2
      go_region_held3 (fun w' => (w'.cell? ⟨b1, o1 + j * 3, none⟩ = some (.int .i64 xk) ∧ w'.cell? ⟨b1, o1 + j * 3 + 1, none⟩ = some (.int .i64 xl) ∧ w'.cell? ⟨b1, o1 + j * 3 + 2, none⟩ = some (Value.slice P1 m d1)) ∧ w'.cell? ⟨b2, o2 + j * 3, none⟩ = some (.int .i64 xk) ∧ w'.cell? ⟨b2, o2 + j * 3 + 1, none⟩ = some (.int .i64 xl) ∧ w'.cell? ⟨b2, o2 + j * 3 + 2, none⟩ = some (Value.slice P2 m d2)) (first | exact K.out _ Z1 | exact K.out _ P0 | exact K.out _ P0.drew)
        (first
          | (go_at_call 28; (with_reducible refine (HS.out _ (by first | exact P0 | exact P0.drew)).mono ?_); rintro e z1 ⟨rfl, V1⟩; have Z1 := nxt (by first | exact P0 | exact P0.drew) V1))
      all_goals
        have Z2 := hbel.trans (Z1.mono hbel.size)
        go_wp2
        go_roundw
        case rel => exact ⟨j + 1, by omega, by go_num, Z2⟩
        case measure => simp [intOf]; omega
    · have d0 : decide ((j : Int) < (n' : Int)) = false := by simp; omega
      go_wp2
      go_ret
      exact ⟨rfl, hbel⟩
end Go.Proofs.Ytpdnpfohcnpenaa
