/- Slices of numbers of the kind uint64: read, the call's own row, append, in new memory that may be written. Nothing of the program's own functions is in here. -/
import Derived.Test.YtoajbocpebfjoaaVals
import Derived.Test.YtoajbocpebfjoaaObj
namespace Go.Proofs.Ytoajbocpebfjoaa
open Go.RowKit
set_option maxRecDepth 20000

def uvs (l : List Nat) : List Value := l.map fun k : Nat => Value.int .u64 (k : Int)
theorem uvs_append (l m : List Nat) : uvs (l ++ m) = uvs l ++ uvs m := by simp [uvs]
theorem uvs_len (l : List Nat) : (uvs l).length = l.length := by simp [uvs]
theorem uvs_get (l : List Nat) (j : Nat) (h : j < l.length) : (uvs l)[j]'(by simpa [uvs] using h) = .int .u64 (l[j] : Int) := by simp [uvs]
/-- the slice reads as the numbers l -/
abbrev Us (w : World) (A : Option Addr) (n c : Nat) (l : List Nat) : Prop := Vals w A n c (uvs l)
theorem Us.len {w : World} {A : Option Addr} {n c : Nat} {l : List Nat} (h : Us w A n c l) : l.length = n := by have := Vals.len h; simpa [uvs] using this
theorem Us.cell {w : World} {A : Option Addr} {n c : Nat} {l : List Nat} (h : Us w A n c l) (hn : 0 < n) : ∃ b o, A = some ⟨b, o, none⟩ ∧ b < w.heap.size ∧ ∀ j (h : j < l.length), w.cell? ⟨b, o + j, none⟩ = some (.int .u64 (l[j] : Int)) := by
  obtain ⟨b, o, e, hb, hc⟩ := Vals.at_ h hn
  refine ⟨b, o, e, hb, fun j hj => ?_⟩
  rw [hc j (by rw [uvs_len]; exact hj), uvs_get l j hj]
/-- the call's own row of numbers -/
def OwnU (w : World) (B : Nat) (v : Value) (l : List Nat) : Prop := w.ownsRow B 38 1 v l.length (uvs l)
theorem OwnU.nil (w : World) (B : Nat) : OwnU w B (.slice none 0 0) [] := ⟨rfl, .inl ⟨rfl, rfl⟩⟩
theorem OwnU.below {w w' : World} {B : Nat} {v : Value} {l : List Nat} (h : OwnU w B v l) (o : Below w.heap.size w w') : OwnU w' B v l := own_below h o
theorem OwnU.lt {w : World} {B : Nat} {v : Value} {l : List Nat} (h : OwnU w B v l) (k : Nat) (hk : v.ownBlock = some k) : B ≤ k ∧ k < w.heap.size := World.ownsRow.lt h k hk
theorem OwnU.off {X : Nat → Prop} {w w' : World} {B : Nat} {v : Value} {l : List Nat} (h : OwnU w B v l) (o : Off X w w') (hv : ∀ k, v.ownBlock = some k → ¬ X k) : OwnU w' B v l := own_block_off h o hv
theorem OwnU.down {w : World} {B B' : Nat} {v : Value} {l : List Nat} (h : OwnU w B v l) (hB : B' ≤ B) : OwnU w B' v l := ownsRow_down h hB
theorem OwnU.shape {w : World} {B : Nat} {v : Value} {l : List Nat} (h : OwnU w B v l) : ∃ A c, v = .slice A l.length c ∧ Us w A l.length c l ∧ (∀ b p, A = some p → v.ownBlock = some b → p.block = b) ∧ (0 < l.length → ∃ b, A = some ⟨b, 0, none⟩ ∧ v.ownBlock = some b) := by
  rcases h.2 with ⟨hv, hn⟩ | ⟨g, cap, cur, hv, hg, hh, hnc, hcm, hcs, ht⟩
  · have : l = [] := List.eq_nil_of_length_eq_zero hn
    subst this
    exact ⟨none, 0, hv, ⟨rfl, Nat.le_refl _, Nat.zero_le _, fun h => absurd h (by decide)⟩, (fun _ _ h => by cases h), fun h => absurd h (by decide)⟩
  · subst hv
    exact ⟨_, _, rfl, Vals.of_own h, fun b p h1 h2 => by injection h1 with h1; injection h2 with h2; subst h1; exact h2, fun _ => ⟨g, rfl, rfl⟩⟩
/-- numbers in memory of their own, at no block of Y, that may be written -/
def UFre (w : World) (Y : Nat → Prop) (A : Option Addr) (n c : Nat) (l : List Nat) : Prop :=
  Us w A n c l ∧ Av Y n A ∧ (0 < n → ∃ b o, A = some ⟨b, o, none⟩ ∧ ∀ j, j < n → w.frozen? ⟨b, o + j, none⟩ = false)
theorem UFre.of_own {w : World} {B : Nat} {A : Option Addr} {n c : Nat} {l : List Nat} (h : w.ownsRow B 38 1 (.slice A n c) n (uvs l)) : UFre w (· < B) A n c l := by
  refine ⟨Vals.of_own h, own_fr h, fun hn => ?_⟩
  rcases h.2 with ⟨hv, h0⟩ | ⟨g, cap, cur, hv, hg, hh, hr⟩
  · omega
  · injection hv with h1 h2 h3
    subst h1; subst h3
    exact ⟨g, 0, rfl, fun j _ => frozen_of_row _ _ _ _ _ hh⟩
theorem Try.infoU : (Try.prog.info? 38).map (fun i => (i.zero, i.size, i.bytes)) = some (some (.int .u64 0), 1, 8) := by kernel_rfl
theorem empty_rowu (w : World) : OwnU (w.alloc (.cells #[] 38)) w.heap.size (.slice (some ⟨w.heap.size, 0, none⟩) 0 0) [] := World.ownsRow_made w #[] 0 (Nat.le_refl _) (Nat.zero_le _) rfl
theorem run_append_u (w : World) (B : Nat) (v : Value) (l : List Nat) (hown : OwnU w B v l) (P : Option Addr) (m c : Nat) (ms : List Nat) (hR : Us w P m c ms) (hlen : l.length + m ≤ 17592186044416) (hbase : B ≤ w.heap.size) (ty : TypeId) :
    ∃ v' w', (Builtin.append_ #[22, 22] ty #[v, .slice P m c]).run Try.prog w = .ok v' w' ∧ OwnU w' B v' (l ++ ms) ∧ w.grownBy w' v.ownBlock ∧ (v'.ownBlock = v.ownBlock ∨ v'.ownBlock = some w.heap.size) := by
  obtain ⟨i0, hi, hz0, hz1, hz2⟩ := info_parts Try.infoU
  have hml : ms.length = m := hR.len
  rcases Nat.eq_zero_or_pos m with h0 | h0
  · subst h0
    have : ms = [] := List.eq_nil_of_length_eq_zero hml
    subst this
    rcases P with _ | ad
    · refine ⟨v, w, ?_, by simpa using hown, World.grownBy.refl w _, .inl rfl⟩
      rcases hown.2 with ⟨rfl, hn⟩ | ⟨g, cap, cur, rfl, _, _, hnc, _⟩
      · simp [Builtin.append_, run_underlying Try.underlying22, sizeOf, typeInfo, hi, Builtin.lenOf, Builtin.firstCells]
      · simp [Builtin.append_, run_underlying Try.underlying22, sizeOf, typeInfo, hi, Builtin.lenOf, Builtin.firstCells, hnc, storeCells]
    · obtain ⟨v', w', hrun, h2, h3, _, h5⟩ := run_append_own_at (P := Try.prog) w B 22 ty 38 i0 (.int .u64 0) 1 8 Try.underlying22 hi hz0 hz1 hz2 rfl (by decide) v l.length (uvs l) hown ad 0 c [] rfl (by simp) (by simp) (by unfold maxLen; omega) (by omega) hbase
      exact ⟨v', w', hrun, by simpa [OwnU] using h2, h3, h5⟩
  · obtain ⟨b, o, rfl, _, hc⟩ := hR.cell h0
    have hcells : ∀ j u, (uvs ms)[j]? = some u → w.cell? ((⟨b, o, none⟩ : Addr).add j) = some u := by
      intro j u hu
      obtain ⟨hj, hu⟩ := List.getElem?_eq_some_iff.1 hu
      subst hu
      rw [uvs_len] at hj
      have := hc j hj
      rw [uvs_get ms j hj]
      have e : (⟨b, o, none⟩ : Addr).add j = ⟨b, o + j, none⟩ := by unfold Addr.add; split <;> simp_all
      rw [e]
      exact this
    obtain ⟨v', w', hrun, h2, h3, _, h5⟩ := run_append_own_at (P := Try.prog) w B 22 ty 38 i0 (.int .u64 0) 1 8 Try.underlying22 hi hz0 hz1 hz2 rfl (by decide) v l.length (uvs l) hown _ m c (uvs ms) (by rw [uvs_len]; omega) hcells (by intro u hu; simp only [uvs, List.mem_map] at hu; obtain ⟨k, _, rfl⟩ := hu; rfl) (by unfold maxLen; omega) (by omega) hbase
    refine ⟨v', w', hrun, ?_, h3, h5⟩
    unfold OwnU
    rw [uvs_append, List.length_append, hml]
    exact h2
/-- 'append(s, x...)', s a row of one's own -/
theorem app_u {ops : Array Oper} {rest : List Oper} {o : Oper} {a : Act} {Q : Exit → Act → World → Prop} (w : World) (hgd : o.guard = none) (s x : Operand)
    (ho : o.op = .call { callee := .builtin .append, args := #[s, x], argTypes := #[22, 22] })
    (B : Nat) (v : Value) (l : List Nat) (hs : a.eval s = v) (hown : OwnU w B v l) (P : Option Addr) (m c : Nat) (ms : List Nat) (hx : a.eval x = .slice P m c) (hR : Us w P m c ms) (hlen : l.length + m ≤ 17592186044416) (hbase : B ≤ w.heap.size)
    (h : ∀ v' w', OwnU w' B v' (l ++ ms) → w.grownBy w' v.ownBlock → (v'.ownBlock = v.ownBlock ∨ v'.ownBlock = some w.heap.size) → wpList Try.prog ops Q rest (a.put o.dst v') w') : wpList Try.prog ops Q (o :: rest) a w := by
  refine wpList_plain hgd fun K hK => ?_
  obtain ⟨v', w', hrun, h2, h3, h4⟩ := run_append_u w B v l hown P m c ms hR hlen hbase o.type
  unfold Oper.wp execOp
  simp only [ho, resolve, invoke, builtin, Sem.run_bind, Sem.run_pure, Result.andThen_ok, List.map_toArray, List.map_cons, List.map_nil, hs, hx, hrun]
  exact hK _ _ (h v' w' h2 h3 h4)
/-- the same at a step of a region that draws its order -/
theorem step_u {ops : Array Oper} {o : Oper} {a : Act} {K : Act → World → Prop} {Q : Exit → Act → World → Prop} {E : Prop} (w : World) (hgd : o.guard = none) (s x : Operand)
    (ho : o.op = .call { callee := .builtin .append, args := #[s, x], argTypes := #[22, 22] })
    (B : Nat) (v : Value) (l : List Nat) (hs : a.eval s = v) (hown : OwnU w B v l) (P : Option Addr) (m c : Nat) (ms : List Nat) (hx : a.eval x = .slice P m c) (hR : Us w P m c ms) (hlen : l.length + m ≤ 17592186044416) (hbase : B ≤ w.heap.size)
    (h : ∀ v' w', OwnU w' B v' (l ++ ms) → w.grownBy w' v.ownBlock → (v'.ownBlock = v.ownBlock ∨ v'.ownBlock = some w.heap.size) → K (a.put o.dst v') w') :
    if Region.wanted o (yielded ops a.tmps) = true then Oper.wp Try.prog o a w K Q else E := by
  have hw : Region.wanted o (yielded ops a.tmps) = true := by simp [Region.wanted, hgd]
  rw [if_pos hw]
  obtain ⟨v', w', hrun, h2, h3, h4⟩ := run_append_u w B v l hown P m c ms hR hlen hbase o.type
  unfold Oper.wp execOp
  simp only [ho, resolve, invoke, builtin, Sem.run_bind, Sem.run_pure, Result.andThen_ok, List.map_toArray, List.map_cons, List.map_nil, hs, hx, hrun]
  exact h v' w' h2 h3 h4
/-- a literal of one number -/
theorem Us.lit1 (w : World) (x : Nat) : Us (w.alloc (.cells #[.int .u64 (x : Int)] 38)) (some ⟨w.heap.size, 0, none⟩) 1 1 [x] :=
  ⟨rfl, Nat.le_refl _, by unfold maxLen; omega, fun _ => ⟨w.heap.size, 0, rfl, by simp, fun j hj => by
    match j, hj with
    | 0, _ => simp [uvs]⟩⟩
theorem Us.litz (w : World) (x : Nat) (z : Int) (hz : (x : Int) = z) : Us (w.alloc (.cells #[.int .u64 z] 38)) (some ⟨w.heap.size, 0, none⟩) 1 1 [x] := by
  subst hz
  exact Us.lit1 w x
end Go.Proofs.Ytoajbocpebfjoaa
