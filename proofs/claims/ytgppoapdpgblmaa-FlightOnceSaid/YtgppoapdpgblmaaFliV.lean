/- A row of frames of one's own (a number and two texts each): read, append, one stored. Nothing of the program's own functions is in here. -/
import Derived.Test.YtgppoapdpgblmaaObj
namespace Go.Proofs.Ytgppoapdpgblmaa
open Go.RowKit
set_option maxRecDepth 20000

abbrev Frm := Nat × List UInt8 × List UInt8
abbrev Fam := Nat × Value × Value
def fvs (l : List Fam) : List Value := l.flatMap fun t => [.int .i64 (t.1 : Int), t.2.1, t.2.2]
theorem fvs_append (l m : List Fam) : fvs (l ++ m) = fvs l ++ fvs m := by simp [fvs]
theorem fvs_len (l : List Fam) : (fvs l).length = l.length * 3 := by
  induction l with
  | nil => rfl
  | cons t l ih =>
    have : fvs (t :: l) = [.int .i64 (t.1 : Int), t.2.1, t.2.2] ++ fvs l := by simp [fvs]
    rw [this]; simp; omega
def fld (t : Fam) (r : Nat) : Value := if r = 0 then .int .i64 (t.1 : Int) else if r = 1 then t.2.1 else t.2.2
theorem fvs_at (l : List Fam) (j r : Nat) (hj : j < l.length) (hr : r < 3) : (fvs l)[j * 3 + r]? = some (fld l[j] r) := by
  induction l generalizing j with
  | nil => simp at hj
  | cons t l ih =>
    have e : fvs (t :: l) = [.int .i64 (t.1 : Int), t.2.1, t.2.2] ++ fvs l := by simp [fvs]
    rw [e]
    match j, hj with
    | 0, _ =>
      match r, hr with
      | 0, _ => simp [fld]
      | 1, _ => simp [fld]
      | 2, _ => simp [fld]
    | j + 1, hj =>
      rw [List.getElem?_append_right (by simp; omega)]
      have := ih j (by simp at hj; omega)
      rw [show (j + 1) * 3 + r - [Value.int .i64 (t.1 : Int), t.2.1, t.2.2].length = j * 3 + r by simp; omega]
      simpa using this
theorem fvs_set (l : List Fam) (j : Nat) (hj : j < l.length) (x : Fam) : (((fvs l).set (j * 3) (.int .i64 (x.1 : Int))).set (j * 3 + 1) x.2.1).set (j * 3 + 2) x.2.2 = fvs (l.set j x) := by
  apply List.ext_getElem?
  intro i
  by_cases hi : i < l.length * 3
  · obtain ⟨p, q, rfl, hq⟩ : ∃ p q, i = p * 3 + q ∧ q < 3 := ⟨i / 3, i % 3, by omega, by omega⟩
    have hp : p < l.length := by omega
    rw [fvs_at (l.set j x) p q (by simpa using hp) hq]
    have hfl := fvs_len l
    by_cases e : p = j
    · subst e
      have : q = 0 ∨ q = 1 ∨ q = 2 := by omega
      rcases this with rfl | rfl | rfl
      · rw [List.getElem?_set_ne (by omega), List.getElem?_set_ne (by omega), Nat.add_zero, List.getElem?_set_self (by omega)]
        simp [fld]
      · rw [List.getElem?_set_ne (by omega), List.getElem?_set_self (by simp; omega)]
        simp [fld]
      · rw [List.getElem?_set_self (by simp; omega)]
        simp [fld]
    · rw [List.getElem?_set_ne (by omega), List.getElem?_set_ne (by omega), List.getElem?_set_ne (by omega), fvs_at l p q hp hq]
      simp [Ne.symm e]
  · rw [List.getElem?_eq_none (by simp [fvs_len]; omega), List.getElem?_eq_none (by rw [fvs_len]; simp; omega)]
/-- a value that is a text, at no block of Y -/
def Tx (w : World) (Y : Nat → Prop) (t : List UInt8) (v : Value) : Prop := ∃ A d, v = .slice A t.length d ∧ Bys w A t.length d t ∧ Av Y t.length A
theorem Tx.imp {w : World} {Y Y' : Nat → Prop} {t : List UInt8} {v : Value} (h : Tx w Y t v) (hY : ∀ k, k < w.heap.size → Y' k → Y k) : Tx w Y' t v := by
  obtain ⟨A, d, h3, h4, h5⟩ := h
  refine ⟨A, d, h3, h4, fun hn p e hy => ?_⟩
  obtain ⟨b, o, e', hb, _⟩ := h4.at_ hn
  rw [e] at e'
  injection e' with e'
  subst e'
  exact h5 hn _ e (hY _ hb hy)
theorem Tx.off {X Y : Nat → Prop} {w w' : World} {t : List UInt8} {v : Value} (h : Tx w Y t v) (o : Off X w w') (hX : ∀ k, k < w.heap.size → X k → Y k) : Tx w' Y t v := by
  obtain ⟨A, d, h3, h4, h5⟩ := h
  refine ⟨A, d, h3, h4.off (fun hn p e hx => ?_) o, h5⟩
  obtain ⟨b, o', e', hb, _⟩ := h4.at_ hn
  rw [e] at e'
  injection e' with e'
  subst e'
  exact h5 hn _ e (hX _ hb hx)
theorem Tx.below {Y : Nat → Prop} {w w' : World} {t : List UInt8} {v : Value} (h : Tx w Y t v) (T : Below w.heap.size w w') : Tx w' Y t v := h.off (X := fun _ => False) (Off.of_below T) (fun _ _ h => h.elim)
theorem Tx.drew {Y : Nat → Prop} {w : World} {t : List UInt8} {v : Value} (h : Tx w Y t v) : Tx w.drew Y t v := h
/-- what lies below a new world's size avoids what is new -/
theorem Tx.old {X Y : Nat → Prop} {w w' : World} {t : List UInt8} {v : Value} (h : Tx w Y t v) (o : Off X w w') (hX : ∀ k, k < w.heap.size → X k → Y k) : Tx w' (fun k => Y k ∨ w.heap.size ≤ k) t v := by
  have h2 := h.imp (Y' := fun k => Y k ∨ w.heap.size ≤ k) (fun k hk hy => hy.elim id (fun h => by omega))
  exact h2.off o (fun k hk hx => .inl (hX k hk hx))
theorem Tx.fre {w : World} {Y : Nat → Prop} {A : Option Addr} {n c : Nat} {t : List UInt8} (h : Fre w Y A n c t) : Tx w Y t (.slice A n c) := by
  obtain rfl : t.length = n := h.1.len
  exact ⟨A, c, rfl, h.1, h.2.1⟩
def Frow (w : World) (Y : Nat → Prop) (m : Fam) (t : Frm) : Prop := m.1 = t.1 ∧ Tx w Y t.2.1 m.2.1 ∧ Tx w Y t.2.2 m.2.2
def Frows (w : World) (Y : Nat → Prop) (ms : List Fam) (l : List Frm) : Prop := ms.length = l.length ∧ ∀ j (h : j < ms.length) (h' : j < l.length), Frow w Y ms[j] l[j]
theorem Frow.imp {w : World} {Y Y' : Nat → Prop} {m : Fam} {t : Frm} (h : Frow w Y m t) (hY : ∀ k, k < w.heap.size → Y' k → Y k) : Frow w Y' m t := ⟨h.1, h.2.1.imp hY, h.2.2.imp hY⟩
theorem Frow.off {X Y : Nat → Prop} {w w' : World} {m : Fam} {t : Frm} (h : Frow w Y m t) (o : Off X w w') (hX : ∀ k, k < w.heap.size → X k → Y k) : Frow w' Y m t := ⟨h.1, h.2.1.off o hX, h.2.2.off o hX⟩
theorem Frows.imp {w : World} {Y Y' : Nat → Prop} {ms : List Fam} {l : List Frm} (h : Frows w Y ms l) (hY : ∀ k, k < w.heap.size → Y' k → Y k) : Frows w Y' ms l := ⟨h.1, fun j h1 h2 => (h.2 j h1 h2).imp hY⟩
theorem Frows.off {X Y : Nat → Prop} {w w' : World} {ms : List Fam} {l : List Frm} (h : Frows w Y ms l) (o : Off X w w') (hX : ∀ k, k < w.heap.size → X k → Y k) : Frows w' Y ms l := ⟨h.1, fun j h1 h2 => (h.2 j h1 h2).off o hX⟩
theorem Frows.nil (w : World) (Y : Nat → Prop) : Frows w Y [] [] := ⟨rfl, fun j h => absurd h (by simp)⟩
theorem Frows.snoc {w : World} {Y : Nat → Prop} {ms : List Fam} {l : List Frm} {m : Fam} {t : Frm} (h : Frows w Y ms l) (k : Frow w Y m t) : Frows w Y (ms ++ [m]) (l ++ [t]) := by
  refine ⟨by simp [h.1], fun j h1 h2 => ?_⟩
  have hl := h.1
  rcases Nat.lt_or_ge j ms.length with hj | hj
  · rw [List.getElem_append_left hj, List.getElem_append_left (by omega)]
    exact h.2 j hj (by omega)
  · have hj1 : j = ms.length := by simp at h1; omega
    subst hj1
    simpa [h.1] using k
theorem Frows.set {w : World} {Y : Nat → Prop} {ms : List Fam} {l : List Frm} (h : Frows w Y ms l) (j : Nat) {m : Fam} {t : Frm} (k : Frow w Y m t) : Frows w Y (ms.set j m) (l.set j t) := by
  refine ⟨by simp [h.1], fun i h1 h2 => ?_⟩
  by_cases e : j = i
  · subst e
    simp only [List.getElem_set_self]
    exact k
  · rw [List.getElem_set_ne e, List.getElem_set_ne e]
    exact h.2 i (by simpa using h1) (by simpa using h2)
/-- frames in blocks of one's own, from B on; no text of them lies at a block of Z -/
def OwnF (w : World) (B : Nat) (Z : Nat → Prop) (v : Value) (l : List Frm) : Prop := ∃ ms, w.ownsRow B 40 3 v l.length (fvs ms) ∧ Frows w (fun k => Z k ∨ v.ownBlock = some k) ms l
theorem OwnF.nil (w : World) (B : Nat) (Z : Nat → Prop) : OwnF w B Z (.slice none 0 0) [] := ⟨[], ⟨rfl, .inl ⟨rfl, rfl⟩⟩, Frows.nil _ _⟩
theorem OwnF.lt {w : World} {B : Nat} {Z : Nat → Prop} {v : Value} {l : List Frm} (h : OwnF w B Z v l) (k : Nat) (hk : v.ownBlock = some k) : B ≤ k ∧ k < w.heap.size := by
  obtain ⟨ms, h1, _⟩ := h
  exact h1.lt k hk
theorem OwnF.off {X Z : Nat → Prop} {w w' : World} {B : Nat} {v : Value} {l : List Frm} (h : OwnF w B Z v l) (o : Off X w w') (hX : ∀ k, k < w.heap.size → X k → Z k) (hv : ∀ k, v.ownBlock = some k → ¬ X k) : OwnF w' B Z v l := by
  obtain ⟨ms, h1, h2⟩ := h
  refine ⟨ms, ⟨h1.1, ?_⟩, h2.off o (fun k hk hx => .inl (hX k hk hx))⟩
  rcases h1.2 with h3 | ⟨g, cap, cur, rfl, hg, hh, r⟩
  · exact Or.inl h3
  · refine Or.inr ⟨g, cap, cur, rfl, hg, ?_, r⟩
    rw [o.block g (lt_of_block hh) (hv g rfl)]
    exact hh
theorem OwnF.below {Z : Nat → Prop} {w w' : World} {B : Nat} {v : Value} {l : List Frm} (h : OwnF w B Z v l) (T : Below w.heap.size w w') : OwnF w' B Z v l := h.off (X := fun _ => False) (Off.of_below T) (fun _ _ h => h.elim) (fun _ _ h => h)
theorem OwnF.imp {w : World} {B : Nat} {Z Z' : Nat → Prop} {v : Value} {l : List Frm} (h : OwnF w B Z v l) (hZ : ∀ k, k < w.heap.size → Z' k → Z k) : OwnF w B Z' v l := by
  obtain ⟨ms, h1, h2⟩ := h
  exact ⟨ms, h1, h2.imp (fun k hk hx => hx.elim (fun h => .inl (hZ k hk h)) .inr)⟩
theorem OwnF.down {w : World} {B B' : Nat} {Z : Nat → Prop} {v : Value} {l : List Frm} (h : OwnF w B Z v l) (hB : B' ≤ B) : OwnF w B' Z v l := by
  obtain ⟨ms, h1, h2⟩ := h
  exact ⟨ms, h1.mono hB, h2⟩
/-- the frames as a slice that reads -/
theorem OwnF.shape {w : World} {B : Nat} {Z : Nat → Prop} {v : Value} {l : List Frm} (h : OwnF w B Z v l) : ∃ P c, v = .slice P l.length c ∧ l.length ≤ c ∧ c ≤ maxLen ∧ (0 < l.length → ∃ b, P = some ⟨b, 0, none⟩ ∧ v.ownBlock = some b ∧ b < w.heap.size ∧ (∀ r, w.frozen? ⟨b, r, none⟩ = false) ∧
      ∀ j (h : j < l.length), ∃ u1 u2, w.cell? ⟨b, j * 3, none⟩ = some (.int .i64 (l[j].1 : Int)) ∧ w.cell? ⟨b, j * 3 + 1, none⟩ = some u1 ∧ w.cell? ⟨b, j * 3 + 2, none⟩ = some u2 ∧ Tx w (fun k => Z k ∨ k = b) l[j].2.1 u1 ∧ Tx w (fun k => Z k ∨ k = b) l[j].2.2 u2) := by
  obtain ⟨ms, h1, h2⟩ := h
  rcases h1.2 with ⟨hv, hn⟩ | ⟨g, cap, cur, hv, hg, hh, hnc, hcm, hcs, ht⟩
  · have : l = [] := List.eq_nil_of_length_eq_zero hn
    subst this
    exact ⟨none, 0, hv, Nat.le_refl _, Nat.zero_le _, fun h => absurd h (by simp)⟩
  · subst hv
    refine ⟨_, _, rfl, hnc, hcm, fun _ => ⟨g, rfl, rfl, lt_of_block hh, fun r => World.ownsRow.frozenAt h1 r, fun j hj => ?_⟩⟩
    have hjm : j < ms.length := by rw [h2.1]; exact hj
    have c := fun r (hr : r < 3) => (World.ownsRow.cellAt h1 (j * 3 + r) (by omega)).trans (fvs_at ms j r hjm hr)
    have c0 := c 0 (by omega)
    have c1 := c 1 (by omega)
    have c2 := c 2 (by omega)
    obtain ⟨e1, e2, e3⟩ := h2.2 j hjm hj
    have c0 : w.cell? ⟨g, j * 3, none⟩ = some (.int .i64 (ms[j].1 : Int)) := by simpa [fld] using c0
    have c1 : w.cell? ⟨g, j * 3 + 1, none⟩ = some ms[j].2.1 := by simpa [fld] using c1
    have c2 : w.cell? ⟨g, j * 3 + 2, none⟩ = some ms[j].2.2 := by simpa [fld] using c2
    rw [e1] at c0
    have hz : ∀ k, Z k ∨ k = g → Z k ∨ (Value.slice (some ⟨g, 0, none⟩) l.length cap).ownBlock = some k := fun k hk => hk.imp id (fun e => by rw [e]; rfl)
    exact ⟨_, _, c0, c1, c2, e2.imp (fun k _ => hz k), e3.imp (fun k _ => hz k)⟩
theorem Try.infoF : (Try.prog.info? 40).map (fun i => (i.zero, i.size, i.bytes)) = some (some (.agg #[.int .i64 0, .slice none 0 0, .slice none 0 0]), 3, 56) := by kernel_rfl
theorem tx_one {w : World} {Y : Nat → Prop} {t : List UInt8} {v : Value} (h : Tx w Y t v) : v.oneCell' = true := by
  obtain ⟨A, d, rfl, _⟩ := h
  rfl
/-- append of one frame that a literal holds -/
theorem run_append_f (w : World) (B : Nat) (Z : Nat → Prop) (v : Value) (l : List Frm) (hown : OwnF w B Z v l) (Z' : Nat → Prop) (g : Nat) (f : Frm) (u1 u2 : Value)
    (hg : w.heap[g]? = some (.cells #[.int .i64 (f.1 : Int), u1, u2] 40 (0, 0))) (h1 : Tx w Z' f.2.1 u1) (h2 : Tx w Z' f.2.2 u2)
    (hlen : l.length + 1 ≤ 1099511627776) (hbase : B ≤ w.heap.size) (hZ : ∀ k, k < w.heap.size → Z k → Z' k) (hv' : ∀ k, v.ownBlock = some k → Z' k) (ty : TypeId) :
    ∃ v' w', (Builtin.append_ #[57, 57] ty #[v, .slice (some ⟨g, 0, none⟩) 1 1]).run Try.prog w = .ok v' w' ∧ OwnF w' B Z v' (l ++ [f]) ∧ w.grownBy w' v.ownBlock ∧ (v'.ownBlock = v.ownBlock ∨ v'.ownBlock = some w.heap.size) := by
  obtain ⟨i0, hi, hz0, hz1, hz2⟩ := info_parts Try.infoF
  obtain ⟨ms, hown, hms⟩ := hown
  have hcells : ∀ j u, (fvs [(f.1, u1, u2)])[j]? = some u → w.cell? ((⟨g, 0, none⟩ : Addr).add j) = some u := by
    intro j u hu
    have e : (⟨g, 0, none⟩ : Addr).add j = ⟨g, j, none⟩ := by unfold Addr.add; split <;> simp_all
    rw [e, cell_of_row _ _ _ _ _ _ hg]
    simpa [fvs] using hu
  have hone1 := tx_one h1
  have hone2 := tx_one h2
  obtain ⟨v', w', hrun, k2, k3, _, k5⟩ := run_append_own_at (P := Try.prog) w B 57 ty 40 i0 (.agg #[.int .i64 0, .slice none 0 0, .slice none 0 0]) 3 56 Try.underlying57 hi hz0 hz1 hz2 rfl (by decide) v l.length (fvs ms) hown _ 1 1 (fvs [(f.1, u1, u2)]) rfl hcells
    (by intro u hu; simp [fvs] at hu; rcases hu with rfl | rfl | rfl; exact rfl; exact hone1; exact hone2) (by unfold maxLen; omega) (by omega) hbase
  refine ⟨v', w', hrun, ⟨ms ++ [(f.1, u1, u2)], by rw [List.length_append, fvs_append]; exact k2, ?_⟩, k3, k5⟩
  have o : Off (fun k => v.ownBlock = some k) w w' := (Off.refl _ w).grown k3 (fun k hk => .inl hk)
  have hlt : ∀ k, v.ownBlock = some k → k < w.heap.size := fun k hk => (hown.lt k hk).2
  -- texts avoid Z, the old row's block, and whatever is new
  have old : Frows w (fun k => (Z k ∨ v.ownBlock = some k) ∨ w.heap.size ≤ k) ms l := hms.imp (fun k hk hx => hx.elim id (fun h => by omega))
  have new : Frow w (fun k => (Z k ∨ v.ownBlock = some k) ∨ w.heap.size ≤ k) (f.1, u1, u2) f := by
    have e : ∀ k, k < w.heap.size → ((Z k ∨ v.ownBlock = some k) ∨ w.heap.size ≤ k) → Z' k := fun k hk hx => by
      rcases hx with (hx | hx) | hx
      · exact hZ k hk hx
      · exact hv' k hx
      · omega
    exact ⟨rfl, h1.imp e, h2.imp e⟩
  have all := (old.snoc new).off o (fun k _ hx => .inl (.inr hx))
  refine ⟨all.1, fun j h1 h2 => ?_⟩
  have hw : ∀ k, k < w'.heap.size → (Z k ∨ v'.ownBlock = some k) → (Z k ∨ v.ownBlock = some k) ∨ w.heap.size ≤ k := fun k _ hx => by
    rcases hx with hx | hx
    · exact .inl (.inl hx)
    · rcases k5 with h | h
      · exact .inl (.inr (h ▸ hx))
      · rw [h] at hx; injection hx with hx; exact .inr (by omega)
  exact (all.2 j h1 h2).imp hw
theorem app_f {ops : Array Oper} {rest : List Oper} {o : Oper} {ac : Act} {Q : Exit → Act → World → Prop} (w : World) (hgd : o.guard = none) (s x : Operand)
    (ho : o.op = .call { callee := .builtin .append, args := #[s, x], argTypes := #[57, 57] })
    (B : Nat) (Z : Nat → Prop) (v : Value) (l : List Frm) (hs : ac.eval s = v) (hown : OwnF w B Z v l) (Z' : Nat → Prop) (g : Nat) (f : Frm) (u1 u2 : Value) (hx : ac.eval x = .slice (some ⟨g, 0, none⟩) 1 1)
    (hg : w.heap[g]? = some (.cells #[.int .i64 (f.1 : Int), u1, u2] 40 (0, 0))) (h1 : Tx w Z' f.2.1 u1) (h2 : Tx w Z' f.2.2 u2)
    (hlen : l.length + 1 ≤ 1099511627776) (hbase : B ≤ w.heap.size) (hZ : ∀ k, k < w.heap.size → Z k → Z' k) (hv' : ∀ k, v.ownBlock = some k → Z' k)
    (h : ∀ v' w', OwnF w' B Z v' (l ++ [f]) → w.grownBy w' v.ownBlock → (v'.ownBlock = v.ownBlock ∨ v'.ownBlock = some w.heap.size) → wpList Try.prog ops Q rest (ac.put o.dst v') w') : wpList Try.prog ops Q (o :: rest) ac w := by
  refine wpList_plain hgd fun K hK => ?_
  obtain ⟨v', w', hrun, k2, k3, k4⟩ := run_append_f w B Z v l hown Z' g f u1 u2 hg h1 h2 hlen hbase hZ hv' o.type
  unfold Oper.wp execOp
  simp only [ho, resolve, invoke, builtin, Sem.run_bind, Sem.run_pure, Result.andThen_ok, List.map_toArray, List.map_cons, List.map_nil, hs, hx, hrun]
  exact hK _ _ (h v' w' k2 k3 k4)
theorem step_f {ops : Array Oper} {o : Oper} {ac : Act} {K : Act → World → Prop} {Q : Exit → Act → World → Prop} {E : Prop} (w : World) (hgd : o.guard = none) (s x : Operand)
    (ho : o.op = .call { callee := .builtin .append, args := #[s, x], argTypes := #[57, 57] })
    (B : Nat) (Z : Nat → Prop) (v : Value) (l : List Frm) (hs : ac.eval s = v) (hown : OwnF w B Z v l) (Z' : Nat → Prop) (g : Nat) (f : Frm) (u1 u2 : Value) (hx : ac.eval x = .slice (some ⟨g, 0, none⟩) 1 1)
    (hg : w.heap[g]? = some (.cells #[.int .i64 (f.1 : Int), u1, u2] 40 (0, 0))) (h1 : Tx w Z' f.2.1 u1) (h2 : Tx w Z' f.2.2 u2)
    (hlen : l.length + 1 ≤ 1099511627776) (hbase : B ≤ w.heap.size) (hZ : ∀ k, k < w.heap.size → Z k → Z' k) (hv' : ∀ k, v.ownBlock = some k → Z' k)
    (h : ∀ v' w', OwnF w' B Z v' (l ++ [f]) → w.grownBy w' v.ownBlock → (v'.ownBlock = v.ownBlock ∨ v'.ownBlock = some w.heap.size) → K (ac.put o.dst v') w') :
    if Region.wanted o (yielded ops ac.tmps) = true then Oper.wp Try.prog o ac w K Q else E := by
  have hw : Region.wanted o (yielded ops ac.tmps) = true := by simp [Region.wanted, hgd]
  rw [if_pos hw]
  obtain ⟨v', w', hrun, k2, k3, k4⟩ := run_append_f w B Z v l hown Z' g f u1 u2 hg h1 h2 hlen hbase hZ hv' o.type
  unfold Oper.wp execOp
  simp only [ho, resolve, invoke, builtin, Sem.run_bind, Sem.run_pure, Result.andThen_ok, List.map_toArray, List.map_cons, List.map_nil, hs, hx, hrun]
  exact h v' w' k2 k3 k4
/-- a frame stored -/
theorem OwnF.stored {w : World} {B g n c j : Nat} {Z : Nat → Prop} {l : List Frm} (h : OwnF w B Z (.slice (some ⟨g, 0, none⟩) n c) l) (hn : l.length = n) (hj : j < l.length) (f : Frm) (u1 u2 : Value)
    (h1 : Tx w (fun k => Z k ∨ k = g) f.2.1 u1) (h2 : Tx w (fun k => Z k ∨ k = g) f.2.2 u2) :
    OwnF (((w.setCell ⟨g, j * 3, none⟩ (.int .i64 (f.1 : Int))).setCell ⟨g, j * 3 + 1, none⟩ u1).setCell ⟨g, j * 3 + 2, none⟩ u2) B Z (.slice (some ⟨g, 0, none⟩) n c) (l.set j f) := by
  obtain ⟨ms, k1, k2⟩ := h
  have hjm : j < ms.length := by rw [k2.1]; exact hj
  have k3 := (World.ownsRow.stored (hn ▸ k1) (j * 3) (.int .i64 (f.1 : Int))).1
  have k4 := (World.ownsRow.stored k3 (j * 3 + 1) u1).1
  have k5 := (World.ownsRow.stored k4 (j * 3 + 2) u2).1
  have e := fvs_set ms j hjm (f.1, u1, u2)
  simp only at e
  rw [e] at k5
  refine ⟨ms.set j (f.1, u1, u2), by rw [List.length_set, hn]; exact k5, ?_⟩
  have o : Off (· = g) w (((w.setCell ⟨g, j * 3, none⟩ (.int .i64 (f.1 : Int))).setCell ⟨g, j * 3 + 1, none⟩ u1).setCell ⟨g, j * 3 + 2, none⟩ u2) :=
    (((Off.refl (· = g) w).setCell (p := ⟨g, j * 3, none⟩) (.inl rfl) _).setCell (p := ⟨g, j * 3 + 1, none⟩) (.inl rfl) _).setCell (p := ⟨g, j * 3 + 2, none⟩) (.inl rfl) _
  have hz : ∀ k, (Z k ∨ (Value.slice (some ⟨g, 0, none⟩) n c).ownBlock = some k) → (Z k ∨ k = g) := fun k hk => hk.imp id (fun e => by injection e with e; exact e.symm)
  exact (k2.set j ⟨rfl, h1.imp (fun k _ => hz k), h2.imp (fun k _ => hz k)⟩).off o (fun k _ hk => .inr (by subst hk; rfl))
end Go.Proofs.Ytgppoapdpgblmaa
