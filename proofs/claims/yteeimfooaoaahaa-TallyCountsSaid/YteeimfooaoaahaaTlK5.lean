/- Package tally, as landed: Rows. -/
import Derived.Test.YteeimfooaoaahaaTlK4
namespace Go.Proofs.Yteeimfooaoaahaa
open Go.RowKit Go.Maps
set_option maxRecDepth 20000

def RrowT (w : World) (Y : Nat → Prop) (m : Tam) (t : Tal) : Prop := m.1 = t.1 ∧ m.2.2 = t.2.2 ∧ ∃ A d, m.2.1 = .slice A t.2.1.length d ∧ Fre w Y A t.2.1.length d t.2.1
def RrowsT (w : World) (Y : Nat → Prop) (ms : List Tam) (l : List Tal) : Prop := ms.length = l.length ∧ ∀ j (h : j < ms.length) (h' : j < l.length), RrowT w Y ms[j] l[j]
theorem RrowT.imp {w : World} {Y Y' : Nat → Prop} {m : Tam} {t : Tal} (h : RrowT w Y m t) (hY : ∀ k, k < w.heap.size → Y' k → Y k) : RrowT w Y' m t := by
  obtain ⟨h1, h2, A, d, h3, h4, h5, h6⟩ := h
  refine ⟨h1, h2, A, d, h3, h4, fun hn p e hy => ?_, h6⟩
  obtain ⟨b, o, e', hb, _⟩ := h4.at_ hn
  rw [e] at e'
  injection e' with e'
  subst e'
  exact h5 hn _ e (hY _ hb hy)
theorem RrowT.off {X Y : Nat → Prop} {w w' : World} {m : Tam} {t : Tal} (h : RrowT w Y m t) (o : Off X w w') (hX : ∀ k, k < w.heap.size → X k → Y k) : RrowT w' Y m t := by
  obtain ⟨h1, h2, A, d, h3, h4, h5, h6⟩ := h
  refine ⟨h1, h2, A, d, h3, h4.off (fun hn p e hx => ?_) o, h5, fun hn => ?_⟩
  · obtain ⟨b, o', e', hb, _⟩ := h4.at_ hn
    rw [e] at e'
    injection e' with e'
    subst e'
    exact h5 hn _ e (hX _ hb hx)
  · obtain ⟨b, o1, e, hf⟩ := h6 hn
    obtain ⟨b', o', e', hb, _⟩ := h4.at_ hn
    rw [e] at e'
    injection e' with e'
    injection e' with e1 e2
    subst e1 e2
    refine ⟨b, o1, e, fun j hj => ?_⟩
    rw [frozen_of_block (o.block b hb (fun hx => h5 hn _ e (hX _ hb hx)))]
    exact hf j hj
theorem RrowsT.imp {w : World} {Y Y' : Nat → Prop} {ms : List Tam} {l : List Tal} (h : RrowsT w Y ms l) (hY : ∀ k, k < w.heap.size → Y' k → Y k) : RrowsT w Y' ms l := ⟨h.1, fun j h1 h2 => (h.2 j h1 h2).imp hY⟩
theorem RrowsT.off {X Y : Nat → Prop} {w w' : World} {ms : List Tam} {l : List Tal} (h : RrowsT w Y ms l) (o : Off X w w') (hX : ∀ k, k < w.heap.size → X k → Y k) : RrowsT w' Y ms l := ⟨h.1, fun j h1 h2 => (h.2 j h1 h2).off o hX⟩
theorem RrowsT.nil (w : World) (Y : Nat → Prop) : RrowsT w Y [] [] := ⟨rfl, fun j h => absurd h (by simp)⟩
theorem RrowsT.snoc {w : World} {Y : Nat → Prop} {ms : List Tam} {l : List Tal} {m : Tam} {t : Tal} (h : RrowsT w Y ms l) (k : RrowT w Y m t) : RrowsT w Y (ms ++ [m]) (l ++ [t]) := by
  refine ⟨by simp [h.1], fun j h1 h2 => ?_⟩
  have hl := h.1
  rcases Nat.lt_or_ge j ms.length with hj | hj
  · rw [List.getElem_append_left hj, List.getElem_append_left (by omega)]
    exact h.2 j hj (by omega)
  · have hj1 : j = ms.length := by simp at h1; omega
    subst hj1
    simpa [h.1] using k
theorem RrowsT.set {w : World} {Y : Nat → Prop} {ms : List Tam} {l : List Tal} (h : RrowsT w Y ms l) (j : Nat) (hj : j < ms.length) (hj' : j < l.length) (k : Nat) : RrowsT w Y (ms.set j (ms[j].1, ms[j].2.1, k)) (l.set j (l[j].1, l[j].2.1, k)) := by
  refine ⟨by simp [h.1], fun i h1 h2 => ?_⟩
  by_cases e : i = j
  · subst e
    simp only [List.getElem_set_self]
    obtain ⟨k1, k2, A, d, k3⟩ := h.2 i hj hj'
    exact ⟨k1, rfl, A, d, k3⟩
  · rw [List.getElem_set_ne (Ne.symm e), List.getElem_set_ne (Ne.symm e)]
    exact h.2 i (by simpa using h1) (by simpa using h2)
/-- rows in blocks of one's own, from B on; no text of them lies at a block of Z -/
def OwnT (w : World) (B : Nat) (Z : Nat → Prop) (v : Value) (l : List Tal) : Prop := ∃ ms, w.ownsRow B 44 3 v l.length (mvs ms) ∧ RrowsT w (fun k => Z k ∨ v.ownBlock = some k) ms l
theorem OwnT.nil (w : World) (B : Nat) (Z : Nat → Prop) : OwnT w B Z (.slice none 0 0) [] := ⟨[], ⟨rfl, .inl ⟨rfl, rfl⟩⟩, RrowsT.nil _ _⟩
theorem OwnT.lt {w : World} {B : Nat} {Z : Nat → Prop} {v : Value} {l : List Tal} (h : OwnT w B Z v l) (k : Nat) (hk : v.ownBlock = some k) : B ≤ k ∧ k < w.heap.size := by
  obtain ⟨ms, h1, _⟩ := h
  exact h1.lt k hk
theorem OwnT.off {X Z : Nat → Prop} {w w' : World} {B : Nat} {v : Value} {l : List Tal} (h : OwnT w B Z v l) (o : Off X w w') (hX : ∀ k, k < w.heap.size → X k → Z k) (hv : ∀ k, v.ownBlock = some k → ¬ X k) : OwnT w' B Z v l := by
  obtain ⟨ms, h1, h2⟩ := h
  refine ⟨ms, ⟨h1.1, ?_⟩, h2.off o (fun k hk hx => .inl (hX k hk hx))⟩
  rcases h1.2 with h3 | ⟨g, cap, cur, rfl, hg, hh, r⟩
  · exact Or.inl h3
  · refine Or.inr ⟨g, cap, cur, rfl, hg, ?_, r⟩
    rw [o.block g (lt_of_block hh) (hv g rfl)]
    exact hh
theorem OwnT.below {Z : Nat → Prop} {w w' : World} {B : Nat} {v : Value} {l : List Tal} (h : OwnT w B Z v l) (T : Below w.heap.size w w') : OwnT w' B Z v l := h.off (X := fun _ => False) (Off.of_below T) (fun _ _ h => h.elim) (fun _ _ h => h)
theorem OwnT.imp {w : World} {B : Nat} {Z Z' : Nat → Prop} {v : Value} {l : List Tal} (h : OwnT w B Z v l) (hZ : ∀ k, k < w.heap.size → Z' k → Z k) : OwnT w B Z' v l := by
  obtain ⟨ms, h1, h2⟩ := h
  exact ⟨ms, h1, h2.imp (fun k hk hx => hx.elim (fun h => .inl (hZ k hk h)) .inr)⟩
theorem OwnT.down {w : World} {B B' : Nat} {Z : Nat → Prop} {v : Value} {l : List Tal} (h : OwnT w B Z v l) (hB : B' ≤ B) : OwnT w B' Z v l := by
  obtain ⟨ms, h1, h2⟩ := h
  exact ⟨ms, h1.mono hB, h2⟩
/-- the rows as a slice that reads -/
theorem OwnT.shape {w : World} {B : Nat} {Z : Nat → Prop} {v : Value} {l : List Tal} (h : OwnT w B Z v l) : ∃ P c, v = .slice P l.length c ∧ l.length ≤ c ∧ c ≤ maxLen ∧ (0 < l.length → ∃ b, P = some ⟨b, 0, none⟩ ∧ v.ownBlock = some b ∧ b < w.heap.size ∧ (∀ r, w.frozen? ⟨b, r, none⟩ = false) ∧
      ∀ j (h : j < l.length), ∃ A d, w.cell? ⟨b, j * 3, none⟩ = some (.int .i64 l[j].1) ∧ w.cell? ⟨b, j * 3 + 1, none⟩ = some (.slice A l[j].2.1.length d) ∧ w.cell? ⟨b, j * 3 + 2, none⟩ = some (.int .u64 (l[j].2.2 : Int)) ∧ Fre w (fun k => Z k ∨ k = b) A l[j].2.1.length d l[j].2.1) := by
  obtain ⟨ms, h1, h2⟩ := h
  rcases h1.2 with ⟨hv, hn⟩ | ⟨g, cap, cur, hv, hg, hh, hnc, hcm, hcs, ht⟩
  · have : l = [] := List.eq_nil_of_length_eq_zero hn
    subst this
    exact ⟨none, 0, hv, Nat.le_refl _, Nat.zero_le _, fun h => absurd h (by simp)⟩
  · subst hv
    refine ⟨_, _, rfl, hnc, hcm, fun _ => ⟨g, rfl, rfl, lt_of_block hh, fun r => World.ownsRow.frozenAt h1 r, fun j hj => ?_⟩⟩
    have hjm : j < ms.length := by rw [h2.1]; exact hj
    have c := fun r (hr : r < 3) => (World.ownsRow.cellAt h1 (j * 3 + r) (by omega)).trans (mvs_at ms j r hjm hr)
    have c0 := c 0 (by omega)
    have c1 := c 1 (by omega)
    have c2 := c 2 (by omega)
    obtain ⟨e1, e2, A, d, e3, e4⟩ := h2.2 j hjm hj
    have c0 : w.cell? ⟨g, j * 3, none⟩ = some (.int .i64 ms[j].1) := by simpa [mld] using c0
    have c1 : w.cell? ⟨g, j * 3 + 1, none⟩ = some ms[j].2.1 := by simpa [mld] using c1
    have c2 : w.cell? ⟨g, j * 3 + 2, none⟩ = some (.int .u64 (ms[j].2.2 : Int)) := by simpa [mld] using c2
    rw [e1] at c0
    rw [e3] at c1
    rw [e2] at c2
    exact ⟨A, d, c0, c1, c2, e4.imp (fun k hk => hk.imp id (fun e => by rw [e]; rfl))⟩
theorem Try.infoT18 : (Try.prog.info? 44).map (fun i => (i.zero, i.size, i.bytes)) = some (some (.agg #[.int .i64 0, .slice none 0 0, .int .u64 0]), 3, 40) := by kernel_rfl
/-- append of one row that a literal holds -/
theorem run_append_t (w : World) (B : Nat) (Z : Nat → Prop) (v : Value) (l : List Tal) (hown : OwnT w B Z v l) (Z' : Nat → Prop) (g : Nat) (a : Int) (A : Option Addr) (n d : Nat) (t : List UInt8) (k : Nat)
    (hg : w.heap[g]? = some (.cells #[.int .i64 a, .slice A n d, .int .u64 (k : Int)] 44 (0, 0))) (hB : Bys w A n d t) (hA : Av Z' n A) (hN : 0 < n → ∃ b o, A = some ⟨b, o, none⟩ ∧ ∀ j, j < n → w.frozen? ⟨b, o + j, none⟩ = false)
    (hlen : l.length + 1 ≤ 1099511627776) (hbase : B ≤ w.heap.size) (hZ : ∀ k, k < w.heap.size → Z k → Z' k) (hv' : ∀ k, v.ownBlock = some k → Z' k) (ty : TypeId) :
    ∃ v' w', (Builtin.append_ #[41, 41] ty #[v, .slice (some ⟨g, 0, none⟩) 1 1]).run Try.prog w = .ok v' w' ∧ OwnT w' B Z v' (l ++ [(a, t, k)]) ∧ w.grownBy w' v.ownBlock ∧ (v'.ownBlock = v.ownBlock ∨ v'.ownBlock = some w.heap.size) := by
  obtain ⟨i0, hi, hz0, hz1, hz2⟩ := info_parts Try.infoT18
  obtain ⟨ms, hown, hms⟩ := hown
  obtain rfl : t.length = n := hB.len
  have hcells : ∀ j u, (mvs [(a, .slice A t.length d, k)])[j]? = some u → w.cell? ((⟨g, 0, none⟩ : Addr).add j) = some u := by
    intro j u hu
    have e : (⟨g, 0, none⟩ : Addr).add j = ⟨g, j, none⟩ := by unfold Addr.add; split <;> simp_all
    rw [e, cell_of_row _ _ _ _ _ _ hg]
    simpa [mvs] using hu
  obtain ⟨v', w', hrun, h2, h3, _, h5⟩ := run_append_own_at (P := Try.prog) w B 41 ty 44 i0 (.agg #[.int .i64 0, .slice none 0 0, .int .u64 0]) 3 40 Try.underlying41 hi hz0 hz1 hz2 rfl (by decide) v l.length (mvs ms) hown _ 1 1 (mvs [(a, .slice A t.length d, k)]) rfl hcells (by intro u hu; simp [mvs] at hu; rcases hu with rfl | rfl | rfl <;> rfl) (by unfold maxLen; omega) (by omega) hbase
  refine ⟨v', w', hrun, ⟨ms ++ [(a, .slice A t.length d, k)], by rw [List.length_append, mvs_append]; exact h2, ?_⟩, h3, h5⟩
  have o : Off (fun k => v.ownBlock = some k) w w' := (Off.refl _ w).grown h3 (fun k hk => .inl hk)
  have key : RrowsT w (fun j => (Z j ∧ j < w.heap.size) ∨ v.ownBlock = some j ∨ v'.ownBlock = some j) (ms ++ [(a, .slice A t.length d, k)]) (l ++ [(a, t, k)]) := by
    refine (hms.imp (fun j hj hy => ?_)).snoc ⟨rfl, rfl, A, d, rfl, hB, fun hn p e hy => ?_, hN⟩
    · rcases hy with hy | hy | hy
      · exact .inl hy.1
      · exact .inr hy
      · rcases h5 with h | h
        · exact .inr (h ▸ hy)
        · rw [h] at hy; injection hy with hy; omega
    · obtain ⟨b, o', e', hb, _⟩ := hB.at_ hn
      rw [e] at e'
      injection e' with e'
      subst e'
      rcases hy with hy | hy | hy
      · exact hA hn _ e (hZ _ hb hy.1)
      · exact hA hn _ e (hv' _ hy)
      · rcases h5 with h | h
        · exact hA hn _ e (hv' _ (h ▸ hy))
        · rw [h] at hy; injection hy with hy; have hy' : w.heap.size = b := hy; omega
  have k2 := key.off o (fun j hj hx => .inr (.inl hx))
  refine ⟨k2.1, fun j h1 h2 => ?_⟩
  obtain ⟨e1, e2, A0, d0, e3, e4, e5, e6⟩ := k2.2 j h1 h2
  obtain ⟨_, _, A1, d1, f3, f4, _⟩ := key.2 j h1 h2
  refine ⟨e1, e2, A0, d0, e3, e4, fun hn p e hy => ?_, e6⟩
  rw [e3] at f3
  injection f3 with g1 g2 g3
  subst g1
  obtain ⟨b, o', e', hb, _⟩ := f4.at_ hn
  rw [e] at e'
  injection e' with e'
  subst e'
  rcases hy with hy | hy
  · exact e5 hn _ e (.inl ⟨hy, hb⟩)
  · exact e5 hn _ e (.inr (.inr hy))
theorem app_t {ops : Array Oper} {rest : List Oper} {o : Oper} {ac : Act} {Q : Exit → Act → World → Prop} (w : World) (hgd : o.guard = none) (s x : Operand)
    (ho : o.op = .call { callee := .builtin .append, args := #[s, x], argTypes := #[41, 41] })
    (B : Nat) (Z : Nat → Prop) (v : Value) (l : List Tal) (hs : ac.eval s = v) (hown : OwnT w B Z v l) (Z' : Nat → Prop) (g : Nat) (a : Int) (A : Option Addr) (n d : Nat) (t : List UInt8) (k : Nat) (hx : ac.eval x = .slice (some ⟨g, 0, none⟩) 1 1)
    (hg : w.heap[g]? = some (.cells #[.int .i64 a, .slice A n d, .int .u64 (k : Int)] 44 (0, 0))) (hB : Bys w A n d t) (hA : Av Z' n A) (hN : 0 < n → ∃ b o, A = some ⟨b, o, none⟩ ∧ ∀ j, j < n → w.frozen? ⟨b, o + j, none⟩ = false)
    (hlen : l.length + 1 ≤ 1099511627776) (hbase : B ≤ w.heap.size) (hZ : ∀ k, k < w.heap.size → Z k → Z' k) (hv' : ∀ k, v.ownBlock = some k → Z' k)
    (h : ∀ v' w', OwnT w' B Z v' (l ++ [(a, t, k)]) → w.grownBy w' v.ownBlock → (v'.ownBlock = v.ownBlock ∨ v'.ownBlock = some w.heap.size) → wpList Try.prog ops Q rest (ac.put o.dst v') w') : wpList Try.prog ops Q (o :: rest) ac w := by
  refine wpList_plain hgd fun K hK => ?_
  obtain ⟨v', w', hrun, h2, h3, h4⟩ := run_append_t w B Z v l hown Z' g a A n d t k hg hB hA hN hlen hbase hZ hv' o.type
  unfold Oper.wp execOp
  simp only [ho, resolve, invoke, builtin, Sem.run_bind, Sem.run_pure, Result.andThen_ok, List.map_toArray, List.map_cons, List.map_nil, hs, hx, hrun]
  exact hK _ _ (h v' w' h2 h3 h4)
theorem OwnT.lfre {w0 w : World} {v : Value} {l : List Tal} (h : OwnT w w0.heap.size (· < w0.heap.size) v l) : ∃ P c, v = .slice P l.length c ∧ LFre w (· < w0.heap.size) P l.length c l := by
  obtain ⟨P, c, rfl, h1, h2, h3⟩ := h.shape
  refine ⟨P, c, rfl, rfl, h1, h2, fun hn p e hy => ?_, fun hn => ?_⟩
  · obtain ⟨b, e', hob, _⟩ := h3 hn
    rw [e] at e'
    injection e' with e'
    subst e'
    have := (h.lt b hob).1
    exact absurd hy (by show ¬ b < _; omega)
  · obtain ⟨b, e, _, hb, _, hc⟩ := h3 hn
    refine ⟨b, 0, e, hb, fun j hj => ?_⟩
    rw [Nat.zero_add]
    exact hc j hj
set_option maxHeartbeats 4000000 in
theorem tlrows_any (g : Nat) (l : List Tal) (w : World) (X : Nat → Prop) (hT : TlP g l w X) (hok : AlOk l) :
    Calls Try.prog 18 #[.pointer (some ⟨g, 0, none⟩)] w (GivesRows w l) := by
  obtain ⟨mm, v, hI, _, _, _, _⟩ := hT
  have H1 := Lib.hid (tlmade_any g mm v l w hI)
  obtain ⟨P, cc, rfl, hc1, hc2, kL⟩ := hI.own.shape
  obtain ⟨_, c0, _, _, hgw⟩ := hI.cells
  have HOK := Lib.hid hok.2
  have HA := Lib.hid kL
  have h1000 := hok.1
  obtain ⟨m, hm⟩ : ∃ m, l.length = m := ⟨_, rfl⟩
  have HLN := Lib.hid hm
  rw [hm] at c0 hc1 h1000
  clear hI kL hm hok
  obtain ⟨i0, hi, hz0, hz1, hz2⟩ := info_parts Try.infoT18
  go_enter Try.func18, Try.ntmps18
  go_wp2_with (fail)
  refine H1.out.mono ?_
  rintro e w1 ⟨rfl, rfl⟩
  go_wp2_with (at_make; refine wpList_make_own _ rfl _ _ 41 rfl w.heap.size 44 i0 (.agg #[.int .i64 0, .slice none 0 0, .int .u64 0]) 3 Try.underlying41 hi hz0 hz1 .i64 .i64 _ m rfl rfl rfl (by rw [hz2]; omega) (by unfold maxLen; omega) (Nat.le_refl _) ?_; intro w1 hown hgrow; have c0' := grown_cell (p := ⟨g, 1, none⟩) hgrow hgw (by simp) c0)
  have B1 : Below w.heap.size w w1 := (Below.refl _ _).grown hgrow (Nat.le_refl _) (by simp)
  have HO1 : Hid (OwnT w1 w.heap.size (· < w.heap.size) (.slice (some ⟨w.heap.size, 0, none⟩) 0 m) []) := ⟨[], hown, RrowsT.nil _ _⟩
  clear hown hgrow c0'
  go_loopw [3, 20] (fun v i wr => ∃ k : Nat, k ≤ m ∧ i = .int .i64 (k : Int) ∧ Hid (OwnT wr w.heap.size (· < w.heap.size) v (l.take k)) ∧ Below w.heap.size w wr) (fun _ i _ => m - (intOf i).toNat)
  case atStart => exact ⟨0, Nat.zero_le _, rfl, HO1.out, B1⟩
  case round =>
    rename_i v0 i0' wr0
    obtain ⟨k, hk1, rfl, HV, hbel⟩ := hrel
    by_cases hlt : k < m
    · have hkl : k < l.length := by rw [HLN.out]; exact hlt
      obtain ⟨b, rfl, _, hb, _, hcl⟩ := HA.out (by omega)
      obtain ⟨t0, t1, t2⟩ := hcl k hkl
      have e0 := (hbel.cell (p := ⟨b, k * 3, none⟩) hb).trans t0
      have e1 := (hbel.cell (p := ⟨b, k * 3 + 1, none⟩) hb).trans t1
      have e2 := (hbel.cell (p := ⟨b, k * 3 + 2, none⟩) hb).trans t2
      have d1 : (k : Int) < (m : Int) := by omega
      have hxd := (HOK.out _ (List.getElem_mem hkl)).2
      have HT : Hid (l.take (k + 1) = l.take k ++ [l[k]]) := List.take_succ_eq_append_getElem hkl
      clear hcl t0 t1 t2
      generalize l[k] = x at *
      obtain ⟨xa, xd, xn⟩ := x
      simp only at e0 e1 e2 hxd
      have hU0 : Below wr.heap.size wr (wr.alloc (.cells #[.int .i64 xa, .string ⟨xd.toArray⟩, .int .u64 (xn : Int)] 55)) := (Below.refl _ _).alloc (Nat.le_refl _) _
      have hs0 : wr.heap.size < (wr.alloc (.cells #[.int .i64 xa, .string ⟨xd.toArray⟩, .int .u64 (xn : Int)] 55)).heap.size := by simp
      have k2 : (wr.alloc (.cells #[.int .i64 xa, .string ⟨xd.toArray⟩, .int .u64 (xn : Int)] 55)).cell? ⟨wr.heap.size, 2, none⟩ = some (.int .u64 (xn : Int)) := cell_of_row _ _ _ _ _ _ (heap_alloc_new wr _)
      obtain ⟨c1, w2, hrun, hF, hU⟩ := str_bytes (wr.alloc (.cells #[.int .i64 xa, .string ⟨xd.toArray⟩, .int .u64 (xn : Int)] 55)) xd (by unfold maxLen; omega)
      have k2' := (hU.cell (p := ⟨wr.heap.size, 2, none⟩) hs0).trans k2
      have T2 := nxt hU0 hU
      have hZs := Nat.le_trans hbel.size (Nat.le_of_lt hs0)
      have HZ1 : Hid (∀ j, j < wr.heap.size → j < (wr.alloc (.cells #[.int .i64 xa, .string ⟨xd.toArray⟩, .int .u64 (xn : Int)] 55)).heap.size) := fun j hj => Nat.lt_trans hj hs0
      have HZ2 : Hid (∀ j, j < w.heap.size → j < (wr.alloc (.cells #[.int .i64 xa, .string ⟨xd.toArray⟩, .int .u64 (xn : Int)] 55)).heap.size) := fun j hj => Nat.lt_of_lt_of_le hj hZs
      obtain ⟨nx, hnx⟩ : ∃ nx, xd.length = nx := ⟨_, rfl⟩
      rw [hnx] at hrun hF
      obtain ⟨Ax, hAx⟩ : ∃ Ax : Option Addr, some ⟨(wr.alloc (.cells #[.int .i64 xa, .string ⟨xd.toArray⟩, .int .u64 (xn : Int)] 55)).heap.size, 0, none⟩ = Ax := ⟨_, rfl⟩
      rw [hAx] at hrun hF
      have HF := Lib.hid (fun o => hF.below ((Below.refl _ _).alloc (Nat.le_refl _) o))
      have HAV := Lib.hid hF.2.1
      have HTL : Hid ((l.take k).length = k) := by show _ = _; rw [List.length_take]; omega
      have HW := Lib.hid (fun o => T2.alloc T2.size o)
      have HWB := Lib.hid (fun o => (nxt hbel T2).alloc (nxt hbel T2).size o)
      have HBS := Lib.hid (fun o => (HWB.out o).size)
      clear hU0 hs0 k2 hU hZs hF hAx hnx
      go_wp2_with (at_builtin; ((refine app_t _ rfl (.tmp 24) (.tmp 35) rfl w.heap.size (· < w.heap.size) u3 (l.take k) rfl ?_ (fun j => j < (wr.alloc (.cells #[.int .i64 xa, .string ⟨xd.toArray⟩, .int .u64 (xn : Int)] 55)).heap.size) w2.heap.size xa Ax nx c1 xd xn rfl ?_ ?_ ?_ ?_ ?_ ?_ ?_ ?_ ?_); (exact HV.out.below (HW.out _)); (exact heap_alloc_new w2 _); (exact (HF.out _).1); (exact HAV.out); (exact (HF.out _).2.2); (rw [HTL.out]; omega); (exact HBS.out _); (exact fun j _ hj => HZ2.out j hj); (exact fun j hj => HZ1.out j (HV.out.lt j hj).2); (intro v3 w3 hown3 hgrow3 hwhere3); have HB3 := Lib.hid ((HWB.out _).grown hgrow3 (HBS.out _) (fun j hj => (HV.out.lt j hj).1))))
      go_roundw
      case rel => exact ⟨k + 1, by omega, by go_num, by show OwnT _ _ _ _ _; rw [HT.out]; exact hown3, HB3.out⟩
      case measure => simp [intOf]; omega
    · have d1 : ¬ ((k : Int) < (m : Int)) := by omega
      obtain rfl : k = m := by omega
      have hV := HV.out
      rw [List.take_of_length_le (by rw [HLN.out]; omega)] at hV
      obtain ⟨Q, c, rfl, hL⟩ := hV.lfre
      have HL := Lib.hid hL
      clear hV hL HV HA
      generalize l.length = ll at *
      go_wp2
      go_ret
      exact ⟨Q, _, c, rfl, HL.out, hbel⟩
end Go.Proofs.Yteeimfooaoaahaa
