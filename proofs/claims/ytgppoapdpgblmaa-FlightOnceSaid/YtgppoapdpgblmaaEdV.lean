/- Edits in memory: a slice of edits that came in; what 'copy' within the call's own row of bytes leaves; which edits fit. Nothing of the program's own functions is in here. -/
import Derived.Test.YtgppoapdpgblmaaEditM
import Derived.Test.YtgppoapdpgblmaaFresh
namespace Go.Proofs.Ytgppoapdpgblmaa
open Go.RowKit
set_option maxRecDepth 20000

/-- The slice '.slice A n c' reads as the edits l. -/
def Eds (w : World) (A : Option Addr) (n c : Nat) (l : List Ed) : Prop :=
  l.length = n ∧ n ≤ c ∧ c ≤ maxLen ∧ (0 < n → ∃ b o, A = some ⟨b, o, none⟩ ∧ b < w.heap.size ∧ ∀ j (h : j < l.length), w.cell? ⟨b, o + j * 3, none⟩ = some (.int .i64 l[j].kind) ∧ w.cell? ⟨b, o + j * 3 + 1, none⟩ = some (.int .i64 l[j].at_) ∧ w.cell? ⟨b, o + j * 3 + 2, none⟩ = some (.int .u8 (l[j].b.toNat : Int)))
section
variable {w w' : World} {A : Option Addr} {n c : Nat} {l : List Ed}
theorem Eds.len (h : Eds w A n c l) : l.length = n := h.1
theorem Eds.le (h : Eds w A n c l) : n ≤ c := h.2.1
theorem Eds.cap (h : Eds w A n c l) : c ≤ 9223372036854775807 := h.2.2.1
theorem Eds.at_ (h : Eds w A n c l) (hn : 0 < n) : ∃ b o, A = some ⟨b, o, none⟩ ∧ b < w.heap.size ∧ ∀ j (h : j < l.length), w.cell? ⟨b, o + j * 3, none⟩ = some (.int .i64 l[j].kind) ∧ w.cell? ⟨b, o + j * 3 + 1, none⟩ = some (.int .i64 l[j].at_) ∧ w.cell? ⟨b, o + j * 3 + 2, none⟩ = some (.int .u8 (l[j].b.toNat : Int)) := h.2.2.2 hn
theorem Eds.below (h : Eds w A n c l) (hb : Below w.heap.size w w') : Eds w' A n c l :=
  ⟨h.1, h.2.1, h.2.2.1, fun hn => by
    obtain ⟨b, o, e, hlt, hc⟩ := h.2.2.2 hn
    refine ⟨b, o, e, by have := hb.size; omega, fun j hj => ?_⟩
    obtain ⟨h1, h2, h3⟩ := hc j hj
    exact ⟨(hb.cell (p := ⟨b, o + j * 3, none⟩) hlt).trans h1, (hb.cell (p := ⟨b, o + j * 3 + 1, none⟩) hlt).trans h2, (hb.cell (p := ⟨b, o + j * 3 + 2, none⟩) hlt).trans h3⟩⟩
theorem Eds.alloc (h : Eds w A n c l) (o : Obj) : Eds (w.alloc o) A n c l := h.below ((Below.refl _ _).alloc (Nat.le_refl _) _)
end
theorem Eds.nil (w : World) : Eds w none 0 0 [] := ⟨rfl, Nat.le_refl _, Nat.zero_le _, fun h => absurd h (by omega)⟩
/-- a literal of edits, as it lies in its new block -/
def edCells (l : List Ed) : List Value := l.flatMap fun e => [.int .i64 e.kind, .int .i64 e.at_, .int .u8 (e.b.toNat : Int)]
theorem edCells_len (l : List Ed) : (edCells l).length = l.length * 3 := by
  induction l with
  | nil => rfl
  | cons e r ih => simp only [edCells, List.flatMap_cons, List.length_append, List.length_cons, List.length_nil] at ih ⊢; omega
theorem edCells_at (l : List Ed) : ∀ j (h : j < l.length), (edCells l)[j * 3]? = some (.int .i64 l[j].kind) ∧ (edCells l)[j * 3 + 1]? = some (.int .i64 l[j].at_) ∧ (edCells l)[j * 3 + 2]? = some (.int .u8 (l[j].b.toNat : Int)) := by
  induction l with
  | nil => intro j h; cases h
  | cons e r ih =>
    intro j h
    match j, h with
    | 0, _ => simp [edCells]
    | j + 1, h =>
      have := ih j (by simpa using h)
      have e1 : edCells (e :: r) = .int .i64 e.kind :: .int .i64 e.at_ :: .int .u8 (e.b.toNat : Int) :: edCells r := rfl
      rw [e1, show (j + 1) * 3 = j * 3 + 3 by omega, show j * 3 + 3 + 1 = (j * 3 + 1) + 3 by omega, show j * 3 + 3 + 2 = (j * 3 + 2) + 3 by omega]
      simpa using this
theorem Eds.lit (w : World) (l : List Ed) (t : TypeId) (hl : l.length ≤ 9223372036854775807) : Eds (w.alloc (.cells (edCells l).toArray t)) (some ⟨w.heap.size, 0, none⟩) l.length l.length l := by
  refine ⟨rfl, Nat.le_refl _, by unfold maxLen; omega, fun _ => ⟨w.heap.size, 0, rfl, by simp, fun j hj => ?_⟩⟩
  have hh := heap_alloc_new w (.cells (edCells l).toArray t)
  obtain ⟨h1, h2, h3⟩ := edCells_at l j hj
  rw [cell_of_row _ _ _ _ _ _ hh, cell_of_row _ _ _ _ _ _ hh, cell_of_row _ _ _ _ _ _ hh, List.getElem?_toArray, List.getElem?_toArray, List.getElem?_toArray, Nat.zero_add]
  exact ⟨h1, h2, h3⟩

/-- whether an edit does anything to n bytes -/
def edFits (k a : Int) (n : Nat) : Bool := decide (0 ≤ a ∧ (((k = 0 ∨ k = 2) ∧ a < n) ∨ ((k = 1 ∧ n < 512 ∨ k = 3) ∧ a ≤ n)))
theorem edOne_unfit (b : List UInt8) (e : Ed) (h : edFits e.kind e.at_ b.length = false) : edOne b e = b := by
  have h := of_decide_eq_false h
  unfold edOne
  repeat' split
  all_goals first | rfl | (exfalso; apply h; omega)
theorem edOne_put (b : List UInt8) (m : Nat) (x : UInt8) (h : m < b.length) : edOne b ⟨0, m, x⟩ = b.set m x := by
  simp [edOne, h]
  omega
theorem edOne_ins (b : List UInt8) (m : Nat) (x : UInt8) (h : m ≤ b.length) (hn : b.length < 512) : edOne b ⟨1, m, x⟩ = b.take m ++ x :: b.drop m := by
  simp [edOne, hn]
  omega
theorem edOne_del (b : List UInt8) (m : Nat) (x : UInt8) (h : m < b.length) : edOne b ⟨2, m, x⟩ = b.take m ++ b.drop (m + 1) := by
  simp [edOne, h]
  omega
theorem edOne_cut (b : List UInt8) (m : Nat) (x : UInt8) (h : m ≤ b.length) : edOne b ⟨3, m, x⟩ = b.take m := by
  simp [edOne]
  omega
theorem edOne_len (b : List UInt8) (e : Ed) : (edOne b e).length ≤ b.length + 1 := by
  unfold edOne
  repeat' split
  all_goals simp
  all_goals omega

theorem edDo_len (b : List UInt8) (l : List Ed) (k : Nat) : (edDo b (l.take k)).length ≤ b.length + k := by
  induction k with
  | zero => simp [edDo]
  | succ k ih =>
    by_cases h : k < l.length
    · rw [edDo_take b l k h]
      have := edOne_len (edDo b (l.take k)) l[k]
      omega
    · rw [List.take_of_length_le (by omega)] at ih ⊢
      omega

/-- 'copy' into a row that the call itself made, as one step of a region that draws: what is off the row stays. -/
theorem step_copy_off {P : Program} {ops : Array Oper} {o : Oper} {a : Act} {w : World} {K : Act → World → Prop} {Q : Exit → Act → World → Prop} {E : Prop} (hgd : o.guard = none) (d s : Operand) (dT sT : TypeId)
    (ho : o.op = .call { callee := .builtin .copy, args := #[d, s], argTypes := #[dT, sT] }) (elem : TypeId) (hu : P.underlying dT = some (.slice elem)) (hsz : (P.info? elem).map (·.size) = some 1)
    (dp sp : Option Addr) (dLen dCap sLen sCap : Nat) (hd : a.eval d = .slice dp dLen dCap) (hs : a.eval s = .slice sp sLen sCap)
    (g off : Nat) (cur : List Value) (t : TypeId) (hg : w.heap[g]? = some (.cells cur.toArray t (0, 0))) (cs : List Value) (hn : cs.length = Nat.min sLen dLen)
    (hpos : 0 < cs.length → dp = some ⟨g, off, none⟩ ∧ ∃ ad, sp = some ad ∧ ∀ j v, cs[j]? = some v → w.cell? (ad.add j) = some v)
    (hfit : off + cs.length ≤ cur.length) (h1 : ∀ v ∈ cs, v.oneCell' = true)
    (h : ∀ w', RowKit.Hid (w'.heap[g]? = some (.cells (splice cur off cs).toArray t (0, 0))) → Off (· = g) w w' → K (a.put o.dst (goInt cs.length)) w') :
    if Region.wanted o (yielded ops a.tmps) = true then Oper.wp P o a w K Q else E := by
  have hw : Region.wanted o (yielded ops a.tmps) = true := by simp [Region.wanted, hgd]
  rw [if_pos hw]
  by_cases h0 : cs.length = 0
  · obtain rfl : cs = [] := List.eq_nil_of_length_eq_zero h0
    have hrun := run_copy_none (P := P) w dT sT o.type elem dp sp dLen dCap sLen sCap hu hsz (by simpa using hn.symm)
    unfold Oper.wp
    simp [execOp, ho, resolve, invoke, builtin, hd, hs, hrun, Result.andThen]
    exact h w (show _ = _ by simpa [splice] using hg) (Off.refl _ _)
  · obtain ⟨rfl, ad, rfl, hsrc⟩ := hpos (by omega)
    have hrun := run_copy_row (P := P) w dT sT o.type elem g off dLen dCap ad sLen sCap cur.toArray t cs hu hsz hg hn hsrc (by simpa using hfit) h1
    unfold Oper.wp
    simp [execOp, ho, resolve, invoke, builtin, hd, hs, hrun, Result.andThen]
    exact h _ (show _ = _ by simpa [splice] using setRow_heap w g _ _ t _ hg) ⟨rfl, rfl, rfl, by simp [World.setRow], fun k hk hx => setRow_other w g k _ (fun e => hx e)⟩

/-- 'b[k:]' of a row of the call's own, in the walk's words -/
theorem cut_row (g n c k : Nat) (hk : k ≤ n) (hc : n ≤ c) :
    ∃ A2, (∀ W, (Instr.sliceAt 33 (.slice (some ⟨g, 0, none⟩) n c) (some (.int .i64 k)) none none).run Try.prog W = .ok (.slice A2 (n - k) (c - k)) W) ∧ (k < n → A2 = some ⟨g, k, none⟩) := by
  refine ⟨_, fun W => (at_slice _ _ _ _ W).trans (slice_lo _ n c k hk W), fun h => ?_⟩
  rw [if_neg (by omega)]
  simp only [Option.map_some, Addr.add]
  split
  · simp_all
  · simp
/-- the own row, whole -/
theorem row_whole {w : World} {base : Nat} {e : TypeId} {g n cap : Nat} {xs : List Value} (h : w.ownsRow base e 1 (.slice (some ⟨g, 0, none⟩) n cap) n xs) :
    ∃ cur : List Value, base ≤ g ∧ g < w.heap.size ∧ w.heap[g]? = some (.cells cur.toArray e (0, 0)) ∧ n ≤ cap ∧ cap ≤ maxLen ∧ cur.length = cap ∧ cur.take n = xs := by
  rcases h.2 with ⟨h, _⟩ | ⟨g', cap', cur, hv, hbg, hg, hnc, hcm, hcs, ht⟩
  · cases h
  · injection hv with h1 h2 h3
    injection h1 with h1
    injection h1 with h1
    subst h1; subst h3
    exact ⟨cur.toList, hbg, lt_of_block hg, by simpa using hg, hnc, hcm, by simpa using hcs, by simpa using ht⟩
theorem row_mk {w : World} {base : Nat} {e : TypeId} {g n cap : Nat} {xs cur : List Value} (hb : base ≤ g) (hg : w.heap[g]? = some (.cells cur.toArray e (0, 0))) (hn : n ≤ cap) (hm : cap ≤ maxLen) (hc : cur.length = cap) (ht : cur.take n = xs) :
    w.ownsRow base e 1 (.slice (some ⟨g, 0, none⟩) n cap) n xs := by
  refine ⟨by rw [← ht]; simp; omega, .inr ⟨g, cap, cur.toArray, rfl, hb, hg, hn, hm, by simpa using hc, by simpa using ht⟩⟩
theorem bvs_take (l : List UInt8) (k : Nat) : bvs (l.take k) = (bvs l).take k := by simp [bvs]
theorem bvs_drop (l : List UInt8) (k : Nat) : bvs (l.drop k) = (bvs l).drop k := by simp [bvs]
theorem bvs_set (l : List UInt8) (k : Nat) (x : UInt8) : bvs (l.set k x) = (bvs l).set k (bv x) := by simp [bvs, List.map_set]
/-- what is behind the copy, and the store, of an insertion -/
theorem splice_ins (cur : List Value) (l : List UInt8) (z : Value) (m : Nat) (x : UInt8) (hm : m ≤ l.length) (ht : cur.take (l.length + 1) = bvs l ++ [z]) :
    ((splice cur (m + 1) (bvs (l.drop m))).set m (bv x)).take (l.length + 1) = bvs (l.take m ++ x :: l.drop m) := by
  have hcl : l.length + 1 ≤ cur.length := by
    have := congrArg List.length ht
    simp [bvs] at this
    omega
  have h1 : cur.take m = bvs (l.take m) := by
    have e : cur.take m = (cur.take (l.length + 1)).take m := by rw [List.take_take]; congr 1; omega
    rw [e, ht, List.take_append_of_le_length (by simp [bvs]; omega), bvs_take]
  have h2 : cur.take (m + 1) = bvs (l.take m) ++ [cur[m]] := by rw [List.take_succ_eq_append_getElem (by omega), h1]
  unfold splice
  rw [h2, List.append_assoc, List.set_append_right _ _ (by simp [bvs]; omega)]
  have e0 : m - (bvs (l.take m)).length = 0 := by simp [bvs]; omega
  rw [e0]
  simp only [List.cons_append, List.nil_append, List.set_cons_zero]
  rw [bvs_append]
  have e1 : bvs (x :: l.drop m) = bv x :: bvs (l.drop m) := rfl
  rw [e1]
  have e2 : bvs (l.take m) ++ bv x :: (bvs (l.drop m) ++ cur.drop (m + 1 + (bvs (l.drop m)).length)) = (bvs (l.take m) ++ bv x :: bvs (l.drop m)) ++ cur.drop (m + 1 + (bvs (l.drop m)).length) := by simp
  rw [e2]
  exact List.take_left' (by simp [bvs]; omega)
/-- .. of a deletion -/
theorem splice_del (cur : List Value) (l : List UInt8) (m : Nat) (hm : m < l.length) (ht : cur.take l.length = bvs l) :
    (splice cur m (bvs (l.drop (m + 1)))).take (l.length - 1) = bvs (l.take m ++ l.drop (m + 1)) := by
  have h1 : cur.take m = bvs (l.take m) := by
    have e : cur.take m = (cur.take l.length).take m := by rw [List.take_take]; congr 1; omega
    rw [e, ht, bvs_take]
  unfold splice
  rw [h1, bvs_append, ← List.append_assoc]
  exact List.take_left' (by simp [bvs]; omega)
end Go.Proofs.Ytgppoapdpgblmaa
