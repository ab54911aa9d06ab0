/- Package timer, as landed: the object (a cap, a map); all, New, Set, Clear, Left, and what a nil one answers. -/
import Derived.Test.YtdkebneiikdohaaMapW
namespace Go.Proofs.Ytdkebneiikdohaa
open Go.RowKit Go.Maps
set_option maxRecDepth 20000

/-- 'm[k] = v' at the operation -/
theorem app_putw {ops : Array Oper} {rest : List Oper} {o : Oper} {a : Act} {Q : Exit → Act → World → Prop} (w : World) (hgd : o.guard = none) (m x v : Operand) (hop : o.op = Op.mapUpdate 74 m x v)
    (b : Nat) (l : List Tmr) (hm : a.eval m = .map (some b)) (h : MapW w b l) (hs : (tmKeys l).Pairwise (· < ·)) (hn : l.length < 100000) (k : Int) (hk : I64 k) (p : Int × Int) (hx : a.eval x = .int .i64 k) (hv : a.eval v = .agg #[.int .i64 p.1, .int .i64 p.2]) (l' : List Tmr) (hl' : ∀ j : Int, tmGet l' j = if j = k then some p else tmGet l j)
    (hK : ∀ w', MapW w' b l' → w.grownBy w' (some b) → wpList Try.prog ops Q rest (a.put o.dst undef) w') : wpList Try.prog ops Q (o :: rest) a w := by
  refine wpList_plain hgd fun K' hK' => ?_
  obtain ⟨w', hrun, r1, r2⟩ := h.put hs hn k hk p l' hl'
  unfold waitV at hrun
  unfold Oper.wp
  simp [execOp, hop, hm, hx, hv, hrun, Result.andThen]
  exact hK' _ _ (hK w' r1 r2)
/-- 'delete(m, k)' at the operation -/
theorem app_dropw {ops : Array Oper} {rest : List Oper} {o : Oper} {a : Act} {Q : Exit → Act → World → Prop} (w : World) (hgd : o.guard = none) (m x : Operand) (hop : o.op = Op.call { callee := Callee.builtin Builtin.delete, args := #[m, x], argTypes := #[74, 3] })
    (b : Nat) (l : List Tmr) (hm : a.eval m = .map (some b)) (h : MapW w b l) (k : Int) (hk : I64 k) (hx : a.eval x = .int .i64 k) (l' : List Tmr) (hl' : ∀ j : Int, tmGet l' j = if j = k then none else tmGet l j)
    (hK : ∀ w', MapW w' b l' → w.grownBy w' (some b) → wpList Try.prog ops Q rest (a.put o.dst (.tuple #[])) w') : wpList Try.prog ops Q (o :: rest) a w := by
  refine wpList_plain hgd fun K' hK' => ?_
  obtain ⟨w', hrun, r1, r2⟩ := h.drop k hk l' hl' o.type
  unfold Oper.wp
  simp [execOp, hop, resolve, invoke, builtin, hm, hx, hrun, Result.andThen]
  exact hK' _ _ (hK w' r1 r2)
/-- a nil map: looked up, deleted from (at whatever number) -/
theorem chk_i (w : World) (k : Int) (em : Bool) : (Instr.checkKey em 10000 3 (.int .i64 k)).run Try.prog w = .ok () w := MapKept.run_checkKey Try.underlying3 (by simp [MapKept.IsKey]) em 9999
theorem fnd_i (w : World) (k : Int) : (Instr.findKey 3 (.int .i64 k) []).run Try.prog w = .ok none w := MapKept.run_findKey Try.underlying3 rfl
theorem look_nilw (w : World) (k : Int) (c : Bool) : (Instr.lookup 74 (.map none) (.int .i64 k) c).run Try.prog w = .ok (if c then .tuple #[waitV (0, 0), .bool false] else waitV (0, 0)) w := by
  simp [Instr.lookup, run_underlying Try.underlying74, chk_i, fnd_i, waitV, Result.andThen]
theorem drop_nilw (w : World) (k : Int) (ty : TypeId) : (Builtin.delete_ #[74, 3] ty #[.map none, .int .i64 k]).run Try.prog w = .ok (.tuple #[]) w := by
  simp [Builtin.delete_, run_underlying Try.underlying74, chk_i, Result.andThen]
/-- timers l with the cap most at block g; their map at block m -/
structure TmI (g m : Nat) (most : Int) (l : List Tmr) (w : World) : Prop where
  row : w.heap[g]? = some (.cells #[.int .i64 most, .map (some m)] 76 (0, 0))
  ne : m ≠ g
  map : MapW w m l
theorem TmI.off {Y : Nat → Prop} {g m : Nat} {most : Int} {l : List Tmr} {w w' : World} (h : TmI g m most l w) (o : Off Y w w') (h1 : ¬ Y g) (h2 : ¬ Y m) : TmI g m most l w' :=
  ⟨(o.block g (lt_of_block h.row) h1).trans h.row, h.ne, h.map.off o h2⟩
theorem TmI.below {g m : Nat} {most : Int} {l : List Tmr} {w w' : World} (h : TmI g m most l w) (T : Below w.heap.size w w') : TmI g m most l w' := h.off (Y := fun _ => False) (Off.of_below T) (fun h => h) (fun h => h)
theorem TmI.cells {g m : Nat} {most : Int} {l : List Tmr} {w : World} (h : TmI g m most l w) : w.cell? ⟨g, 0, none⟩ = some (.int .i64 most) ∧ w.cell? ⟨g, 1, none⟩ = some (.map (some m)) ∧ g < w.heap.size :=
  ⟨cell_of_row _ _ _ _ _ _ h.row, cell_of_row _ _ _ _ _ _ h.row, lt_of_block h.row⟩
/-- the map turned -/
theorem TmI.turn {g m : Nat} {most : Int} {l l' : List Tmr} {w w' : World} (h : TmI g m most l w) (hM : MapW w' m l') (hg : w.grownBy w' (some m)) : TmI g m most l' w' ∧ Off (· = m) w w' := by
  have O : Off (· = m) w w' := (Off.refl (· = m) w).grown hg (fun j hj => .inl (by injection hj with hj; exact hj.symm))
  exact ⟨⟨(O.block g (lt_of_block h.row) (fun e => h.ne e.symm)).trans h.row, h.ne, hM⟩, O⟩
def TmP (g : Nat) (most : Int) (l : List Tmr) (w : World) (X : Nat → Prop) : Prop := ∃ m, TmI g m most l w ∧ X g ∧ X m ∧ ∀ k, X k → k < w.heap.size
theorem TmP.holds (g : Nat) (most : Int) (l : List Tmr) : Holds (TmP g most l) where
  lt := fun h => by obtain ⟨m, _, _, _, h5⟩ := h; exact h5
  off := fun {w w' X Y} h o hd => by
    obtain ⟨m, h1, h2, h3, h5⟩ := h
    exact ⟨m, h1.off o (hd g h2) (hd m h3), h2, h3, fun k hk => Nat.lt_of_lt_of_le (h5 k hk) o.size⟩
theorem tmall_any (g m : Nat) (most : Int) (l : List Tmr) (w : World) (h : TmI g m most l w) :
    Calls Try.prog 40 #[.pointer (some ⟨g, 0, none⟩)] w fun e w' => e = .returned (.map (some m)) ∧ w = w' := by
  obtain ⟨c0, c1, _⟩ := h.cells
  clear h
  go_enter Try.func40, Try.ntmps40
  go_wp2
  go_ret
  exact ⟨rfl, rfl⟩
theorem tmnall_any (w : World) :
    Calls Try.prog 40 #[.pointer none] w fun e w' => e = .returned (.map none) ∧ w = w' := by
  go_enter Try.func40, Try.ntmps40
  go_wp2
  go_ret
  exact ⟨rfl, rfl⟩
theorem tmnew_no (r : Int) (w : World) (hr : r < 1 ∨ 64 < r) : Calls Try.prog 14 #[.int .i64 r] w fun e w' => e = .returned (.tuple #[.pointer none, .int .i64 1]) ∧ Below w.heap.size w w' := by
  by_cases h1 : r < 1
  · go_enter Try.func14, Try.ntmps14
    go_wp2
    go_ret2
    exact ⟨rfl, Below.refl _ _⟩
  · have h2 : 64 < r := by omega
    go_enter Try.func14, Try.ntmps14
    go_wp2
    go_ret2
    exact ⟨rfl, Below.refl _ _⟩
theorem tmnew_i (most : Int) (w : World) : TmI (w.heap.size + 1) w.heap.size most [] ((w.alloc (.map #[] 0)).alloc (.cells #[.int .i64 most, .map (some w.heap.size)] 76 (0, 0))) := by
  have hs : (w.alloc (.map #[] 0)).heap.size = w.heap.size + 1 := by simp
  refine ⟨by have := heap_alloc_new (w.alloc (.map #[] 0)) (.cells #[.int .i64 most, .map (some w.heap.size)] 76 (0, 0)); rw [hs] at this; exact this, by omega, ?_⟩
  exact (MapW.made w).below ((Below.refl _ _).alloc (Nat.le_refl _) (.cells #[.int .i64 most, .map (some w.heap.size)] 76 (0, 0)))
set_option maxHeartbeats 1000000 in
theorem tmnew_any (most : Int) (w : World) (h1 : 1 ≤ most) (h2 : most ≤ 64) : Calls Try.prog 14 #[.int .i64 most] w fun e w' => e = .returned (.tuple #[.pointer (some ⟨w.heap.size + 1, 0, none⟩), .int .i64 0]) ∧ (TmI (w.heap.size + 1) w.heap.size most [] w' ∧ w'.heap.size = w.heap.size + 2) ∧ Below w.heap.size w w' := by
  have HI := Lib.hid (tmnew_i most w)
  have HB : Hid (Below w.heap.size w ((w.alloc (.map #[] 0)).alloc (.cells #[.int .i64 most, .map (some w.heap.size)] 76 (0, 0)))) := ((Below.refl _ _).alloc (Nat.le_refl _) _).alloc (by simp) _
  have hmm := @run_makeMap Try.prog
  have n1 : ¬ most < 1 := by omega
  have n2 : ¬ 64 < most := by omega
  go_enter Try.func14, Try.ntmps14
  go_wp2
  go_ret2
  exact ⟨rfl, ⟨HI.out, by simp⟩, HB.out⟩
theorem tmnew_yes (most : Int) (w : World) (h1 : 1 ≤ most) (h2 : most ≤ 64) : Calls Try.prog 14 #[.int .i64 most] w fun e w' => ∃ g X, e = .returned (.tuple #[.pointer (some ⟨g, 0, none⟩), .int .i64 0]) ∧ TmP g most [] w' X ∧ (∀ k, X k → w.heap.size ≤ k) ∧ Below w.heap.size w w' := by
  refine (tmnew_any most w h1 h2).mono ?_
  rintro e w' ⟨rfl, ⟨hI, hs⟩, hB⟩
  exact ⟨w.heap.size + 1, fun k => k = w.heap.size + 1 ∨ k = w.heap.size, rfl, ⟨w.heap.size, hI, .inl rfl, .inr rfl, fun k hk => by rw [hs]; omega⟩, fun k hk => by omega, hB⟩
set_option maxHeartbeats 1000000 in
theorem tmset_any (g : Nat) (most : Int) (l : List Tmr) (key : Int) (w : World) (X : Nat → Prop) (hT : TmP g most l w X) (hok : TmOk most l) (hk : I64 key) (hl : l.length < 1000) :
    Calls Try.prog 37 #[.pointer (some ⟨g, 0, none⟩), .int .i64 key] w fun e w' => e = .returned (.tuple #[]) ∧ ∃ X', TmP g most (tmSet l key) w' X' ∧ Turns X X' w w' := by
  obtain ⟨m, hI, hX, hXm, hlt⟩ := hT
  have H1 := Lib.hid (tmall_any g m most l w hI)
  have HI := Lib.hid hI
  have HK := Lib.hid hok
  have HS := Lib.hid (tmGet_set hok key)
  have qT : ∀ (w : World) (r : Option Nat), (binOp .neq 74 (.map r) (.map none)).run Try.prog w = .ok (.bool (!r.isNone)) w := fun w r => run_neq_map_nil w _ _ _ r Try.underlying74
  clear hI hok
  go_enter Try.func37, Try.ntmps37
  go_wp2_with (fail)
  refine H1.out.mono ?_
  rintro e w1 ⟨rfl, rfl⟩
  go_wp2_with (at_mapUpdate; refine app_putw _ rfl _ _ _ rfl m l rfl HI.out.map HK.out.2.1 (by omega) key hk (1, 1) rfl rfl (tmSet l key) HS.out ?_; intro w2 hM2 hg2)
  obtain ⟨hI2, O2⟩ := HI.out.turn hM2 hg2
  go_end0
  exact ⟨rfl, X, ⟨m, hI2, hX, hXm, fun k hk => Nat.lt_of_lt_of_le (hlt k hk) O2.size⟩, O2.more (fun k hk => by subst hk; exact hXm), fun k hk => .inl hk⟩
theorem tmnset_any (key : Int) (w : World) : Calls Try.prog 37 #[.pointer none, .int .i64 key] w fun e w' => e = .returned (.tuple #[]) ∧ Below w.heap.size w w' := by
  have H1 := Lib.hid (tmnall_any w)
  have qT : ∀ (w : World) (r : Option Nat), (binOp .neq 74 (.map r) (.map none)).run Try.prog w = .ok (.bool (!r.isNone)) w := fun w r => run_neq_map_nil w _ _ _ r Try.underlying74
  go_enter Try.func37, Try.ntmps37
  go_wp2_with (fail)
  refine H1.out.mono ?_
  rintro e w1 ⟨rfl, rfl⟩
  go_wp2
  go_end0
  exact ⟨rfl, Below.refl _ _⟩
theorem two_new (w : World) (a b : Value) (t : TypeId) : (w.alloc (.cells #[a, b] t)).cell? ⟨w.heap.size, 0, none⟩ = some a ∧ (w.alloc (.cells #[a, b] t)).cell? ⟨w.heap.size, 1, none⟩ = some b :=
  ⟨cell_of_row _ _ _ _ _ _ (heap_alloc_new w _), cell_of_row _ _ _ _ _ _ (heap_alloc_new w _)⟩
set_option maxHeartbeats 1000000 in
theorem tmclear_any (g : Nat) (most : Int) (l : List Tmr) (key : Int) (w : World) (X : Nat → Prop) (hT : TmP g most l w X) (hok : TmOk most l) (hk : I64 key) :
    Calls Try.prog 42 #[.pointer (some ⟨g, 0, none⟩), .int .i64 key] w fun e w' => e = .returned (.bool (tmIs l key)) ∧ ∃ X', TmP g most (tmClear l key) w' X' ∧ Turns X X' w w' := by
  obtain ⟨m, hI, hX, hXm, hlt⟩ := hT
  have H1 := Lib.hid (tmall_any g m most l w hI)
  have hlook := hI.map.look key hk true
  simp only [if_true, tmIs_get hok] at hlook
  unfold waitV at hlook
  generalize (tmGet l key).getD (0, 0) = p at *
  obtain ⟨a, b⟩ := p
  have hB : Below w.heap.size w (w.alloc (.cells #[.int .i64 a, .int .i64 b] 83)) := (Below.refl _ _).alloc (Nat.le_refl _) _
  have HI2 := Lib.hid (hI.below hB)
  have HB := Lib.hid hB
  have H2 := Lib.hid (tmall_any g m most l _ HI2.out)
  have HS := Lib.hid (tmGet_clear hok key)
  clear hI hok hB
  go_enter Try.func42, Try.ntmps42
  go_wp2_with (fail)
  refine H1.out.mono ?_
  rintro e w1 ⟨rfl, rfl⟩
  go_wp2_with (fail)
  refine H2.out.mono ?_
  rintro e w2 ⟨rfl, rfl⟩
  go_wp2_with (at_delete; refine app_dropw _ rfl _ _ rfl m l rfl HI2.out.map key hk rfl (tmClear l key) HS.out ?_; intro w3 hM3 hg3)
  obtain ⟨hI3, O3⟩ := HI2.out.turn hM3 hg3
  go_ret
  exact ⟨rfl, X, ⟨m, hI3, hX, hXm, fun k hk => Nat.lt_of_lt_of_le (hlt k hk) (Nat.le_trans HB.out.size O3.size)⟩, (Off.of_below HB.out).trans (O3.more (fun k hk => by subst hk; exact hXm)), fun k hk => .inl hk⟩
theorem tmnclear_any (key : Int) (w : World) : Calls Try.prog 42 #[.pointer none, .int .i64 key] w fun e w' => e = .returned (.bool false) ∧ Below w.heap.size w w' := by
  have H1 := Lib.hid (tmnall_any w)
  have hlook : (Instr.lookup 74 (.map none) (.int .i64 key) true).run Try.prog w = .ok (.tuple #[.agg #[.int .i64 0, .int .i64 0], .bool false]) w := by simpa [waitV] using look_nilw w key true
  have hB : Below w.heap.size w (w.alloc (.cells #[.int .i64 0, .int .i64 0] 83)) := (Below.refl _ _).alloc (Nat.le_refl _) _
  have H2 := Lib.hid (tmnall_any (w.alloc (.cells #[.int .i64 0, .int .i64 0] 83)))
  have hd := drop_nilw (w.alloc (.cells #[.int .i64 0, .int .i64 0] 83)) key
  have HB := Lib.hid hB
  clear hB
  go_enter Try.func42, Try.ntmps42
  go_wp2_with (fail)
  refine H1.out.mono ?_
  rintro e w1 ⟨rfl, rfl⟩
  go_wp2_with (fail)
  refine H2.out.mono ?_
  rintro e w2 ⟨rfl, rfl⟩
  go_wp2_with (fail)
  go_ret
  exact ⟨rfl, HB.out⟩
end Go.Proofs.Ytdkebneiikdohaa
