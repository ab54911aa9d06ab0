/- Package queue, as landed: its ring in memory; place, Len, Free, New; what a nil queue answers; bytes.Clone. -/
import Derived.Test.YtoajbocpebfjoaaQuC
import Derived.Test.YtoajbocpebfjoaaLabels
namespace Go.Proofs.Ytoajbocpebfjoaa
open Go.RowKit
set_option maxRecDepth 20000

/-- the place of the i'th in a ring that begins at f -/
def rgAt (f i : Nat) : Nat := (f + i) % 16
theorem rgAt_lt (f i : Nat) : rgAt f i < 16 := Nat.mod_lt _ (by decide)
theorem rgAt_ne (f i j : Nat) (h : i < j) (hj : j < i + 16) : rgAt f i ≠ rgAt f j := by unfold rgAt; omega
theorem rgAt_next (f i : Nat) : rgAt (rgAt f 1) i = rgAt f (i + 1) := by unfold rgAt; omega
/-- the texts of a ring that begins at f; the blocks of the texts are X's, not g -/
def QuT (w : World) (X : Nat → Prop) (g : Nat) (cs : Array Value) (f : Nat) (ls : List (List UInt8)) : Prop :=
  ∀ i (h : i < ls.length), ∃ A d, cs[1 + rgAt f i]? = some (.slice A ls[i].length d) ∧ Bys w A ls[i].length d ls[i] ∧ Av (fun k => ¬ X k ∨ k = g) ls[i].length A
/-- a queue's cells: its room, the ring, the first one's place, how many -/
def QuS (cs : Array Value) (room f n : Nat) : Prop := cs.size = 19 ∧ cs[0]? = some (.int .i64 (room : Int)) ∧ cs[17]? = some (.int .i64 (f : Int)) ∧ cs[18]? = some (.int .i64 (n : Int)) ∧ f < 16
/-- a queue that New made, at block g, its blocks X -/
def QuP (g room : Nat) (ls : List (List UInt8)) (w : World) (X : Nat → Prop) : Prop :=
  X g ∧ (∀ k, X k → k < w.heap.size) ∧ QOk room ls ∧ ∃ cs f, w.heap[g]? = some (.cells cs 98 (0, 0)) ∧ QuS cs room f ls.length ∧ QuT w X g cs f ls
theorem QuT.off {w w' : World} {X Y : Nat → Prop} {g : Nat} {cs : Array Value} {f : Nat} {ls : List (List UInt8)} (h : QuT w X g cs f ls) (o : Off Y w w') (hd : ∀ k, X k → Y k → k = g) : QuT w' X g cs f ls := fun i hi => by
  obtain ⟨A, d, h1, h2, h3⟩ := h i hi
  refine ⟨A, d, h1, h2.off (h3.imp (fun k hk => ?_)) o, h3⟩
  by_cases hx : X k
  · exact .inr (hd k hx hk)
  · exact .inl hx
theorem QuP.holds (g room : Nat) (ls : List (List UInt8)) : Holds (QuP g room ls) where
  lt := fun h => h.2.1
  off := fun {w w' X Y} h o hd => by
    obtain ⟨h1, h2, h3, cs, f, h4, h5, h6⟩ := h
    exact ⟨h1, fun k hk => Nat.lt_of_lt_of_le (h2 k hk) o.size, h3, cs, f, (o.block g (h2 g h1) (hd g h1)).trans h4, h5, h6.off o (fun k hk hy => absurd hy (hd k hk))⟩
/-- the loaded cells of a queue -/
theorem QuP.cells {g room : Nat} {ls : List (List UInt8)} {w : World} {X : Nat → Prop} (h : QuP g room ls w X) : g < w.heap.size ∧ ∃ f : Nat, f < 16 ∧ w.cell? ⟨g, 0, none⟩ = some (.int .i64 (room : Int)) ∧ w.cell? ⟨g, 17, none⟩ = some (.int .i64 (f : Int)) ∧ w.cell? ⟨g, 18, none⟩ = some (.int .i64 (ls.length : Int)) ∧
    (∀ r, w.frozen? ⟨g, r, none⟩ = false) ∧ (∀ r, r < 16 → ∃ u, w.cell? ⟨g, 1 + r, none⟩ = some u) ∧ ∀ i (h : i < ls.length), ∃ A d, w.cell? ⟨g, 1 + rgAt f i, none⟩ = some (.slice A ls[i].length d) ∧ Bys w A ls[i].length d ls[i] := by
  obtain ⟨h1, h2, h3, cs, f, h4, ⟨s0, s1, s2, s3, s4⟩, h6⟩ := h
  refine ⟨h2 g h1, f, s4, (cell_of_row _ _ _ _ _ _ h4).trans s1, (cell_of_row _ _ _ _ _ _ h4).trans s2, (cell_of_row _ _ _ _ _ _ h4).trans s3, fun r => frozen_of_row _ _ _ _ _ h4, fun r hr => ?_, fun i hi => ?_⟩
  · exact ⟨cs[1 + r], (cell_of_row _ _ _ _ _ _ h4).trans (Array.getElem?_eq_getElem (by omega))⟩
  · obtain ⟨A, d, k1, k2, _⟩ := h6 i hi
    exact ⟨A, d, (cell_of_row _ _ _ _ _ _ h4).trans k1, k2⟩

def FrmQ (g : Nat) (i : Int) (a : Act) : Prop := ∃ s2 s3 s4 s6 s7 s8 s9 s10 s11 s12 s13 s14 s15 s16 s17 s18 s19 s20 s21 : Value, a = { tmps := #[.pointer (some ⟨g, 0, none⟩), .int .i64 i, s2, s3, s4, .int .i64 0, s6, s7, s8, s9, s10, s11, s12, s13, s14, s15, s16, s17, s18, s19, s20, s21], defers := [] }
def PlJ (w0 : World) (g : Nat) (r : Nat) (lb : Nat) (a : Act) (wr : World) : Prop := lb = 0 ∧ r < 16 ∧ FrmQ g (r : Int) a ∧ w0 = wr
set_option maxHeartbeats 2000000 in
theorem quplace_any (g f i : Nat) (w : World) (hf : f < 16) (hi : i < 16) (hc : w.cell? ⟨g, 17, none⟩ = some (.int .i64 (f : Int))) :
    Calls Try.prog 46 #[.pointer (some ⟨g, 0, none⟩), .int .i64 (i : Int)] w fun e w' => e = .returned (.int .i64 ((rgAt f i : Nat) : Int)) ∧ w = w' := by
  go_enter Try.func46, Try.ntmps46
  go_wp2_with (fail)
  refine wp_scope_labels (PlJ w g (rgAt f i)) (fun _ _ => 0) ?_ ?_
  · by_cases h : f + i < 16
    · have d1 : decide (((16 : Int) - (f : Int)) ≤ (i : Int)) = false := by simp; omega
      have d2 : ((f : Int) + (i : Int)) = ((rgAt f i : Nat) : Int) := by unfold rgAt; omega
      go_wp2_with (fail)
      go_step3
      go_wp2_with (fail)
      rw [Jumps.ret]
      go_ret
      exact ⟨rfl, rfl⟩
    · have d1 : decide (((16 : Int) - (f : Int)) ≤ (i : Int)) = true := by simp; omega
      have d2 : (i : Int) - ((16 : Int) - (f : Int)) = ((rgAt f i : Nat) : Int) := by unfold rgAt; omega
      go_wp2_with (fail)
      go_step3
      go_wp2_with (fail)
      go_step3
      exact ⟨rfl, rgAt_lt _ _, ⟨_, _, _, _, _, _, _, _, _, _, _, _, _, _, _, _, _, _, _, rfl⟩, rfl⟩
  · rintro lb a wr ⟨rfl, hr, ⟨s2, s3, s4, s6, s7, s8, s9, s10, s11, s12, s13, s14, s15, s16, s17, s18, s19, s20, s21, rfl⟩, rfl⟩
    refine ⟨_, rfl, ?_⟩
    have d1 : decide (((16 : Int) - 0) ≤ ((rgAt f i : Nat) : Int)) = false := by simp; omega
    go_wp2_with (fail)
    rw [Jumps.ret]
    go_ret
    exact ⟨rfl, rfl⟩
set_option maxHeartbeats 1000000 in
theorem qulen_any (g n : Nat) (w : World) (hc : w.cell? ⟨g, 18, none⟩ = some (.int .i64 (n : Int))) :
    Calls Try.prog 37 #[.pointer (some ⟨g, 0, none⟩)] w fun e w' => e = .returned (.int .i64 (n : Int)) ∧ w = w' := by
  go_enter Try.func37, Try.ntmps37
  go_wp2
  go_ret
  exact ⟨rfl, rfl⟩
set_option maxHeartbeats 1000000 in
theorem qunlen_any (w : World) :
    Calls Try.prog 37 #[.pointer none] w fun e w' => e = .returned (.int .i64 0) ∧ w = w' := by
  go_enter Try.func37, Try.ntmps37
  go_wp2
  go_ret
  exact ⟨rfl, rfl⟩
set_option maxHeartbeats 1000000 in
theorem qunfree_any (w : World) :
    Calls Try.prog 51 #[.pointer none] w fun e w' => e = .returned (.int .i64 0) ∧ w = w' := by
  go_enter Try.func51, Try.ntmps51
  go_wp2
  go_ret
  exact ⟨rfl, rfl⟩
set_option maxHeartbeats 2000000 in
theorem qufree_any (g room n : Nat) (w : World) (h0 : w.cell? ⟨g, 0, none⟩ = some (.int .i64 (room : Int))) (hc : w.cell? ⟨g, 18, none⟩ = some (.int .i64 (n : Int))) (hr : room ≤ 16) (hn : n ≤ room) :
    Calls Try.prog 51 #[.pointer (some ⟨g, 0, none⟩)] w fun e w' => e = .returned (.int .i64 ((room : Int) - (n : Int))) ∧ Below w.heap.size w w' := by
  go_enter Try.func51, Try.ntmps51
  go_wp2_with (fail)
  go_region
  go_wp2
  go_ret
  exact ⟨rfl, below_drewN' (Below.refl _ _) _⟩
set_option maxHeartbeats 1000000 in
theorem quclone_any (A : Option Addr) (n c : Nat) (l : List UInt8) (w : World) (hB : Bys w A n c l) (hn : n ≤ 140737488355328) :
    Calls Try.prog 50 #[.slice A n c] w (GivesW w l) := by
  have q22 : ∀ (w : World) (a : Option Addr) (n c n' c' : Nat), (binOp .eql 39 (.slice a n c) (.slice none n' c')).run Try.prog w = .ok (.bool a.isNone) w := fun w a n c n' c' => Lib.run_eql_slice_nil w _ _ a n c n' c' Try.underlying39
  have hlen := Lib.hid hB.len
  rcases A with _ | ad
  · have h0 : n = 0 := by
      rcases Nat.eq_zero_or_pos n with h | h
      · exact h
      · obtain ⟨b, o, e, _⟩ := hB.at_ h
        cases e
    have hl : l = [] := List.eq_nil_of_length_eq_zero (by rw [hB.len, h0])
    subst h0
    subst hl
    clear hB
    go_enter Try.func50, Try.ntmps50
    go_wp2
    go_ret
    exact ⟨_, rfl, ⟨rfl, .inl ⟨rfl, rfl⟩⟩, Below.refl _ _⟩
  · go_enter Try.func50, Try.ntmps50
    go_wp2_with ((with_reducible refine app_bys _ rfl (.tmp 5) (.tmp 6) rfl w.heap.size (.slice (some ⟨w.heap.size, 0, none⟩) 0 0) 0 [] rfl ?c1 (some ad) n c l rfl (hB.alloc _) ?c2 ?c3 ?_); rotate_right; intro v1 w1 hown1 hgrow1 hwhere1)
    case c1 => exact World.ownsRow_made w #[] 0 (Nat.le_refl _) (Nat.zero_le _) rfl
    case c2 => omega
    case c3 => simp
    go_ret
    simp only [Nat.zero_add, List.nil_append] at hown1
    refine ⟨_, rfl, ?_, ((Below.refl _ w).alloc (Nat.le_refl _) _).grown hgrow1 (by simp) (by intro k hk; simp [Value.ownBlock] at hk; omega)⟩
    rw [hlen.out]
    exact hown1
theorem qunew_no (r : Int) (w : World) (h : r < 1 ∨ 16 < r) :
    Calls Try.prog 24 #[.int .i64 r] w fun e w' => e = .returned (.tuple #[.pointer none, .int .i64 1]) ∧ w = w' := by
  by_cases h1 : r < 1
  · have d1 : decide (r < 1) = true := by simpa using h1
    clear h h1
    go_enter Try.func24, Try.ntmps24
    go_wp2
    go_ret2
    exact ⟨rfl, rfl⟩
  · have d1 : decide (r < 1) = false := by simpa using h1
    have d2 : decide (16 < r) = true := by simp; omega
    clear h h1
    go_enter Try.func24, Try.ntmps24
    go_wp2
    go_ret2
    exact ⟨rfl, rfl⟩
/-- a queue's zero value, as cells -/
def quZ : List Value := [.int .i64 0, .slice none 0 0, .slice none 0 0, .slice none 0 0, .slice none 0 0, .slice none 0 0, .slice none 0 0, .slice none 0 0, .slice none 0 0, .slice none 0 0, .slice none 0 0, .slice none 0 0, .slice none 0 0, .slice none 0 0, .slice none 0 0, .slice none 0 0, .slice none 0 0, .int .i64 0, .int .i64 0]
theorem quZero : ∃ Z : Array Value, (∀ w, (zeroValue 98).run Try.prog w = .ok (.agg Z) w) ∧ Z ≠ #[] ∧ Z = quZ.toArray :=
  ⟨quZ.toArray, (fun w => by kernel_rfl), (fun e => by have h := congrArg Array.size e; cases h), rfl⟩
theorem quNew_cells (room : Nat) : QuS (quZ.toArray.setIfInBounds 0 (.int .i64 (room : Int))) room 0 0 := by
  refine ⟨rfl, rfl, rfl, rfl, by decide⟩
set_option maxHeartbeats 1000000 in
theorem qunew_yes (room : Nat) (w : World) (h1 : 1 ≤ room) (h2 : room ≤ 16) :
    Calls Try.prog 24 #[.int .i64 (room : Int)] w fun e w' => ∃ g X, e = .returned (.tuple #[.pointer (some ⟨g, 0, none⟩), .int .i64 0]) ∧ QuP g room [] w' X ∧ (∀ k, X k → w.heap.size ≤ k) ∧ Below w.heap.size w w' := by
  have d1 : decide ((room : Int) < 1) = false := by simp; omega
  have d2 : decide ((16 : Int) < (room : Int)) = false := by simp; omega
  obtain ⟨Z, hZ, hZn, hZ0⟩ := quZero
  have HZ0 := Lib.hid hZ0; clear hZ0
  go_enter Try.func24, Try.ntmps24
  go_wp2
  go_ret2
  refine ⟨w.heap.size, (· = w.heap.size), rfl, ⟨rfl, fun k hk => by subst hk; simp, ⟨h1, h2, Nat.zero_le _, fun m hm => by cases hm⟩, _, 0, heap_alloc_new w _, ?_, fun i hi => absurd hi (by simp)⟩, fun k hk => by omega, (Below.refl _ _).alloc (Nat.le_refl _) _⟩
  rw [HZ0.out]
  exact quNew_cells room
end Go.Proofs.Ytoajbocpebfjoaa
