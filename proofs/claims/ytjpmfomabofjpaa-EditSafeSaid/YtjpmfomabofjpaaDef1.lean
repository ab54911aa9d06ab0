/- Package deframe as it landed: made, New. -/
import Derived.Test.YtjpmfomabofjpaaFrameK
import Derived.Test.YtjpmfomabofjpaaDeframeM
namespace Go.Proofs.Ytjpmfomabofjpaa
open Go.RowKit

/-- a scanner's cells: its table, what it is at, what it holds, what it has counted -/
def ScC (cs : Array Value) (t : Addr) (s : Sc) : Prop :=
  cs.size = 207 ∧ cs[0]? = some (.pointer (some t)) ∧ cs[1]? = some (.int .i64 (s.at_ : Int)) ∧ (∀ j (h : j < s.h.length), cs[2 + j]? = some (.int .u8 (s.h[j].toNat : Int))) ∧
  cs[202]? = some (.int .i64 (s.h.length : Int)) ∧ cs[203]? = some (.int .i64 (s.g : Int)) ∧ cs[204]? = some (.int .i64 (s.b : Int)) ∧ cs[205]? = some (.int .i64 (s.l : Int)) ∧ cs[206]? = some (.int .i64 (s.z : Int))
/-- a scanner that New made lies at the head of block S, with the table t -/
def Scn (w : World) (S : Nat) (t : Addr) (s : Sc) : Prop := ∃ cs, w.heap[S]? = some (.cells cs 69 (0, 0)) ∧ ScC cs t s

set_option maxHeartbeats 1000000 in
theorem smade_nil (w : World) : Calls Try.prog 42 #[.pointer none] w fun e w' => e = .returned (.bool false) ∧ w = w' := by
  go_enter Try.func42, Try.ntmps42
  go_wp2
  go_ret
  exact ⟨rfl, rfl⟩
set_option maxHeartbeats 1000000 in
theorem smade_yes (S : Nat) (t : Addr) (w : World) (h : w.cell? ⟨S, 0, none⟩ = some (.pointer (some t))) : Calls Try.prog 42 #[.pointer (some ⟨S, 0, none⟩)] w fun e w' => e = .returned (.bool true) ∧ w = w' := by
  go_enter Try.func42, Try.ntmps42
  go_wp2
  go_ret
  exact ⟨rfl, rfl⟩
set_option maxHeartbeats 1000000 in
theorem smade_no (S : Nat) (w : World) (h : w.cell? ⟨S, 0, none⟩ = some (.pointer none)) : Calls Try.prog 42 #[.pointer (some ⟨S, 0, none⟩)] w fun e w' => e = .returned (.bool false) ∧ w = w' := by
  go_enter Try.func42, Try.ntmps42
  go_wp2
  go_ret
  exact ⟨rfl, rfl⟩

theorem cnil (W : World) : Calls Try.prog 50 #[.pointer none, .slice none 0 0] W (GivesB W []) := cput_nil none 0 0 W
set_option maxHeartbeats 1000000 in
theorem dnew_nil (w : World) : Calls Try.prog 36 #[.pointer none] w fun e w' => e = .returned (.pointer none) ∧ Below w.heap.size w w' := by
  have H := Lib.hid (body_nil (.pointer none) none 0 0 w (cnil w))
  go_enter Try.func36, Try.ntmps36
  go_wp2_with (fail)
  refine H.out.mono ?_
  rintro e w1 ⟨rfl, T⟩
  go_wp2
  go_ret
  exact ⟨rfl, T⟩
/-- a scanner's zero value, as cells -/
def scZ : List Value := [.pointer none, .int .i64 0] ++ (List.replicate 200 (.int .u8 0) ++ [.int .i64 0, .int .i64 0, .int .i64 0, .int .i64 0, .int .i64 0])
theorem scZ_length : scZ.length = 207 := by unfold scZ; rw [List.length_append, List.length_append, List.length_replicate]; rfl
theorem scZ_one : ∀ v ∈ scZ, v.oneCell' = true := by
  intro v hv
  unfold scZ at hv
  rcases List.mem_append.1 hv with h | h
  · simp at h; rcases h with rfl | rfl <;> rfl
  · rcases List.mem_append.1 h with h | h
    · rw [List.mem_replicate] at h; rw [h.2]; rfl
    · simp at h; subst h; rfl
theorem scZ_at : scZ[0]? = some (.pointer none) ∧ scZ[1]? = some (.int .i64 0) ∧ scZ[202]? = some (.int .i64 0) ∧ scZ[203]? = some (.int .i64 0) ∧ scZ[204]? = some (.int .i64 0) ∧ scZ[205]? = some (.int .i64 0) ∧ scZ[206]? = some (.int .i64 0) :=
  ⟨rfl, rfl, rfl, rfl, rfl, rfl, rfl⟩
theorem scZero : ∃ Z : Array Value, (∀ w, (zeroValue 69).run Try.prog w = .ok (.agg Z) w) ∧ Z ≠ #[] ∧ Z = scZ.toArray :=
  ⟨scZ.toArray, (fun w => by kernel_rfl), (fun e => by have h := congrArg Array.size e; rw [List.size_toArray, scZ_length] at h; cases h), rfl⟩
theorem scNew_cells (t : Addr) : ScC (scZ.toArray.setIfInBounds 0 (.pointer (some t))) t scNew := by
  obtain ⟨_, z1, z2, z3, z4, z5, z6⟩ := scZ_at
  have hs : scZ.toArray.size = 207 := by rw [List.size_toArray, scZ_length]
  refine ⟨by rw [Array.size_setIfInBounds, hs], ?_, ?_, (fun j hj => absurd hj (by simp [scNew])), ?_, ?_, ?_, ?_, ?_⟩
  · rw [Array.getElem?_setIfInBounds_self_of_lt (by omega)]
  · rw [Array.getElem?_setIfInBounds_ne (by omega), List.getElem?_toArray]; exact z1
  · rw [Array.getElem?_setIfInBounds_ne (by omega), List.getElem?_toArray]; exact z2
  · rw [Array.getElem?_setIfInBounds_ne (by omega), List.getElem?_toArray]; exact z3
  · rw [Array.getElem?_setIfInBounds_ne (by omega), List.getElem?_toArray]; exact z4
  · rw [Array.getElem?_setIfInBounds_ne (by omega), List.getElem?_toArray]; exact z5
  · rw [Array.getElem?_setIfInBounds_ne (by omega), List.getElem?_toArray]; exact z6
theorem frameB_nil : frameB [] = none := by decide +kernel
set_option maxHeartbeats 1000000 in
set_option maxRecDepth 100000 in
theorem dnew_any (t : Addr) (w : World) (ht : Tab w t) : Calls Try.prog 36 #[.pointer (some t)] w fun e w' => ∃ S, e = .returned (.pointer (some ⟨S, 0, none⟩)) ∧ w.heap.size ≤ S ∧ Scn w' S t scNew ∧ Below w.heap.size w w' := by
  have H := body_fr t none 0 0 [] w ht (Bys.nil w) (by decide)
  rw [frameB_nil] at H
  have H := Lib.hid H
  obtain ⟨Z, hZ, hZn, hZ0⟩ := scZero
  have HZ0 := Lib.hid hZ0; clear hZ0
  go_enter Try.func36, Try.ntmps36
  go_wp2_with (fail)
  refine H.out.mono ?_
  rintro e w1 ⟨A1, n1, c1, rfl, -, -, T⟩
  go_wp2
  go_ret
  refine ⟨_, rfl, T.size, ⟨_, heap_alloc_new w1 _, ?_⟩, T.alloc T.size _⟩
  rw [HZ0.out]
  exact scNew_cells t
end Go.Proofs.Ytjpmfomabofjpaa
