/- Contracts of the landed flight (at d887268): copied, way, frame, Len, Sent, Gone, New. -/
import Derived.Test.YtgppoapdpgblmaaFlkO
namespace Go.Proofs.Ytgppoapdpgblmaa
open Go.RowKit
set_option maxRecDepth 20000

theorem kcopied_any (A : Option Addr) (n c : Nat) (l : List UInt8) (w : World) (hB : Bys w A n c l) (hn : n ≤ 140737488355328) :
    Calls Try.prog 34 #[.slice A n c] w (GivesW w l) := by
  have HL := Lib.hid hB.len
  have HB := Lib.hid hB
  clear hB
  go_enter Try.func34, Try.ntmps34
  go_wp2_with ((with_reducible refine app_bys _ rfl (.const (.slice none 0 0)) (.tmp 3) rfl w.heap.size (.slice none 0 0) 0 [] rfl ?_ A n c l rfl ?_ ?_ ?_ ?_); (exact World.ownsRow_nil w _ _ _); (exact HB.out); (omega); (simp); intro v1 w1 hown1 hgrow1 hwhere1)
  go_ret
  simp only [Nat.zero_add, List.nil_append] at hown1
  refine ⟨_, rfl, ?_, (Below.refl _ w).grown hgrow1 (by simp) (by intro k hk; simp [Value.ownBlock] at hk)⟩
  rw [HL.out]
  exact hown1
set_option maxHeartbeats 1000000 in
theorem kway_yes (g : Nat) (s : Fs) (v0 v1 : Value) (d : Int) (q : Nat) (v o : Value) (l : List Frm) (sent : Nat) (w : World) (X : Nat → Prop) (h : KPv g s v0 v1 w X) (D : Dir s v0 v1 d q v o l sent) :
    Calls Try.prog 25 #[.pointer (some ⟨g, 0, none⟩), .int .i64 d] w fun e w' => e = .returned (.tuple #[.pointer (some ⟨g, q, none⟩), .int .i64 0]) ∧ w = w' := by
  obtain ⟨c0, c1, c6, -, -⟩ := h.life
  clear h
  rcases D with ⟨rfl, rfl, rfl, rfl, rfl, rfl⟩ | ⟨rfl, rfl, rfl, rfl, rfl, rfl⟩
  · go_enter Try.func25, Try.ntmps25
    go_wp2
    go_ret2
    exact ⟨rfl, rfl⟩
  · go_enter Try.func25, Try.ntmps25
    go_wp2
    go_ret2
    exact ⟨rfl, rfl⟩
set_option maxHeartbeats 1000000 in
theorem kway_no (g : Nat) (s : Fs) (v0 v1 : Value) (d : Int) (w : World) (X : Nat → Prop) (h : KPv g s v0 v1 w X) (hd : d < 0 ∨ 1 < d) :
    Calls Try.prog 25 #[.pointer (some ⟨g, 0, none⟩), .int .i64 d] w fun e w' => e = .returned (.tuple #[.pointer none, .int .i64 1]) ∧ w = w' := by
  obtain ⟨c0, c1, c6, -, -⟩ := h.life
  clear h
  by_cases h1 : d < 0
  · have d1 : decide (d < 0) = true := by simpa using h1
    clear hd h1
    go_enter Try.func25, Try.ntmps25
    go_wp2
    go_ret2
    exact ⟨rfl, rfl⟩
  · have d1 : decide (d < 0) = false := by simpa using h1
    have d2 : decide (2 ≤ d) = true := by simp; omega
    clear hd h1
    go_enter Try.func25, Try.ntmps25
    go_wp2
    go_ret2
    exact ⟨rfl, rfl⟩
theorem fs_out (s : Fs) (d : Int) (hd : d < 0 ∨ 1 < d) : fsLen s d = 0 ∧ fsSent s d = 0 ∧ ∀ i, fsAt s d i = ((0, [], []), 1) :=
  ⟨by unfold fsLen; rw [if_neg (by omega), if_neg (by omega)], by unfold fsSent; rw [if_neg (by omega), if_neg (by omega)], fun i => by unfold fsAt; rw [if_neg (by omega), if_neg (by omega)]⟩
set_option maxHeartbeats 1000000 in
theorem klen_any (g : Nat) (s : Fs) (v0 v1 : Value) (d : Int) (w : World) (X : Nat → Prop) (h : KPv g s v0 v1 w X) :
    Calls Try.prog 21 #[.pointer (some ⟨g, 0, none⟩), .int .i64 d] w fun e w' => e = .returned (.int .i64 ((fsLen s d : Nat) : Int)) ∧ w = w' := by
  by_cases hd : d < 0 ∨ 1 < d
  · have H := Lib.hid (kway_no g s v0 v1 d w X h hd)
    have HR := Lib.hid (fs_out s d hd).1
    clear h hd
    go_enter Try.func21, Try.ntmps21
    go_wp2_with (fail)
    refine H.out.mono ?_
    rintro e w1 ⟨rfl, rfl⟩
    go_wp2
    go_ret
    exact ⟨by rw [HR.out]; rfl, rfl⟩
  · obtain ⟨q, v, o, l, sent, D⟩ := dir_any s v0 v1 d (by omega)
    have H := Lib.hid (kway_yes g s v0 v1 d q v o l sent w X h D)
    have HR := Lib.hid D.len.1
    obtain ⟨-, c1, hr, -⟩ := h.dir D
    obtain ⟨P, c, rfl, -, -, -⟩ := hr.1.shape
    clear h hd hr D
    obtain ⟨m, hm⟩ : ∃ m, l.length = m := ⟨_, rfl⟩
    rw [hm] at c1 HR
    clear hm
    go_enter Try.func21, Try.ntmps21
    go_wp2_with (fail)
    refine H.out.mono ?_
    rintro e w1 ⟨rfl, rfl⟩
    go_wp2
    go_ret
    exact ⟨by rw [HR.out]; rfl, rfl⟩
set_option maxHeartbeats 1000000 in
theorem ksent_any (g : Nat) (s : Fs) (v0 v1 : Value) (d : Int) (w : World) (X : Nat → Prop) (h : KPv g s v0 v1 w X) :
    Calls Try.prog 24 #[.pointer (some ⟨g, 0, none⟩), .int .i64 d] w fun e w' => e = .returned (.int .i64 ((fsSent s d : Nat) : Int)) ∧ w = w' := by
  by_cases hd : d < 0 ∨ 1 < d
  · have H := Lib.hid (kway_no g s v0 v1 d w X h hd)
    have HR := Lib.hid (fs_out s d hd).2.1
    clear h hd
    go_enter Try.func24, Try.ntmps24
    go_wp2_with (fail)
    refine H.out.mono ?_
    rintro e w1 ⟨rfl, rfl⟩
    go_wp2
    go_ret
    exact ⟨by rw [HR.out]; rfl, rfl⟩
  · obtain ⟨q, v, o, l, sent, D⟩ := dir_any s v0 v1 d (by omega)
    have H := Lib.hid (kway_yes g s v0 v1 d q v o l sent w X h D)
    have HR := Lib.hid D.len.2.1
    obtain ⟨c1, -, -⟩ := h.dir D
    clear h hd D
    go_enter Try.func24, Try.ntmps24
    go_wp2_with (fail)
    refine H.out.mono ?_
    rintro e w1 ⟨rfl, rfl⟩
    go_wp2
    go_ret
    exact ⟨by rw [HR.out]; rfl, rfl⟩
theorem kgone_any (g : Nat) (s : Fs) (v0 v1 : Value) (w : World) (X : Nat → Prop) (h : KPv g s v0 v1 w X) :
    Calls Try.prog 23 #[.pointer (some ⟨g, 0, none⟩)] w fun e w' => e = .returned (.int .i64 (s.gone : Int)) ∧ w = w' := by
  obtain ⟨c0, c1, c6, -, -⟩ := h.life
  clear h
  go_enter Try.func23, Try.ntmps23
  go_wp2
  go_ret
  exact ⟨rfl, rfl⟩
theorem knew_yes (life : Nat) (w : World) (h : life ≤ 4096) : Calls Try.prog 8 #[.int .i64 (life : Int)] w fun e w' => e = .returned (.tuple #[.pointer (some ⟨w.heap.size, 0, none⟩), .int .i64 0]) ∧ KPv w.heap.size ⟨life, 0, [], 0, [], 0⟩ (.slice none 0 0) (.slice none 0 0) w' (· = w.heap.size) ∧ Below w.heap.size w w' := by
  have d1 : decide ((life : Int) < 0) = false := by simp
  have d2 : decide ((4096 : Int) < (life : Int)) = false := by simp; omega
  have hok := Lib.hid (fsNew_ok life h)
  clear h
  go_enter Try.func8, Try.ntmps8
  go_wp2
  go_ret2
  refine ⟨rfl, ⟨rfl, fun k hk => by subst hk; simp, hok.out, heap_alloc_new w _, ⟨OwnG.nil _ _, fun k hk => by cases hk⟩, ⟨OwnG.nil _ _, fun k hk => by cases hk⟩⟩, (Below.refl _ _).alloc (Nat.le_refl _) _⟩
theorem knew_no (life : Int) (w : World) (h : life < 0 ∨ 4096 < life) : Calls Try.prog 8 #[.int .i64 life] w fun e w' => e = .returned (.tuple #[.pointer none, .int .i64 1]) ∧ w = w' := by
  by_cases h1 : life < 0
  · have d1 : decide (life < 0) = true := by simpa using h1
    clear h h1
    go_enter Try.func8, Try.ntmps8
    go_wp2
    go_ret2
    exact ⟨rfl, rfl⟩
  · have d1 : decide (life < 0) = false := by simpa using h1
    have d2 : decide (4096 < life) = true := by simp; omega
    clear h h1
    go_enter Try.func8, Try.ntmps8
    go_wp2
    go_ret2
    exact ⟨rfl, rfl⟩
set_option maxHeartbeats 2000000 in
theorem kframe_yes (g : Nat) (s : Fs) (v0 v1 : Value) (d : Int) (i q : Nat) (b of n c : Nat) (o : Value) (l : List Frm) (sent : Nat) (w : World) (X : Nat → Prop) (h : KPv g s v0 v1 w X) (D : Dir s v0 v1 d q (.slice (some ⟨b, of, none⟩) n c) o l sent) (hi : i < n) :
    Calls Try.prog 29 #[.pointer (some ⟨g, 0, none⟩), .int .i64 d, .int .i64 (i : Int)] w fun e w' => e = .returned (.tuple #[.pointer (some ⟨b, of + i * 3, none⟩), .int .i64 0]) ∧ w = w' := by
  have H := Lib.hid (kway_yes g s v0 v1 d q _ o l sent w X h D)
  obtain ⟨-, c1, hr, -⟩ := h.dir D
  have d1 : decide ((i : Int) < 0) = false := by simp
  have d2 : decide ((n : Int) ≤ (i : Int)) = false := by simp; omega
  have d3 : (i : Int) < (n : Int) := by omega
  clear h hr D
  go_enter Try.func29, Try.ntmps29
  go_wp2_with (fail)
  refine H.out.mono ?_
  rintro e w1 ⟨rfl, rfl⟩
  go_wp2
  go_ret2
  exact ⟨rfl, rfl⟩
set_option maxHeartbeats 2000000 in
theorem kframe_no (g : Nat) (s : Fs) (v0 v1 : Value) (d i : Int) (w : World) (X : Nat → Prop) (h : KPv g s v0 v1 w X) (hno : (fsAt s d i).2 ≠ 0) :
    Calls Try.prog 29 #[.pointer (some ⟨g, 0, none⟩), .int .i64 d, .int .i64 i] w fun e w' => e = .returned (.tuple #[.pointer none, .int .i64 (((fsAt s d i).2 : Nat) : Int)]) ∧ w = w' := by
  by_cases hd : d < 0 ∨ 1 < d
  · have H := Lib.hid (kway_no g s v0 v1 d w X h hd)
    have HR : Hid ((fsAt s d i).2 = 1) := by show _ = _; rw [(fs_out s d hd).2.2]
    clear h hd hno
    go_enter Try.func29, Try.ntmps29
    go_wp2_with (fail)
    refine H.out.mono ?_
    rintro e w1 ⟨rfl, rfl⟩
    go_wp2
    go_ret2
    exact ⟨by rw [HR.out]; rfl, rfl⟩
  · obtain ⟨q, v, o, l, sent, D⟩ := dir_any s v0 v1 d (by omega)
    have H := Lib.hid (kway_yes g s v0 v1 d q v o l sent w X h D)
    obtain ⟨-, c1, hr, -⟩ := h.dir D
    obtain ⟨P, c, rfl, hc1, hc2, -⟩ := hr.1.shape
    obtain ⟨m, hm⟩ : ∃ m, l.length = m := ⟨_, rfl⟩
    have hf := D.len.2.2 i
    have hbad : ¬ (0 ≤ i ∧ i < l.length) := fun hh => by
      rw [hf] at hno
      unfold flAt at hno
      rw [if_pos hh] at hno
      exact hno rfl
    have HR : Hid ((fsAt s d i).2 = 4) := by show _ = _; rw [hf]; unfold flAt; rw [if_neg hbad]
    rw [hm] at c1 hbad hc1
    unfold maxLen at hc2
    clear h hd hr D hm hf hno
    by_cases h1 : i < 0
    · have d1 : decide (i < 0) = true := by simpa using h1
      clear h1 hbad
      go_enter Try.func29, Try.ntmps29
      go_wp2_with (fail)
      refine H.out.mono ?_
      rintro e w1 ⟨rfl, rfl⟩
      go_wp2
      go_ret2
      exact ⟨by rw [HR.out]; rfl, rfl⟩
    · have d1 : decide (i < 0) = false := by simpa using h1
      have d2 : decide ((m : Int) ≤ i) = true := by simp; omega
      clear h1 hbad
      go_enter Try.func29, Try.ntmps29
      go_wp2_with (fail)
      refine H.out.mono ?_
      rintro e w1 ⟨rfl, rfl⟩
      go_wp2
      go_ret2
      exact ⟨by rw [HR.out]; rfl, rfl⟩
end Go.Proofs.Ytgppoapdpgblmaa
