/- Package asker, as landed: New; what all of it answers, in plain words. -/
import Derived.Test.YtdkebneiikdohaaAsK4
namespace Go.Proofs.Ytdkebneiikdohaa
open Go.RowKit
set_option maxRecDepth 20000

/-- how an asker's state lies in its engine -/
def zOf (s : Ass) (n : Nat) (L : Int → Bool) : Ens := ⟨s.room, s.most, s.l, s.ls, s.tm, s.k, s.t, s.r, s.bound, s.told.length, n, L⟩
def LostOk (told : List Int) (n : Nat) (L : Int → Bool) : Prop := n ≤ told.length ∧ ∀ i : Int, L i = decide (0 ≤ i ∧ i < told.length ∧ told.getD i.toNat 0 = 2)
def AsP (g gs : Nat) (s : Ass) (w : World) (X : Nat → Prop) : Prop := ∃ p n L, p.g = g ∧ p.gs = gs ∧ EnP p (zOf s n L) w X ∧ LostOk s.told n L ∧ (s.ls = [] → s.tm = [])
theorem AsP.holds (g gs : Nat) (s : Ass) : Holds (AsP g gs s) where
  lt := fun ⟨_, _, _, _, _, h, _⟩ => (EnP.holds _ _).lt h
  off := fun ⟨p, n, L, h1, h2, h, h3⟩ o hd => ⟨p, n, L, h1, h2, (EnP.holds _ _).off h o hd, h3⟩
theorem LostOk.snoc {told : List Int} {n : Nat} {L : Int → Bool} (h : LostOk told n L) : LostOk (told ++ [1]) n L := by
  refine ⟨by have := h.1; simp; omega, fun i => ?_⟩
  rw [h.2 i, decide_eq_decide]
  simp only [List.length_append, List.length_singleton]
  by_cases h0 : 0 ≤ i ∧ i < told.length
  · have e : (told ++ [1]).getD i.toNat 0 = told.getD i.toNat 0 := by
      simp only [List.getD_eq_getElem?_getD]
      rw [List.getElem?_append_left (by omega)]
    rw [e]
    exact ⟨fun ⟨a, b, c⟩ => ⟨a, by omega, c⟩, fun ⟨a, b, c⟩ => ⟨a, h0.2, c⟩⟩
  · refine ⟨fun ⟨a, b, _⟩ => absurd ⟨a, b⟩ h0, fun ⟨a, b, c⟩ => ?_⟩
    have e : i.toNat = told.length := by omega
    rw [e] at c
    simp at c
theorem LostOk.lost {told : List Int} {n : Nat} {L : Int → Bool} (h : LostOk told n L) : LostOk (told ++ [2]) (n + 1) (fun j => decide (j = (told.length : Int)) || L j) := by
  refine ⟨by have := h.1; simp; omega, fun i => ?_⟩
  show (decide (i = (told.length : Int)) || L i) = _
  rw [h.2 i, ← Bool.decide_or, decide_eq_decide]
  simp only [List.length_append, List.length_singleton]
  by_cases h1 : i = (told.length : Int)
  · subst h1
    refine ⟨fun _ => ⟨by omega, by omega, by simp⟩, fun _ => .inl rfl⟩
  · by_cases h0 : 0 ≤ i ∧ i < told.length
    · have e : (told ++ [2]).getD i.toNat 0 = told.getD i.toNat 0 := by
        simp only [List.getD_eq_getElem?_getD]
        rw [List.getElem?_append_left (by omega)]
      rw [e]
      exact ⟨fun h => by rcases h with h | ⟨a, b, c⟩; exact absurd h h1; exact ⟨a, by omega, c⟩, fun ⟨a, b, c⟩ => .inr ⟨a, h0.2, c⟩⟩
    · refine ⟨fun h => ?_, fun ⟨a, b, c⟩ => ?_⟩
      · rcases h with h | ⟨a, b, _⟩
        · exact absurd h h1
        · exact absurd ⟨a, b⟩ h0
      · omega
theorem zOf_on (s : Ass) (n : Nat) (L : Int → Bool) (o : Int) : zOn (zOf s n L) = zOf (asOn s o) n L := by
  unfold zOn asOn
  show (if s.ls.tail = [] then _ else _) = _
  split
  · simp [zIdle, zNext, zOf, asPop]
  · simp [zBegin, zNext, zOf, asPop, asBegin]
theorem zOf_lost (s : Ass) (n : Nat) (L : Int → Bool) : zLost (zOf s n L) = zOf s (n + 1) (fun j => decide (j = (s.told.length : Int)) || L j) := rfl
theorem as_on_told (s : Ass) (o : Int) : (asOn s o).told = s.told ++ [o] := by
  unfold asOn
  split <;> rfl
theorem as_on_idle {s : Ass} (h : OneTm s.tm) (o : Int) : (asOn s o).ls = [] → (asOn s o).tm = [] := by
  unfold asOn
  split
  · exact fun _ => h.clear
  · rename_i hn
    exact fun e => absurd e hn
/-- what comes, as the asker's own state tells it -/
theorem zOf_take {s : Ass} {n : Nat} {L : Int → Bool} (hL : LostOk s.told n L) (ho : OneTm s.tm) (hi : s.ls = [] → s.tm = []) (kd : Int) (T R : Nat) : ∃ n' L', zTake (zOf s n L) kd T R = zOf (asTake s kd T R) n' L' ∧ LostOk (asTake s kd T R).told n' L' ∧ ((asTake s kd T R).ls = [] → (asTake s kd T R).tm = []) := by
  unfold zTake asTake
  show ∃ n' L', (if s.ls = [] ∨ T ≠ s.t then zOf s n L else if kd = 3 then zOn (zOf s n L) else if kd = 1 then (if s.bound = true ∧ R ≠ s.r then zOn (zLost (zOf s n L)) else _) else zOf s n L) = _ ∧ _
  split
  · exact ⟨n, L, rfl, hL, hi⟩
  · split
    · refine ⟨n, L, zOf_on s n L 1, ?_, as_on_idle ho 1⟩
      rw [as_on_told]
      exact hL.snoc
    · split
      · split
        · refine ⟨n + 1, fun j => decide (j = (s.told.length : Int)) || L j, ?_, ?_, as_on_idle ho 2⟩
          · rw [zOf_lost]
            exact zOf_on s _ _ 2
          · rw [as_on_told]
            exact hL.lost
        · exact ⟨n, L, rfl, hL, hi⟩
      · exact ⟨n, L, rfl, hL, hi⟩
theorem zOf_takeL (s : Ass) (n : Nat) (L : Int → Bool) (kd : Int) (T C R : Nat) : zTakeL (zOf s n L) kd T C R = asTakeL s kd T C R := rfl
theorem zOf_send {s : Ass} {n : Nat} {L : Int → Bool} (hL : LostOk s.told n L) (hi : s.ls = [] → s.tm = []) (m : List UInt8) : ∃ n' L', zSend (zOf s n L) m = zOf (asSend s m) n' L' ∧ LostOk (asSend s m).told n' L' ∧ ((asSend s m).ls = [] → (asSend s m).tm = []) := by
  refine ⟨n, L, ?_⟩
  unfold zSend asSend
  show (if quPushE s.room s.ls m.length = 0 then (if s.ls = [] then _ else _) else _) = _ ∧ _
  split
  · split
    · exact ⟨rfl, hL, fun e => by cases e⟩
    · exact ⟨rfl, hL, fun e => by simp at e⟩
  · exact ⟨rfl, hL, hi⟩
theorem GivesTks.imp {F F' : World → (Nat → Prop) → Prop} {X : Nat → Prop} {l : List Tok} {w w' : World} {e : Ending} (h : GivesTks F X l w e w') (hF : ∀ w X, F w X → F' w X) : GivesTks F' X l w e w' := by
  obtain ⟨A, n, c, X', h1, h2, h3, h4⟩ := h
  exact ⟨A, n, c, X', h1, h2, hF _ _ h3, h4⟩
theorem as_tick_idle {s : Ass} (hi : s.ls = [] → s.tm = []) : asTick s = { s with tm := tmTick s.most s.tm } ∧ asTickL s = (if tmDue s.tm = [] then [] else [(0, s.t, 0, 0, [])]) := by
  unfold asTick asTickL
  by_cases h : s.ls = []
  · rw [if_pos h, if_pos (.inl h)]
    have e := hi h
    constructor
    · obtain ⟨room, most, ls, tm, l, k, told, t, r, bound⟩ := s
      simp only at e
      subst e
      rfl
    · rw [e]
      rfl
  · rw [if_neg h]
    refine ⟨rfl, ?_⟩
    by_cases h2 : tmDue s.tm = []
    · rw [if_pos h2, if_pos (.inr h2)]
    · rw [if_neg h2, if_neg (fun e => e.elim h h2)]
theorem zOf_poll {s : Ass} {n : Nat} {L : Int → Bool} (hL : LostOk s.told n L) (ho : ∀ o ∈ s.told, o = 1 ∨ o = 2) (i : Int) : zPoll (zOf s n L) i = asPoll s i ∧ zPollE (zOf s n L) i = asPollE s i := by
  refine ⟨?_, rfl⟩
  unfold zPoll asPoll
  show (if i < 0 ∨ ((s.told.length + s.ls.length : Nat) : Int) ≤ i then 0 else if (s.told.length : Int) ≤ i then 0 else if L i = true then 2 else 1) = _
  by_cases h0 : i < 0
  · rw [if_pos (.inl h0), if_pos h0]
  · rw [if_neg h0]
    by_cases h1 : (s.told.length : Int) ≤ i
    · have e : s.told.getD i.toNat 0 = 0 := by
        simp only [List.getD_eq_getElem?_getD]
        rw [List.getElem?_eq_none (by omega)]
        rfl
      rw [e, if_pos h1]
      split <;> rfl
    · have hj : i.toNat < s.told.length := by omega
      have e : s.told.getD i.toNat 0 = s.told[i.toNat] := by simp [hj]
      rw [if_neg (by omega), if_neg h1, hL.2 i, e]
      rcases ho _ (List.getElem_mem hj) with h | h
      · rw [h, if_neg (by simp)]
      · rw [h, if_pos (by simp; omega)]
set_option maxHeartbeats 4000000 in
theorem asnew_no (c : Cfg) (gs : Nat) (w : World) (hn : asNew c ≠ 0) (hi : CfI c) :
    Calls Try.prog 4 #[cfgV c, .pointer (some ⟨gs, 0, none⟩)] w fun e w' => e = .returned (.tuple #[.pointer none, .int .i64 (asNew c)]) ∧ Below w.heap.size w w' := by
  obtain ⟨eng, cw, cm, cl, cb, room, beg⟩ := c
  have T0 := (Below.refl _ w).alloc (Nat.le_refl _) (.cells #[.int .i64 eng, .int .i64 cw, .int .i64 cm, .int .i64 cl, .int .i64 cb, .int .i64 room, .int .u64 (beg : Int)] 24)
  have n0 := heap_alloc_new w (.cells #[.int .i64 eng, .int .i64 cw, .int .i64 cm, .int .i64 cl, .int .i64 cb, .int .i64 room, .int .u64 (beg : Int)] 24)
  obtain ⟨-, -, -, -, c4, c5, -⟩ := row7 n0
  have hs : w.heap.size < (w.alloc (.cells #[.int .i64 eng, .int .i64 cw, .int .i64 cm, .int .i64 cl, .int .i64 cb, .int .i64 room, .int .u64 (beg : Int)] 24)).heap.size := by simp
  have hib : I64 cb := hi.2.2.2.2.1
  have hir : I64 room := hi.2.2.2.2.2.1
  have he : asNew ⟨eng, cw, cm, cl, cb, room, beg⟩ = 1 := by
    unfold asNew at hn ⊢
    split
    · rfl
    · rename_i h1
      rw [if_neg h1] at hn
      split
      · rfl
      · rename_i h2
        rw [if_neg h2] at hn
        exact absurd rfl hn
  rw [he]
  unfold cfgV
  show Calls Try.prog 4 #[.agg #[.int .i64 eng, .int .i64 cw, .int .i64 cm, .int .i64 cl, .int .i64 cb, .int .i64 room, .int .u64 (beg : Int)], .pointer (some ⟨gs, 0, none⟩)] w _
  have HT0 := Lib.hid T0
  by_cases h1 : cb < 1 ∨ 64 < cb
  · have HT := Lib.hid (fun W => tmC.new_no cb W hib h1)
    clear hn he h1 n0 T0
    go_enter Try.func4, Try.ntmps4
    go_wp2_with (fail)
    refine (HT.out _).mono ?_
    rintro e w1 ⟨rfl, T1⟩
    have HT1 := Lib.hid (nxt HT0.out T1)
    clear T1
    go_wp2
    go_ret2
    exact ⟨rfl, HT1.out⟩
  · have h2 : room < 1 ∨ 16 < room := by
      by_cases h2 : room < 1 ∨ 16 < room
      · exact h2
      · unfold asNew at hn
        rw [if_neg h1, if_neg h2] at hn
        exact absurd rfl hn
    have HT := Lib.hid (fun W => tmC.new_yes cb W (by omega) (by omega))
    have HQ := Lib.hid (fun W => quC.new_no room W hir h2)
    clear hn he h1 h2 n0 T0
    go_enter Try.func4, Try.ntmps4
    go_wp2_with (fail)
    refine (HT.out _).mono ?_
    rintro e w1 ⟨gt, Xt, rfl, -, -, T1⟩
    have d5 := (T1.cell (p := ⟨w.heap.size, 5, none⟩) hs).trans c5
    have HT1 := Lib.hid (nxt HT0.out T1)
    clear T1 c4 c5
    go_wp2_with (fail)
    refine (HQ.out _).mono ?_
    rintro e w2 ⟨rfl, T2⟩
    have HT2 := Lib.hid (nxt HT1.out T2)
    clear T2 d5
    go_wp2
    go_ret2
    exact ⟨rfl, HT2.out⟩
/-- an asker in new blocks -/
theorem asnew_of {gq gt gs : Nat} {room : Nat} {most : Int} {l : List Nat} {k : Nat} {Xq Xt Xs : Nat → Prop} {w : World} (hq : QuP gq room [] w Xq) (ht : TmP gt most [] w Xt) (hs : NoP gs l k w Xs) (d1 : ∀ k, Xq k → ¬ Xt k) (d2 : ∀ k, Xq k → ¬ Xs k) (d3 : ∀ k, Xt k → ¬ Xs k) (w3 : World) (e3 : w3 = (((w.alloc (.map #[] 0)).alloc (.cells (enCells ⟨w.heap.size + 2, w.heap.size + 1, gq, gt, gs, w.heap.size⟩ (zOf ⟨most, room, [], [], l, k, [], 0, 0, false⟩ 0 (fun _ => false))) 63)).alloc (.cells #[.pointer (some ⟨w.heap.size + 1, 0, none⟩)] 65))) :
    ∃ X, AsP (w.heap.size + 2) gs ⟨most, room, [], [], l, k, [], 0, 0, false⟩ w3 X ∧ Below w.heap.size w w3 ∧ ∀ j, X j → Xq j ∨ Xt j ∨ Xs j ∨ w.heap.size ≤ j := by
  have lq := (QuP.holds _ _ _).lt hq
  have lt' := (TmP.holds _ _ _).lt ht
  have ls := (NoP.holds _ _ _).lt hs
  have T1 := (Below.refl _ w).alloc (Nat.le_refl _) (.map #[] 0)
  have T2 := T1.alloc T1.size (.cells (enCells ⟨w.heap.size + 2, w.heap.size + 1, gq, gt, gs, w.heap.size⟩ (zOf ⟨most, room, [], [], l, k, [], 0, 0, false⟩ 0 (fun _ => false))) 63)
  have T3 := T2.alloc T2.size (.cells #[.pointer (some ⟨w.heap.size + 1, 0, none⟩)] 65)
  have M1 := SetI.made w
  have s1 : (w.alloc (.map #[] 0)).heap.size = w.heap.size + 1 := by simp
  generalize hw1 : w.alloc (.map #[] 0) = w1 at *
  have r2 := heap_alloc_new w1 (.cells (enCells ⟨w.heap.size + 2, w.heap.size + 1, gq, gt, gs, w.heap.size⟩ (zOf ⟨most, room, [], [], l, k, [], 0, 0, false⟩ 0 (fun _ => false))) 63)
  have s2 : (w1.alloc (.cells (enCells ⟨w.heap.size + 2, w.heap.size + 1, gq, gt, gs, w.heap.size⟩ (zOf ⟨most, room, [], [], l, k, [], 0, 0, false⟩ 0 (fun _ => false))) 63)).heap.size = w.heap.size + 2 := by simp [s1]
  have U2 := (Below.refl _ w1).alloc (Nat.le_refl _) (.cells (enCells ⟨w.heap.size + 2, w.heap.size + 1, gq, gt, gs, w.heap.size⟩ (zOf ⟨most, room, [], [], l, k, [], 0, 0, false⟩ 0 (fun _ => false))) 63)
  generalize w1.alloc (.cells (enCells ⟨w.heap.size + 2, w.heap.size + 1, gq, gt, gs, w.heap.size⟩ (zOf ⟨most, room, [], [], l, k, [], 0, 0, false⟩ 0 (fun _ => false))) 63) = w2 at *
  have r3 := heap_alloc_new w2 (.cells #[.pointer (some ⟨w.heap.size + 1, 0, none⟩)] 65)
  have U3 := (Below.refl _ w2).alloc (Nat.le_refl _) (.cells #[.pointer (some ⟨w.heap.size + 1, 0, none⟩)] 65)
  rw [s2] at r3
  rw [s1] at r2
  rw [← e3] at T3 r3 U3
  have M3 := (M1.below U2).below U3
  have r2' := (U3.block (w.heap.size + 1) (by omega)).trans r2
  refine ⟨ObB (w.heap.size + 1) [Xq, Xt, (· = w.heap.size), (· = w.heap.size + 2), Xs], ⟨⟨w.heap.size + 2, w.heap.size + 1, gq, gt, gs, w.heap.size⟩, 0, fun _ => false, rfl, rfl, ⟨_, ⟨r2', rfl, fun i P X hP hX => ?_, fun i X hX => ?_, fun i j A B hA hB hij k hk hk' => ?_⟩, rfl⟩, ⟨Nat.le_refl _, fun i => by simp⟩, fun _ => rfl⟩, T3, fun j hj => ?_⟩
  · rcases i with _ | _ | _ | _ | _ | i
    · rw [← Option.some.inj hP, ← Option.some.inj hX]; exact (QuP.holds _ _ _).below hq T3
    · rw [← Option.some.inj hP, ← Option.some.inj hX]; exact (TmP.holds _ _ _).below ht T3
    · rw [← Option.some.inj hP, ← Option.some.inj hX]; exact ⟨M3, rfl⟩
    · rw [← Option.some.inj hP, ← Option.some.inj hX]; exact ⟨r3, rfl⟩
    · rw [← Option.some.inj hP, ← Option.some.inj hX]; exact (NoP.holds _ _ _).below hs T3
    · cases hP
  · rcases i with _ | _ | _ | _ | _ | i
    · rw [← Option.some.inj hX]; intro h; have : w.heap.size + 1 < w.heap.size := lq _ h; omega
    · rw [← Option.some.inj hX]; intro h; have : w.heap.size + 1 < w.heap.size := lt' _ h; omega
    · rw [← Option.some.inj hX]; intro h; simp at h
    · rw [← Option.some.inj hX]; intro h; simp at h
    · rw [← Option.some.inj hX]; intro h; have : w.heap.size + 1 < w.heap.size := ls _ h; omega
    · cases hX
  · rcases i with _ | _ | _ | _ | _ | i <;> cases hA
    all_goals
      rcases j with _ | _ | _ | _ | _ | j <;> first | (exact absurd rfl hij) | cases hB
    all_goals
      first
      | exact d1 k hk hk'
      | exact d1 k hk' hk
      | exact d2 k hk hk'
      | exact d2 k hk' hk
      | exact d3 k hk hk'
      | exact d3 k hk' hk
      | (have := lq k (by first | exact hk | exact hk'); omega)
      | (have := lt' k (by first | exact hk | exact hk'); omega)
      | (have := ls k (by first | exact hk | exact hk'); omega)
      | (omega)
  · rcases hj with rfl | ⟨i, X, hX, hj⟩
    · exact .inr (.inr (.inr (by omega)))
    · rcases i with _ | _ | _ | _ | _ | i
      · rw [← Option.some.inj hX] at hj; exact .inl hj
      · rw [← Option.some.inj hX] at hj; exact .inr (.inl hj)
      · rw [← Option.some.inj hX] at hj; exact .inr (.inr (.inr (by omega)))
      · rw [← Option.some.inj hX] at hj; exact .inr (.inr (.inr (by omega)))
      · rw [← Option.some.inj hX] at hj; exact .inr (.inr (.inl hj))
      · cases hX
set_option maxHeartbeats 4000000 in
theorem asnew_yes (c : Cfg) (gs : Nat) (l : List Nat) (k : Nat) (w : World) (Xs : Nat → Prop) (hn : asNew c = 0) (hi : CfI c) (hS : NoP gs l k w Xs) :
    Calls Try.prog 4 #[cfgV c, .pointer (some ⟨gs, 0, none⟩)] w fun e w' => ∃ g X, e = .returned (.tuple #[.pointer (some ⟨g, 0, none⟩), .int .i64 0]) ∧ AsP g gs (as0 c l k) w' X ∧ Turns Xs X w w' := by
  obtain ⟨eng, cw, cm, cl, cb, room, beg⟩ := c
  have T0 := (Below.refl _ w).alloc (Nat.le_refl _) (.cells #[.int .i64 eng, .int .i64 cw, .int .i64 cm, .int .i64 cl, .int .i64 cb, .int .i64 room, .int .u64 (beg : Int)] 24)
  have n0 := heap_alloc_new w (.cells #[.int .i64 eng, .int .i64 cw, .int .i64 cm, .int .i64 cl, .int .i64 cb, .int .i64 room, .int .u64 (beg : Int)] 24)
  obtain ⟨-, -, -, -, c4, c5, -⟩ := row7 n0
  have hs : w.heap.size < (w.alloc (.cells #[.int .i64 eng, .int .i64 cw, .int .i64 cm, .int .i64 cl, .int .i64 cb, .int .i64 room, .int .u64 (beg : Int)] 24)).heap.size := by simp
  have hb : ¬ (cb < 1 ∨ 64 < cb) := fun h => by unfold asNew at hn; rw [if_pos h] at hn; cases hn
  have hr : ¬ (room < 1 ∨ 16 < room) := fun h => by unfold asNew at hn; rw [if_neg hb, if_pos h] at hn; cases hn
  obtain ⟨R, hR⟩ : ∃ R : Nat, room = (R : Int) := ⟨room.toNat, by omega⟩
  have HA0 : Hid (as0 ⟨eng, cw, cm, cl, cb, room, beg⟩ l k = ⟨cb, R, [], [], l, k, [], 0, 0, false⟩) := by
    show _ = _
    unfold as0
    simp [hR]
  have HT := Lib.hid (fun W => tmC.new_yes cb W (by omega) (by omega))
  have HQ := Lib.hid (fun W => quC.new_yes R W (by omega) (by omega))
  unfold cfgV
  show Calls Try.prog 4 #[.agg #[.int .i64 eng, .int .i64 cw, .int .i64 cm, .int .i64 cl, .int .i64 cb, .int .i64 room, .int .u64 (beg : Int)], .pointer (some ⟨gs, 0, none⟩)] w _
  rw [HA0.out]
  rw [hR] at T0 c4 c5 hs
  rw [hR]
  have HT0 := Lib.hid T0
  have hmm := @run_makeMap Try.prog
  have HS := Lib.hid hS
  clear hn hi hb hr n0 T0 hS hR HA0
  go_enter Try.func4, Try.ntmps4
  go_wp2_with (fail)
  refine (HT.out _).mono ?_
  rintro e w1 ⟨gt, Xt, rfl, t1, y1, T1⟩
  have d5 := (T1.cell (p := ⟨w.heap.size, 5, none⟩) hs).trans c5
  have HT1 := Lib.hid (nxt HT0.out T1)
  have HTm := Lib.hid (And.intro t1 (And.intro y1 HT0.out.size))
  clear T1 c4 c5 t1 y1
  go_wp2_with (fail)
  refine (HQ.out _).mono ?_
  rintro e w2 ⟨gq, Xq, rfl, q2, y2, T2⟩
  have HT2 := Lib.hid (nxt HT1.out T2)
  have HQu := Lib.hid (And.intro q2 (And.intro y2 T2))
  clear T2 d5 q2 y2
  go_wp2
  go_ret2
  obtain ⟨t1, y1, z1⟩ := HTm.out
  obtain ⟨q2, y2, T2⟩ := HQu.out
  have lt1 := (TmP.holds _ _ _).lt t1
  have ls0 := (NoP.holds _ _ _).lt HS.out
  have hs1 := HT1.out.size
  obtain ⟨X, hX, TX, hin⟩ := asnew_of q2 ((TmP.holds _ _ _).below t1 T2) ((NoP.holds _ _ _).below HS.out HT2.out) (fun j hj hk => by have := y2 j hj; have := lt1 j hk; omega) (fun j hj hk => by have := y2 j hj; have := ls0 j hk; omega) (fun j hj hk => by have := y1 j hj; have := ls0 j hk; omega) _ rfl
  refine ⟨w2.heap.size + 2, X, rfl, hX, ⟨Off.of_below (nxt HT2.out TX), fun j hj => ?_⟩⟩
  have hs2 := HT2.out.size
  rcases hin j hj with h | h | h | h
  · exact .inr (by have := y2 j h; omega)
  · exact .inr (by have := y1 j h; omega)
  · exact .inl h
  · exact .inr (by omega)
/-- what is the asker's own, without the source -/
def AsQ (g gs : Nat) (s : Ass) (w : World) (X : Nat → Prop) : Prop := ∃ p n L Xs, p.g = g ∧ p.gs = gs ∧ ObL p.ge 63 (enCells p (zOf s n L)) (enOwn p (zOf s n L)) Xs w ∧ X = ObB p.ge Xs ∧ LostOk s.told n L ∧ (s.ls = [] → s.tm = [])
theorem ownHolds (p : Enp) (z : Ens) : HoldsL (enOwn p z) := fun i P h => by
  rcases i with _ | _ | _ | _ | i
  · rw [← Option.some.inj h]; exact QuP.holds _ _ _
  · rw [← Option.some.inj h]; exact TmP.holds _ _ _
  · rw [← Option.some.inj h]; exact LostP.holds _ _ _
  · rw [← Option.some.inj h]; exact RowP.holds _ _
  · cases h
theorem AsQ.holds (g gs : Nat) (s : Ass) : Holds (AsQ g gs s) where
  lt := fun ⟨p, n, L, Xs, _, _, h, e, _⟩ k hk => by subst e; exact h.lt (ownHolds p _) k hk
  off := fun ⟨p, n, L, Xs, h1, h2, h, e, h3⟩ o hd => by subst e; exact ⟨p, n, L, Xs, h1, h2, h.off (ownHolds p _) o hd, rfl, h3⟩
theorem assplit (g gs : Nat) (s : Ass) (w : World) (X : Nat → Prop) (h : AsP g gs s w X) : ∃ Xo Xs, AsQ g gs s w Xo ∧ NoP gs s.l s.k w Xs ∧ (∀ k, Xo k → ¬ Xs k) ∧ X = fun k => Xo k ∨ Xs k := by
  obtain ⟨p, n, L, h1, rfl, ⟨Xl, h, rfl⟩, h3⟩ := h
  rw [enParts_eq] at h
  obtain ⟨Xs0, Xs, rfl, h4, h5, h6⟩ := h.unsnoc
  exact ⟨ObB p.ge Xs0, Xs, ⟨p, n, L, Xs0, h1, rfl, h4, rfl, h3⟩, h5, h6, ObB_snoc⟩
theorem asjoin (g gs : Nat) (s : Ass) (w : World) (Xo Xs : Nat → Prop) (k' : Nat) (h : AsQ g gs s w Xo) (hS : NoP gs s.l k' w Xs) (hd : ∀ k, Xo k → ¬ Xs k) : AsP g gs { s with k := k' } w (fun k => Xo k ∨ Xs k) := by
  obtain ⟨p, n, L, Xs0, h1, rfl, h4, rfl, h3⟩ := h
  exact ⟨p, n, L, h1, rfl, ⟨Xs0 ++ [Xs], h4.snoc hS hd, ObB_snoc.symm⟩, h3⟩
theorem asC : AsC NoP AsP where
  holds := AsP.holds
  src := fun g gs s w X h => by
    obtain ⟨Xo, Xs, -, h2, -, e⟩ := assplit g gs s w X h
    exact ⟨Xs, h2, fun k hk => by rw [e]; exact .inr hk⟩
  split := fun g gs s => ⟨AsQ g gs s, AsQ.holds g gs s, fun w X h => assplit g gs s w X h, fun w Xo Xs k' h hS hd => asjoin g gs s w Xo Xs k' h hS hd⟩
  new_no := fun c gs _ _ w _ hi hn _ => asnew_no c gs w hn hi
  new_yes := fun c gs l k w Xs hi hn hS _ => asnew_yes c gs l k w Xs hn hi hS
  send := fun g gs s P n c m w X h hok hk hB _ => by
    obtain ⟨p, nn, L, rfl, rfl, hE, hL, hi⟩ := h
    have hl := hB.len
    obtain ⟨n', L', e, hL', hi'⟩ := zOf_send hL hi m
    refine (asSend_any p _ P n c m w X hE hok.done hk hok.tok (by have := hok.one.len; show s.tm.length < 1000; omega) hB).mono ?_
    rintro e1 w1 ⟨B, a, d, X', h1, h2, h3, h4⟩
    exact ⟨B, a, d, X', h1, h2, ⟨p, n', L', rfl, rfl, e ▸ h3, hL', hi'⟩, h4⟩
  poll := fun g gs s i w X h hok hi => by
    obtain ⟨p, nn, L, rfl, rfl, hE, hL, _⟩ := h
    obtain ⟨e1, e2⟩ := zOf_poll hL hok.outs i
    have := asPoll_any p _ i w X hE hok.done ⟨by have := hi.1; omega, by have := hi.2; omega⟩
    rw [e1, e2] at this
    exact this
  tick := fun g gs s w X h hok => by
    obtain ⟨p, nn, L, rfl, rfl, hE, hL, hi⟩ := h
    obtain ⟨e1, e2⟩ := as_tick_idle hi
    rw [e1, e2]
    exact (asTick_any p _ w X hE hok.tok (by have := hok.one.len; show s.tm.length ≤ 1000; omega)).mono fun _ _ h => h.imp fun w X h => ⟨p, nn, L, rfl, rfl, h, hL, fun e => by show tmTick s.most s.tm = []; rw [hi e]; rfl⟩
  take := fun g gs s kd T C R P n c d w X h hok hk hd hkd hT hC hR hB _ => by
    obtain ⟨p, nn, L, rfl, rfl, hE, hL, hi⟩ := h
    obtain ⟨n', L', e, hL', hi'⟩ := zOf_take hL hok.one hi kd T R
    have := asTake_any p _ kd T C R P n c w X hE hd hk hok.tok (by have := hok.one.len; show s.tm.length < 1000; omega) (by have := hL.1; show nn ≤ 1000000; omega)
    rw [e, zOf_takeL] at this
    exact this.mono fun _ _ h => h.imp fun w X h => ⟨p, n', L', rfl, rfl, h, hL', hi'⟩
  state := fun g gs s w X h hok => by
    obtain ⟨p, nn, L, rfl, rfl, hE, _, _⟩ := h
    exact asState_any p _ w X hE hok.done
end Go.Proofs.Ytdkebneiikdohaa
