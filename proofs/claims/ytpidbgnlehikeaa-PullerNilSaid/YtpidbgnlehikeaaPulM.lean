/- The window engine's receiver in plain words: its state, what its calls make of it, what always holds. Nothing of the program's own functions is in here. -/
import Derived.Test.YtpidbgnlehikeaaRingM
import Derived.Test.YtpidbgnlehikeaaCfg
import Derived.Test.YtpidbgnlehikeaaRqu
namespace Go.Proofs.Ytpidbgnlehikeaa
open Go.RowKit
set_option maxRecDepth 20000

abbrev Lt := Nat × List UInt8
/-- the place of a place among those that are ahead, or where it would stand -/
def ltAt : List Lt → Nat → Nat
  | [], _ => 0
  | t :: l, p => if t.1 < p then ltAt l p + 1 else 0
def ltHas (l : List Lt) (p : Nat) : Bool := match l[ltAt l p]? with | some t => t.1 == p | none => false
def ltKeep (l : List Lt) (p : Nat) (m : List UInt8) : List Lt := if ltHas l p then l else l.take (ltAt l p) ++ [(p, m)] ++ l.drop (ltAt l p)
theorem ltAt_le (l : List Lt) (p : Nat) : ltAt l p ≤ l.length := by
  induction l with
  | nil => simp [ltAt]
  | cons t l ih =>
    unfold ltAt
    split
    · simp; omega
    · exact Nat.zero_le _
theorem ltAt_lt (l : List Lt) (p : Nat) : ∀ i, i < ltAt l p → ∀ h : i < l.length, l[i].1 < p := by
  induction l with
  | nil => intro i _ h; simp at h
  | cons t l ih =>
    intro i hi h
    unfold ltAt at hi
    split at hi
    · match i, h with
      | 0, _ => simpa
      | i + 1, h => simpa using ih i (by omega) (by simp at h; omega)
    · omega
theorem ltAt_ge (l : List Lt) (p : Nat) (h : ltAt l p < l.length) : p ≤ l[ltAt l p].1 := by
  induction l with
  | nil => simp at h
  | cons t l ih =>
    by_cases hk : t.1 < p
    · have e : ltAt (t :: l) p = ltAt l p + 1 := by unfold ltAt; rw [if_pos hk]; cases l <;> rfl
      simp only [e] at h ⊢
      simpa using ih (by simp at h; omega)
    · have e : ltAt (t :: l) p = 0 := by unfold ltAt; rw [if_neg hk]
      simp [e]; omega
theorem ltAt_unique (l : List Lt) (p i : Nat) (hi : i ≤ l.length) (h1 : ∀ j, j < i → ∀ h : j < l.length, l[j].1 < p) (h2 : ∀ h : i < l.length, p ≤ l[i].1) : ltAt l p = i := by
  have a := ltAt_le l p
  rcases Nat.lt_trichotomy (ltAt l p) i with h | h | h
  · have := ltAt_ge l p (by omega)
    have := h1 _ h (by omega)
    omega
  · exact h
  · have := ltAt_lt l p i h (by omega)
    have := h2 (by omega)
    omega
theorem ltHas_eq (l : List Lt) (p : Nat) (h : ltAt l p < l.length) : ltHas l p = (l[ltAt l p].1 == p) := by
  unfold ltHas; rw [List.getElem?_eq_getElem h]
theorem ltHas_end (l : List Lt) (p : Nat) (h : ¬ ltAt l p < l.length) : ltHas l p = false := by
  unfold ltHas; rw [List.getElem?_eq_none (by omega)]
theorem ltHas_lt (l : List Lt) (p : Nat) (h : ltHas l p = true) : ltAt l p < l.length := by
  by_cases h1 : ltAt l p < l.length
  · exact h1
  · rw [ltHas_end l p h1] at h; cases h
/-- a receiver: its settings, its queue, what is ahead, how many entered, and were returned -/
structure Pls where
  c : Cfg
  ls : List (List UInt8)
  late : List Lt
  ent : Nat
  ret : Nat
/-- one message enters, if it may -/
def plCan (s : Pls) : Bool := match s.late with
  | [] => false
  | t :: _ => t.1 == s.ent && quPushE s.c.room.toNat s.ls t.2.length == 0
def plStep (s : Pls) : Pls := match s.late with
  | [] => s
  | t :: l => { s with ls := s.ls ++ [t.2], late := l, ent := s.ent + 1 }
def plIt : Nat → Pls → Pls
  | 0, s => s
  | k + 1, s => if plCan s then plIt k (plStep s) else s
def plEnter (s : Pls) : Pls := plIt s.late.length s
def plBits (s : Pls) : List Lt → Nat
  | [] => 0
  | t :: l => 2 ^ (t.1 - s.ent) + plBits s l
def plTells (s : Pls) : List (Bool × Int × Nat × List UInt8) := [(true, rgMod s.ent s.c.m, plBits s s.late, [])]
def plNear (s : Pls) (seq : Int) : Option Int := rgNear s.ent s.c.w seq s.c.m
def plKept (s : Pls) (seq : Int) (m : List UInt8) : Pls := match plNear s seq with
  | none => s
  | some q => if m.length ≤ 64 then { s with late := ltKeep s.late q.toNat m } else s
def plTake (s : Pls) (ack : Bool) (seq : Int) (m : List UInt8) : Pls := if ack = true then s else plEnter (plKept s seq m)
def plTakeL (s : Pls) (ack : Bool) (seq : Int) (m : List UInt8) : List (Bool × Int × Nat × List UInt8) := if ack = true then [] else plTells (plTake s ack seq m)
def plPop (s : Pls) : Pls := { s with ls := s.ls.tail, ret := s.ret + 1 }
def plRecv (s : Pls) : Pls := if s.ls = [] then s else plEnter (plPop s)
def plRecvL (s : Pls) : List (Bool × Int × Nat × List UInt8) := if s.ls = [] then [] else if s.ent < (plRecv s).ent then plTells (plRecv s) else []
def plNew (c : Cfg) : Int := if rgCheck c.w c.m c.l ≠ 0 then rgCheck c.w c.m c.l else if c.room < 1 ∨ 16 < c.room then 1 else 0
def PlCf (c : Cfg) : Prop := (1 ≤ c.w ∧ c.w ≤ 64) ∧ (c.w ≤ c.l ∧ c.l ≤ 4096) ∧ (2 * (c.w + c.l) < c.m ∧ c.m ≤ 65536) ∧ (1 ≤ c.room ∧ c.room ≤ 16)
theorem plNew_ok {c : Cfg} (h : plNew c = 0) : PlCf c := by
  unfold plNew rgCheck at h
  unfold PlCf
  repeat' split at h
  all_goals first | omega | skip
def ltKeys (l : List Lt) : List Nat := l.map (·.1)
/-- what always holds -/
def PlOk (s : Pls) : Prop := PlCf s.c ∧ (s.ls.length ≤ s.c.room.toNat ∧ ∀ m ∈ s.ls, m.length ≤ 64) ∧ (ltKeys s.late).Pairwise (· < ·) ∧ (∀ t ∈ s.late, (s.ent ≤ t.1 ∧ (t.1 : Int) < s.ent + s.c.w) ∧ t.2.length ≤ 64) ∧ s.ret + s.ls.length = s.ent
theorem lt_len {l : List Nat} (h : l.Pairwise (· < ·)) : ∀ (a b : Nat), a ≤ b → (∀ k ∈ l, a ≤ k ∧ k < b) → l.length ≤ b - a := by
  induction l with
  | nil => intro a b hab _; simp
  | cons x l ih =>
    intro a b hab hk
    obtain ⟨h1, h2⟩ := List.pairwise_cons.1 h
    have hx := hk x (by simp)
    have := ih h2 (x + 1) b (by omega) (fun k hk' => ⟨by have := h1 k hk'; omega, (hk k (by simp [hk'])).2⟩)
    simp only [List.length_cons]
    omega
theorem PlOk.llen {s : Pls} (h : PlOk s) : s.late.length ≤ 64 := by
  obtain ⟨h1, _, h3, h4, _⟩ := h
  have := lt_len h3 s.ent (s.ent + 64) (by omega) (fun k hk => by
    obtain ⟨t, ht, rfl⟩ := List.mem_map.1 hk
    have := (h4 t ht).1
    have := h1.1.2
    omega)
  rw [show (ltKeys s.late).length = s.late.length by simp [ltKeys]] at this
  omega
theorem PlOk.step {s : Pls} (h : PlOk s) (hc : plCan s = true) : PlOk (plStep s) := by
  obtain ⟨c, ls, late, ent, ret⟩ := s
  cases late with
  | nil => simp [plCan] at hc
  | cons t l =>
    unfold plCan at hc
    simp only [Bool.and_eq_true, beq_iff_eq] at hc
    obtain ⟨h1, h2, h3, h4, h5⟩ := h
    simp only at h1 h2 h3 h4 h5
    obtain ⟨k1, k2⟩ := List.pairwise_cons.1 h3
    have hp := hc.2
    unfold quPushE at hp
    have hm : t.2.length ≤ 64 := by
      by_cases e : 64 < t.2.length
      · rw [if_pos e] at hp; cases hp
      · omega
    rw [if_neg (by omega)] at hp
    have hr : ¬ c.room.toNat ≤ ls.length := fun e => by rw [if_pos e] at hp; cases hp
    refine ⟨h1, ⟨by show (ls ++ [t.2]).length ≤ c.room.toNat; simp; omega, fun m hm' => ?_⟩, k2, fun u hu => ?_, by show ret + (ls ++ [t.2]).length = ent + 1; simp; omega⟩
    · rcases List.mem_append.1 hm' with h | h
      · exact h2.2 m h
      · rw [List.mem_singleton.1 h]; exact hm
    · have hu : u ∈ l := hu
      have hk : t.1 < u.1 := k1 u.1 (List.mem_map.2 ⟨u, hu, rfl⟩)
      have he : t.1 = ent := hc.1
      have := h4 u (by simp [hu])
      refine ⟨⟨by show ent + 1 ≤ u.1; omega, by show (u.1 : Int) < ((ent + 1 : Nat) : Int) + c.w; omega⟩, this.2⟩
theorem plCan_lt {s : Pls} (h : plCan s = true) : 0 < s.late.length := by
  unfold plCan at h
  cases hl : s.late with
  | nil => rw [hl] at h; cases h
  | cons t l => simp
theorem plStep_len {s : Pls} (h : plCan s = true) : s.late.length = (plStep s).late.length + 1 := by
  have := plCan_lt h
  unfold plStep
  cases hl : s.late with
  | nil => rw [hl] at this; simp at this
  | cons t l => simp
theorem plEnter_no {s : Pls} (h : plCan s = false) : plEnter s = s := by
  unfold plEnter
  cases s.late.length with
  | zero => rfl
  | succ k => unfold plIt; rw [if_neg (by simp [h])]
theorem plEnter_yes {s : Pls} (h : plCan s = true) : plEnter s = plEnter (plStep s) := by
  unfold plEnter
  rw [plStep_len h]
  show (if plCan s then _ else _) = _
  rw [if_pos h]
theorem PlOk.enter {s : Pls} (h : PlOk s) : PlOk (plEnter s) ∧ (plEnter s).c = s.c ∧ s.ent ≤ (plEnter s).ent ∧ (plEnter s).ret = s.ret ∧ (plEnter s).ent ≤ s.ent + s.late.length := by
  generalize hn : s.late.length = n
  induction n generalizing s with
  | zero =>
    have : plCan s = false := by
      cases e : plCan s with
      | false => rfl
      | true => have := plCan_lt e; omega
    rw [plEnter_no this]
    exact ⟨h, rfl, Nat.le_refl _, rfl, by omega⟩
  | succ n ih =>
    cases e : plCan s with
    | false =>
      rw [plEnter_no e]
      exact ⟨h, rfl, Nat.le_refl _, rfl, by omega⟩
    | true =>
      rw [plEnter_yes e]
      have hl := plStep_len e
      obtain ⟨k1, k2, k3, k4, k5⟩ := ih (h.step e) (by omega)
      have e1 : (plStep s).c = s.c ∧ (plStep s).ent = s.ent + 1 ∧ (plStep s).ret = s.ret := by
        unfold plStep
        cases hl2 : s.late with
        | nil => rw [hl2] at hn; simp at hn
        | cons t l => exact ⟨rfl, rfl, rfl⟩
      exact ⟨k1, k2.trans e1.1, by omega, k4.trans e1.2.2, by omega⟩
theorem ltKeep_mem (l : List Lt) (p : Nat) (m : List UInt8) : ∀ t ∈ ltKeep l p m, t ∈ l ∨ t = (p, m) := fun t ht => by
  unfold ltKeep at ht
  split at ht
  · exact .inl ht
  · rcases List.mem_append.1 ht with ht | ht
    · rcases List.mem_append.1 ht with ht | ht
      · exact .inl (List.mem_of_mem_take ht)
      · exact .inr (List.mem_singleton.1 ht)
    · exact .inl (List.mem_of_mem_drop ht)
theorem ltKeep_sorted {l : List Lt} (h : (ltKeys l).Pairwise (· < ·)) (p : Nat) (m : List UInt8) : (ltKeys (ltKeep l p m)).Pairwise (· < ·) := by
  unfold ltKeep
  cases hf : ltHas l p with
  | true => rw [if_pos rfl]; exact h
  | false =>
    rw [if_neg (by simp)]
    have ek : ltKeys l = ltKeys (l.take (ltAt l p)) ++ ltKeys (l.drop (ltAt l p)) := by
      unfold ltKeys; rw [← List.map_append, List.take_append_drop]
    have h2 := h
    rw [ek, List.pairwise_append] at h2
    have e2 : ltKeys (l.take (ltAt l p) ++ [(p, m)] ++ l.drop (ltAt l p)) = ltKeys (l.take (ltAt l p)) ++ ([p] ++ ltKeys (l.drop (ltAt l p))) := by simp [ltKeys]
    have hlow : ∀ a ∈ ltKeys (l.take (ltAt l p)), a < p := fun a ha => by
      obtain ⟨t, ht, rfl⟩ := List.mem_map.1 ha
      obtain ⟨i, hi, rfl⟩ := List.mem_iff_getElem.1 ht
      simp at hi
      simpa using ltAt_lt l p i (by omega) (by omega)
    have hhigh : ∀ b ∈ ltKeys (l.drop (ltAt l p)), p < b := fun b hb => by
      by_cases hlt : ltAt l p < l.length
      · have hge := ltAt_ge l p hlt
        have hne : l[ltAt l p].1 ≠ p := by
          intro e
          rw [ltHas_eq l p hlt, e] at hf
          simp at hf
        have ed : ltKeys (l.drop (ltAt l p)) = l[ltAt l p].1 :: ltKeys (l.drop (ltAt l p + 1)) := by
          unfold ltKeys
          rw [List.drop_eq_getElem_cons hlt, List.map_cons]
        rw [ed] at hb h2
        rcases List.mem_cons.1 hb with rfl | hb
        · omega
        · have := (List.pairwise_cons.1 h2.2.1).1 b hb
          omega
      · rw [List.drop_of_length_le (by omega)] at hb; cases hb
    rw [e2, List.pairwise_append]
    refine ⟨h2.1, List.pairwise_append.2 ⟨List.pairwise_singleton _ _, h2.2.1, fun a ha b hb => by rw [List.mem_singleton.1 ha]; exact hhigh b hb⟩, fun a ha b hb => ?_⟩
    rcases List.mem_append.1 hb with hb | hb
    · rw [List.mem_singleton.1 hb]; exact hlow a ha
    · exact h2.2.2 a ha b hb
theorem rgScan_hits (base seq m : Int) : ∀ n i q, rgScan base seq m n i = some q → base + i ≤ q ∧ q < base + i + n ∧ rgMod q m = seq := by
  intro n
  induction n with
  | zero => intro i q h; cases h
  | succ n ih =>
    intro i q h
    unfold rgScan at h
    split at h
    · rename_i h1
      injection h with h
      subst h
      exact ⟨by omega, by omega, h1⟩
    · have := ih (i + 1) q h
      exact ⟨by omega, by omega, this.2.2⟩
theorem plNear_some {s : Pls} {seq q : Int} (h : plNear s seq = some q) : (s.ent : Int) ≤ q ∧ q < s.ent + s.c.w ∧ rgMod q s.c.m = seq := by
  unfold plNear rgNear at h
  split at h
  · cases h
  · have := rgScan_hits _ _ _ _ _ _ h
    omega
theorem PlOk.kept {s : Pls} (h : PlOk s) (seq : Int) (m : List UInt8) : PlOk (plKept s seq m) ∧ (plKept s seq m).ent = s.ent ∧ (plKept s seq m).ret = s.ret ∧ (plKept s seq m).c = s.c ∧ (plKept s seq m).ls = s.ls := by
  unfold plKept
  cases hq : plNear s seq with
  | none => exact ⟨h, rfl, rfl, rfl, rfl⟩
  | some q =>
    obtain ⟨q1, q2, _⟩ := plNear_some hq
    simp only
    split
    · rename_i hm
      obtain ⟨h1, h2, h3, h4, h5⟩ := h
      refine ⟨⟨h1, h2, ltKeep_sorted h3 _ _, fun t ht => ?_, h5⟩, rfl, rfl, rfl, rfl⟩
      rcases ltKeep_mem _ _ _ t ht with h | h
      · exact h4 t h
      · subst h
        exact ⟨⟨by show s.ent ≤ q.toNat; omega, by show ((q.toNat : Nat) : Int) < s.ent + s.c.w; omega⟩, hm⟩
    · exact ⟨h, rfl, rfl, rfl, rfl⟩
theorem PlOk.take {s : Pls} (h : PlOk s) (ack : Bool) (seq : Int) (m : List UInt8) : PlOk (plTake s ack seq m) ∧ s.ent ≤ (plTake s ack seq m).ent ∧ (plTake s ack seq m).ent ≤ s.ent + 64 ∧ (plTake s ack seq m).c = s.c := by
  unfold plTake
  split
  · exact ⟨h, Nat.le_refl _, by omega, rfl⟩
  · obtain ⟨k1, k2, k3, k4, k5⟩ := h.kept seq m
    obtain ⟨e1, e2, e3, e4, e5⟩ := k1.enter
    have := k1.llen
    exact ⟨e1, by omega, by omega, e2.trans k4⟩
theorem PlOk.pop {s : Pls} (h : PlOk s) (hl : s.ls ≠ []) : PlOk (plPop s) := by
  obtain ⟨h1, h2, h3, h4, h5⟩ := h
  have hn : s.ls.length = s.ls.tail.length + 1 := by
    cases hls : s.ls with
    | nil => exact absurd hls hl
    | cons a r => simp
  exact ⟨h1, ⟨by show s.ls.tail.length ≤ s.c.room.toNat; omega, fun m hm => h2.2 m (List.mem_of_mem_tail hm)⟩, h3, h4, by show s.ret + 1 + s.ls.tail.length = s.ent; omega⟩
theorem PlOk.recv {s : Pls} (h : PlOk s) : PlOk (plRecv s) ∧ s.ent ≤ (plRecv s).ent ∧ (plRecv s).ent ≤ s.ent + 64 ∧ (plRecv s).c = s.c := by
  unfold plRecv
  split
  · exact ⟨h, Nat.le_refl _, by omega, rfl⟩
  · rename_i hl
    have k := h.pop hl
    obtain ⟨e1, e2, e3, e4, e5⟩ := k.enter
    have e5' : (plEnter (plPop s)).ent ≤ s.ent + s.late.length := e5
    have := h.llen
    exact ⟨e1, e3, by omega, e2⟩
theorem PlOk.new {c : Cfg} (h : plNew c = 0) : PlOk ⟨c, [], [], 0, 0⟩ := ⟨plNew_ok h, ⟨Nat.zero_le _, fun m hm => (by cases hm)⟩, List.Pairwise.nil, fun t ht => (by cases ht), rfl⟩
/-- the bits of what is ahead: one each, none twice -/
theorem plBits_lt {s : Pls} {l : List Lt} (h : (ltKeys l).Pairwise (· < ·)) (he : ∀ t ∈ l, s.ent ≤ t.1) : ∀ b, (∀ t ∈ l, t.1 < s.ent + b) → plBits s l < 2 ^ b := by
  induction l with
  | nil => intro b _; exact Nat.two_pow_pos b
  | cons t l ih =>
    intro b hb
    obtain ⟨k1, k2⟩ := List.pairwise_cons.1 h
    have ht := hb t (by simp)
    have he1 := he t (by simp)
    -- the others are above: as if these began behind
    have key : ∀ (l : List Lt) (a : Nat), (ltKeys l).Pairwise (· < ·) → (∀ u ∈ l, s.ent + a ≤ u.1 ∧ u.1 < s.ent + b) → a ≤ b → plBits s l + 2 ^ a ≤ 2 ^ b := by
      intro l
      induction l with
      | nil =>
        intro a _ _ hab
        show 0 + 2 ^ a ≤ 2 ^ b
        rw [Nat.zero_add]
        exact Nat.pow_le_pow_right (by omega) hab
      | cons u r ihr =>
        intro a hs hu hab
        obtain ⟨r1, r2⟩ := List.pairwise_cons.1 hs
        have hu0 := hu u (by simp)
        have h1 := ihr (u.1 - s.ent + 1) r2 (fun x hx => ⟨by have hh : u.1 < x.1 := r1 x.1 (List.mem_map.2 ⟨x, hx, rfl⟩); omega, (hu x (by simp [hx])).2⟩) (by omega)
        have h2 : 2 ^ a ≤ 2 ^ (u.1 - s.ent) := Nat.pow_le_pow_right (by omega) (by omega)
        have h3 : 2 ^ (u.1 - s.ent + 1) = 2 ^ (u.1 - s.ent) + 2 ^ (u.1 - s.ent) := by rw [Nat.pow_succ]; omega
        show 2 ^ (u.1 - s.ent) + plBits s r + 2 ^ a ≤ 2 ^ b
        omega
    have h1 := key l (t.1 - s.ent + 1) k2 (fun x hx => ⟨by have hh : t.1 < x.1 := k1 x.1 (List.mem_map.2 ⟨x, hx, rfl⟩); omega, hb x (by simp [hx])⟩) (by omega)
    have h3 : 2 ^ (t.1 - s.ent + 1) = 2 ^ (t.1 - s.ent) + 2 ^ (t.1 - s.ent) := by rw [Nat.pow_succ]; omega
    have h4 := Nat.two_pow_pos (t.1 - s.ent)
    show 2 ^ (t.1 - s.ent) + plBits s l < 2 ^ b
    omega
theorem PlOk.bits {s : Pls} (h : PlOk s) : plBits s s.late < 18446744073709551616 :=
  plBits_lt (b := 64) h.2.2.1 (fun t ht => (h.2.2.2.1 t ht).1.1) (fun t ht => by have := (h.2.2.2.1 t ht).1.2; have := h.1.1.2; omega)
theorem plBits_append (s : Pls) (l : List Lt) (t : Lt) : plBits s (l ++ [t]) = plBits s l + 2 ^ (t.1 - s.ent) := by
  induction l with
  | nil => show 2 ^ (t.1 - s.ent) + 0 = 0 + _; omega
  | cons u l ih =>
    show 2 ^ (u.1 - s.ent) + plBits s (l ++ [t]) = 2 ^ (u.1 - s.ent) + plBits s l + 2 ^ (t.1 - s.ent)
    omega
theorem plBits_take (s : Pls) (l : List Lt) (k : Nat) : plBits s (l.take k) ≤ plBits s l := by
  induction l generalizing k with
  | nil => simp
  | cons u l ih =>
    cases k with
    | zero => exact Nat.zero_le _
    | succ k =>
      show 2 ^ (u.1 - s.ent) + plBits s (l.take k) ≤ 2 ^ (u.1 - s.ent) + plBits s l
      have := ih k
      omega
end Go.Proofs.Ytpidbgnlehikeaa
