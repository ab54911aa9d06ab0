/- The window engine's transmitter in plain words: its state, what its calls make of it, what always holds. Nothing of the program's own functions is in here. -/
import Derived.Test.YtpidbgnlehikeaaTimV
import Derived.Test.YtpidbgnlehikeaaRingM
import Derived.Test.YtpidbgnlehikeaaCfg
namespace Go.Proofs.Ytpidbgnlehikeaa
open Go.RowKit
set_option maxRecDepth 20000

/-- timers by their numbers -/
theorem tk_at {most : Int} {l : List Tmr} (h : TmOk most l) (i j : Nat) (hi : i < l.length) (hj : j < l.length) (hij : i < j) : l[i].1 < l[j].1 := by
  have := List.pairwise_iff_getElem.1 h.2.1 i j (by simpa [tmKeys] using hi) (by simpa [tmKeys] using hj) hij
  simpa [tmKeys] using this
theorem tk_is {most : Int} {l : List Tmr} (h : TmOk most l) (key : Int) : tmIs l key = true ↔ key ∈ tmKeys l := by
  constructor
  · intro hf
    have hlt := tmIs_lt l key hf
    rw [tmIs_eq l key hlt] at hf
    have e : l[tmAt l key].1 = key := by simpa using hf
    exact List.mem_map.2 ⟨l[tmAt l key], List.getElem_mem hlt, e⟩
  · intro hm
    obtain ⟨t, ht, e⟩ := List.mem_map.1 hm
    obtain ⟨i, hi, rfl⟩ := List.mem_iff_getElem.1 ht
    have hle : tmAt l key ≤ i := by
      rcases Nat.lt_or_ge i (tmAt l key) with h1 | h1
      · have := tmAt_lt l key i h1 hi; omega
      · exact h1
    have hlt : tmAt l key < l.length := by omega
    have hge := tmAt_ge l key hlt
    rw [tmIs_eq l key hlt]
    rcases Nat.lt_or_ge (tmAt l key) i with h1 | h1
    · have := tk_at h _ _ hlt hi h1; omega
    · have e2 : tmAt l key = i := by omega
      simp [e2, e]
theorem tk_set {most : Int} {l : List Tmr} (h : TmOk most l) (key k : Int) : k ∈ tmKeys (tmSet l key) ↔ k = key ∨ k ∈ tmKeys l := by
  cases hf : tmIs l key with
  | true =>
    have hlt := tmIs_lt l key hf
    rw [tmSet_found l key hf]
    have e := hf
    rw [tmIs_eq l key hlt] at e
    have e : l[tmAt l key].1 = key := by simpa using e
    have e2 : tmKeys (l.set (tmAt l key) (key, 1, 1)) = tmKeys l := by
      unfold tmKeys
      rw [List.map_set]
      apply List.ext_getElem?
      intro i
      by_cases hi : i = tmAt l key
      · subst hi
        rw [List.getElem?_set_self (by simpa using hlt)]
        simp [hlt, e]
      · rw [List.getElem?_set_ne (Ne.symm hi)]
    rw [e2]
    constructor
    · exact .inr
    · rintro (rfl | h1)
      · exact (tk_is h _).1 hf
      · exact h1
  | false =>
    rw [tmSet_new l key hf]
    have ek : tmKeys l = tmKeys (l.take (tmAt l key)) ++ tmKeys (l.drop (tmAt l key)) := by
      unfold tmKeys; rw [← List.map_append, List.take_append_drop]
    have e2 : tmKeys (l.take (tmAt l key) ++ [(key, 1, 1)] ++ l.drop (tmAt l key)) = tmKeys (l.take (tmAt l key)) ++ ([key] ++ tmKeys (l.drop (tmAt l key))) := by simp [tmKeys]
    rw [e2, ek]
    simp only [List.mem_append, List.mem_singleton]
    constructor
    · rintro (h | h | h)
      · exact .inr (.inl h)
      · exact .inl h
      · exact .inr (.inr h)
    · rintro (h | h | h)
      · exact .inr (.inl h)
      · exact .inl h
      · exact .inr (.inr h)
theorem tk_clear {most : Int} {l : List Tmr} (h : TmOk most l) (key k : Int) : k ∈ tmKeys (tmClear l key) ↔ k ≠ key ∧ k ∈ tmKeys l := by
  unfold tmClear
  cases hf : tmIs l key with
  | false =>
    rw [if_neg (by simp)]
    constructor
    · intro hk
      refine ⟨fun e => ?_, hk⟩
      subst e
      rw [(tk_is h _).2 hk] at hf
      cases hf
    · exact fun h => h.2
  | true =>
    rw [if_pos rfl]
    have hlt := tmIs_lt l key hf
    have e := hf
    rw [tmIs_eq l key hlt] at e
    have e : l[tmAt l key].1 = key := by simpa using e
    constructor
    · intro hk
      obtain ⟨t, ht, rfl⟩ := List.mem_map.1 hk
      rcases List.mem_append.1 ht with ht | ht
      · obtain ⟨i, hi, rfl⟩ := List.mem_iff_getElem.1 ht
        simp at hi
        have := tmAt_lt l key i (by omega) (by omega)
        refine ⟨by simp; omega, List.mem_map.2 ⟨_, List.mem_of_mem_take ht, rfl⟩⟩
      · obtain ⟨i, hi, rfl⟩ := List.mem_iff_getElem.1 ht
        simp at hi
        have := tk_at h (tmAt l key) (tmAt l key + 1 + i) hlt (by omega) (by omega)
        refine ⟨by simp only [List.getElem_drop]; omega, List.mem_map.2 ⟨_, List.mem_of_mem_drop ht, rfl⟩⟩
    · rintro ⟨hne, hk⟩
      obtain ⟨t, ht, rfl⟩ := List.mem_map.1 hk
      obtain ⟨i, hi, rfl⟩ := List.mem_iff_getElem.1 ht
      refine List.mem_map.2 ⟨l[i], ?_, rfl⟩
      rcases Nat.lt_trichotomy i (tmAt l key) with h1 | h1 | h1
      · exact List.mem_append_left _ (List.mem_iff_getElem.2 ⟨i, by simp; omega, by simp⟩)
      · exact absurd (by subst h1; exact e) hne
      · exact List.mem_append_right _ (List.mem_iff_getElem.2 ⟨i - (tmAt l key + 1), by simp; omega, by simp only [List.getElem_drop]; congr 1; omega⟩)
theorem tk_tick (most : Int) (l : List Tmr) : tmKeys (tmTick most l) = tmKeys l := by
  unfold tmKeys tmTick
  rw [List.map_map]
  apply List.map_congr_left
  intro t _
  simp only [Function.comp, tmStep]
  split <;> rfl
/-- no more of them than there are numbers -/
theorem tk_len {l : List Int} (h : l.Pairwise (· < ·)) : ∀ (a b : Int), a ≤ b → (∀ k ∈ l, a ≤ k ∧ k < b) → (l.length : Int) ≤ b - a := by
  induction l with
  | nil => intro a b hab _; simp; omega
  | cons x l ih =>
    intro a b hab hk
    obtain ⟨h1, h2⟩ := List.pairwise_cons.1 h
    have hx := hk x (by simp)
    have := ih h2 (x + 1) b (by omega) (fun k hk' => ⟨by have := h1 k hk'; omega, (hk k (by simp [hk'])).2⟩)
    simp only [List.length_cons]
    omega

/-- a transmitter: its settings, all messages, the first that is not there, the first that was not sent, the timers -/
structure Pus where
  c : Cfg
  ls : List (List UInt8)
  base : Nat
  next : Nat
  tm : List Tmr
abbrev Sld := Bool × Int × Nat × List UInt8
def puSld (s : Pus) (i : Nat) : Sld := (false, rgMod i s.c.m, 0, s.ls.getD i [])
def puStep (s : Pus) : Pus := { s with tm := tmSet s.tm s.next, next := s.next + 1 }
def puIt : Nat → Pus → Pus
  | 0, s => s
  | k + 1, s => puIt k (puStep s)
/-- how many it sends as it goes on -/
def puK (s : Pus) : Nat := min s.ls.length (s.base + s.c.w.toNat) - s.next
def puOn (s : Pus) : Pus := puIt (puK s) s
def puOnL (s : Pus) : List Sld := (List.range (puK s)).map fun i => puSld s (s.next + i)
def puSendE (s : Pus) (n : Nat) : Nat := if 64 < n then 2 else if s.c.room ≤ (s.ls.length : Int) - (s.base : Int) then 3 else 0
def puAdd (s : Pus) (m : List UInt8) : Pus := { s with ls := s.ls ++ [m] }
def puSend (s : Pus) (m : List UInt8) : Pus := if puSendE s m.length = 0 then puOn (puAdd s m) else s
def puSendN (s : Pus) (n : Nat) : Nat := if puSendE s n = 0 then s.ls.length else 0
def puSendL (s : Pus) (m : List UInt8) : List Sld := if puSendE s m.length = 0 then puOnL (puAdd s m) else []
def puPollE (s : Pus) (i : Int) : Nat := if i < 0 ∨ (s.ls.length : Int) ≤ i then 4 else 0
def puPoll (s : Pus) (i : Int) : Nat := if i < 0 ∨ (s.ls.length : Int) ≤ i then 0 else if i < (s.base : Int) then 1 else 0
def puTick (s : Pus) : Pus := { s with tm := tmTick s.c.b s.tm }
def puTickL (s : Pus) : List Sld := (tmDue s.tm).map fun k => puSld s k.toNat
def puClr : Nat → Nat → List Tmr → List Tmr
  | 0, _, t => t
  | k + 1, i, t => puClr k (i + 1) (tmClear t (i : Int))
def puBit (q next bits : Nat) (t : List Tmr) (i : Nat) : List Tmr := if bits / 2 ^ i % 2 = 1 ∧ 0 < i ∧ q + i < next then tmClear t ((q + i : Nat) : Int) else t
def puBits (q next bits : Nat) : Nat → List Tmr → List Tmr
  | 0, t => t
  | k + 1, t => puBit q next bits (puBits q next bits k t) k
/-- its timer, if it has none -/
def puKeep (q next : Nat) (t : List Tmr) : List Tmr := if tmIs t (q : Int) = false ∧ q < next then tmSet t (q : Int) else t
def puAck (s : Pus) (q bits : Nat) : Pus := { s with base := q, tm := puBits q s.next bits 64 (puKeep q s.next (puClr (q - s.base) s.base s.tm)) }
/-- the place that an answer tells -/
def puNear (s : Pus) (seq : Int) : Option Nat := match rgNear s.base (s.c.w + 1) seq s.c.m with
  | none => none
  | some q => if (s.next : Int) < q then none else some q.toNat
def puTake (s : Pus) (ack : Bool) (seq : Int) (bits : Nat) : Pus := if ack = false then s else match puNear s seq with
  | none => s
  | some q => puOn (puAck s q bits)
def puTakeL (s : Pus) (ack : Bool) (seq : Int) (bits : Nat) : List Sld := if ack = false then [] else match puNear s seq with
  | none => []
  | some q => puOnL (puAck s q bits)
def puNew (c : Cfg) : Int := if rgCheck c.w c.m c.l ≠ 0 then rgCheck c.w c.m c.l else if c.b < 1 ∨ 64 < c.b then 1 else if c.room < 1 ∨ 16 < c.room then 1 else 0
/-- settings that may be -/
def CfOk (c : Cfg) : Prop := (1 ≤ c.w ∧ c.w ≤ 64) ∧ (c.w ≤ c.l ∧ c.l ≤ 4096) ∧ (2 * (c.w + c.l) < c.m ∧ c.m ≤ 65536) ∧ (1 ≤ c.b ∧ c.b ≤ 64) ∧ (1 ≤ c.room ∧ c.room ≤ 16)
theorem puNew_ok {c : Cfg} (h : puNew c = 0) : CfOk c := by
  unfold puNew rgCheck at h
  unfold CfOk
  repeat' split at h
  all_goals first | omega | skip
/-- what always holds -/
def PsOk (s : Pus) : Prop := CfOk s.c ∧ (s.base ≤ s.next ∧ s.next ≤ s.ls.length) ∧ ((s.next : Int) ≤ s.base + s.c.w ∧ (s.ls.length : Int) ≤ s.base + s.c.room) ∧ (∀ m ∈ s.ls, m.length ≤ 64) ∧ TmOk s.c.b s.tm ∧ (∀ k ∈ tmKeys s.tm, (s.base : Int) ≤ k ∧ k < s.next) ∧ (s.base < s.next → (s.base : Int) ∈ tmKeys s.tm)
theorem PsOk.tlen {s : Pus} (h : PsOk s) : s.tm.length ≤ 64 := by
  obtain ⟨h1, h2, h3, h4, h5, h6, h7⟩ := h
  have := tk_len h5.2.1 s.base s.next (by omega) h6
  rw [show (tmKeys s.tm).length = s.tm.length by simp [tmKeys]] at this
  have := h1.1.2
  omega
theorem PsOk.step {s : Pus} (h : PsOk s) (hl : s.next < s.ls.length) (hw : (s.next : Int) < s.base + s.c.w) (hb : s.next < 1000000) : PsOk (puStep s) := by
  obtain ⟨h1, h2, h3, h4, h5, h6, h7⟩ := h
  refine ⟨h1, ⟨by show s.base ≤ s.next + 1; omega, by show s.next + 1 ≤ s.ls.length; omega⟩, ⟨by show ((s.next + 1 : Nat) : Int) ≤ s.base + s.c.w; omega, h3.2⟩, h4, tmSet_ok _ ⟨by omega, by omega⟩ h5, fun k hk => ?_, fun _ => ?_⟩
  · rcases (tk_set h5 _ _).1 hk with e | e
    · show (s.base : Int) ≤ k ∧ k < ((s.next + 1 : Nat) : Int)
      omega
    · have := h6 k e
      show (s.base : Int) ≤ k ∧ k < ((s.next + 1 : Nat) : Int)
      omega
  · refine (tk_set h5 _ _).2 ?_
    by_cases e : s.base = s.next
    · exact .inl (by show (s.base : Int) = s.next; omega)
    · exact .inr (h7 (by omega))
theorem puK_step {s : Pus} (h : 0 < puK s) : puK s = puK (puStep s) + 1 := by
  unfold puK at *
  show _ = (min s.ls.length (s.base + s.c.w.toNat) - (s.next + 1)) + 1
  omega
theorem puK_pos {s : Pus} (h : PsOk s) : 0 < puK s ↔ s.next < s.ls.length ∧ (s.next : Int) < s.base + s.c.w := by
  have := h.1.1
  unfold puK
  omega
theorem puOn_none {s : Pus} (h : puK s = 0) : puOn s = s := by unfold puOn; rw [h]; rfl
theorem puOn_step {s : Pus} (h : 0 < puK s) : puOn s = puOn (puStep s) := by
  unfold puOn
  rw [puK_step h]
  rfl
theorem puSld_step (s : Pus) (i : Nat) : puSld (puStep s) i = puSld s i := rfl
theorem puOnL_step {s : Pus} (h : 0 < puK s) : puOnL s = puSld s s.next :: puOnL (puStep s) := by
  unfold puOnL
  rw [puK_step h, List.range_succ_eq_map, List.map_cons, List.map_map]
  congr 1
  apply List.map_congr_left
  intro i _
  show puSld s (s.next + (i + 1)) = puSld s (s.next + 1 + i)
  congr 1
  omega
theorem puOnL_none {s : Pus} (h : puK s = 0) : puOnL s = [] := by unfold puOnL; rw [h]; rfl
/-- the loop in which it goes on, at any place: what was sent so far and what is sent from here on -/
theorem PsOk.on {s : Pus} (h : PsOk s) (hb : s.ls.length ≤ 1000000) : PsOk (puOn s) ∧ (puOn s).ls = s.ls ∧ (puOn s).base = s.base ∧ (puOn s).c = s.c ∧ (puOn s).next = s.next + puK s := by
  generalize hk : puK s = k
  induction k generalizing s with
  | zero => rw [puOn_none hk]; exact ⟨h, rfl, rfl, rfl, rfl⟩
  | succ k ih =>
    have hp : 0 < puK s := by omega
    obtain ⟨p1, p2⟩ := (puK_pos h).1 hp
    have h1 := h.step p1 p2 (by omega)
    have e := puK_step hp
    obtain ⟨k1, k2, k3, k4, k5⟩ := ih h1 hb (by omega)
    rw [puOn_step hp]
    exact ⟨k1, k2, k3, k4, by rw [k5]; show s.next + 1 + k = _; omega⟩
theorem puOnL_len (s : Pus) : (puOnL s).length = puK s := by unfold puOnL; simp
theorem PsOk.add {s : Pus} (h : PsOk s) (m : List UInt8) (hE : puSendE s m.length = 0) : PsOk (puAdd s m) := by
  obtain ⟨h1, h2, h3, h4, h5, h6, h7⟩ := h
  unfold puSendE at hE
  have hm : m.length ≤ 64 := by
    by_cases h : 64 < m.length
    · rw [if_pos h] at hE; cases hE
    · omega
  rw [if_neg (by omega)] at hE
  have hr : ¬ s.c.room ≤ (s.ls.length : Int) - (s.base : Int) := fun h => by rw [if_pos h] at hE; cases hE
  refine ⟨h1, ⟨h2.1, by show s.next ≤ (s.ls ++ [m]).length; simp; omega⟩, ⟨h3.1, by show ((s.ls ++ [m]).length : Int) ≤ s.base + s.c.room; simp; omega⟩, fun u hu => ?_, h5, h6, h7⟩
  rcases List.mem_append.1 hu with hu | hu
  · exact h4 u hu
  · rw [List.mem_singleton.1 hu]; exact hm
theorem PsOk.send {s : Pus} (h : PsOk s) (m : List UInt8) (hb : s.ls.length < 1000000) : PsOk (puSend s m) := by
  unfold puSend
  split
  · rename_i hE
    exact ((h.add m hE).on (by show (s.ls ++ [m]).length ≤ _; simp; omega)).1
  · exact h
theorem PsOk.tick {s : Pus} (h : PsOk s) : PsOk (puTick s) := by
  obtain ⟨h1, h2, h3, h4, h5, h6, h7⟩ := h
  refine ⟨h1, h2, h3, h4, tmTick_ok h5, fun k hk => h6 k ?_, fun hk => ?_⟩
  · rw [← tk_tick s.c.b s.tm]; exact hk
  · show (s.base : Int) ∈ tmKeys (tmTick s.c.b s.tm)
    rw [tk_tick]; exact h7 hk
theorem rgScan_some (base seq m : Int) : ∀ n i q, rgScan base seq m n i = some q → base + i ≤ q ∧ q < base + i + n ∧ rgMod q m = seq := by
  intro n
  induction n with
  | zero => intro i q h; cases h
  | succ n ih =>
    intro i q h
    unfold rgScan at h
    split at h
    · rename_i h1
      injection h with h
      subst h
      exact ⟨by omega, by omega, h1⟩
    · have := ih (i + 1) q h
      exact ⟨by omega, by omega, this.2.2⟩
theorem puNear_some {s : Pus} {seq : Int} {q : Nat} (h : puNear s seq = some q) : s.base ≤ q ∧ q ≤ s.next ∧ rgNear s.base (s.c.w + 1) seq s.c.m = some (q : Int) := by
  unfold puNear at h
  cases hr : rgNear s.base (s.c.w + 1) seq s.c.m with
  | none => rw [hr] at h; cases h
  | some z =>
    rw [hr] at h
    simp only at h
    split at h
    · cases h
    · injection h with h
      have hz : (s.base : Int) ≤ z := by
        unfold rgNear at hr
        split at hr
        · cases hr
        · have := (rgScan_some _ _ _ _ _ _ hr).1
          omega
      subst h
      exact ⟨by omega, by omega, by congr 1; omega⟩
theorem puClr_keys {most : Int} : ∀ (k i : Nat) (t : List Tmr), TmOk most t → TmOk most (puClr k i t) ∧ (∀ x, x ∈ tmKeys (puClr k i t) ↔ x ∈ tmKeys t ∧ ¬ ((i : Int) ≤ x ∧ x < i + k)) ∧ (puClr k i t).length ≤ t.length := by
  intro k
  induction k with
  | zero => intro i t h; exact ⟨h, fun x => ⟨fun hx => ⟨hx, by omega⟩, fun hx => hx.1⟩, Nat.le_refl _⟩
  | succ k ih =>
    intro i t h
    obtain ⟨a, b, c⟩ := ih (i + 1) (tmClear t i) (tmClear_ok _ h)
    refine ⟨a, fun x => ?_, Nat.le_trans c (tmClear_len _ _)⟩
    show x ∈ tmKeys (puClr k (i + 1) (tmClear t i)) ↔ _
    rw [b, tk_clear h]
    constructor
    · rintro ⟨⟨h1, h2⟩, h3⟩
      exact ⟨h2, by omega⟩
    · rintro ⟨h1, h2⟩
      exact ⟨⟨by omega, h1⟩, by omega⟩
theorem puClr_succ : ∀ (k i : Nat) (t : List Tmr), puClr (k + 1) i t = tmClear (puClr k i t) ((i + k : Nat) : Int) := by
  intro k
  induction k with
  | zero => intro i t; rfl
  | succ k ih =>
    intro i t
    show puClr (k + 1) (i + 1) (tmClear t i) = tmClear (puClr k (i + 1) (tmClear t i)) _
    rw [ih]
    congr 2
    omega
theorem puBits_keys {most : Int} (q next bits : Nat) : ∀ (k : Nat) (t : List Tmr), TmOk most t → TmOk most (puBits q next bits k t) ∧ (∀ x, x ∈ tmKeys (puBits q next bits k t) → x ∈ tmKeys t) ∧ ((q : Int) ∈ tmKeys t → (q : Int) ∈ tmKeys (puBits q next bits k t)) ∧ (puBits q next bits k t).length ≤ t.length := by
  intro k
  induction k with
  | zero => intro t h; exact ⟨h, fun _ h => h, fun h => h, Nat.le_refl _⟩
  | succ k ih =>
    intro t h
    obtain ⟨a, b, c, d⟩ := ih t h
    show TmOk most (puBit q next bits (puBits q next bits k t) k) ∧ (∀ x, x ∈ tmKeys (puBit q next bits (puBits q next bits k t) k) → _) ∧ (_ → _ ∈ tmKeys (puBit q next bits (puBits q next bits k t) k)) ∧ (puBit q next bits (puBits q next bits k t) k).length ≤ _
    unfold puBit
    split
    · rename_i h1
      refine ⟨tmClear_ok _ a, fun x hx => b x ((tk_clear a _ _).1 hx).2, fun hq => (tk_clear a _ _).2 ⟨by omega, c hq⟩, Nat.le_trans (tmClear_len _ _) d⟩
    · exact ⟨a, b, c, d⟩
theorem puKeep_keys {most : Int} {t : List Tmr} (q next : Nat) (h : TmOk most t) (hq : q < 1000000) : TmOk most (puKeep q next t) ∧ (∀ x, x ∈ tmKeys (puKeep q next t) → x ∈ tmKeys t ∨ (x = q ∧ q < next)) ∧ (q < next → (q : Int) ∈ tmKeys (puKeep q next t)) ∧ (puKeep q next t).length ≤ t.length + 1 := by
  unfold puKeep
  split
  · rename_i h1
    exact ⟨tmSet_ok _ ⟨by omega, by omega⟩ h, fun x hx => ((tk_set h _ _).1 hx).elim (fun e => .inr ⟨e, h1.2⟩) .inl, fun _ => (tk_set h _ _).2 (.inl rfl), tmSet_len _ _⟩
  · rename_i h1
    refine ⟨h, fun x hx => .inl hx, fun hn => ?_, by omega⟩
    cases hf : tmIs t (q : Int) with
    | true => exact (tk_is h _).1 hf
    | false => exact absurd ⟨hf, hn⟩ h1
theorem PsOk.ack {s : Pus} (h : PsOk s) (q bits : Nat) (h1 : s.base ≤ q) (h2 : q ≤ s.next) (hb : s.ls.length < 1000000) : PsOk (puAck s q bits) := by
  obtain ⟨k1, k2, k3, k4, k5, k6, k7⟩ := h
  obtain ⟨a1, a2, a3⟩ := puClr_keys (q - s.base) s.base s.tm k5
  obtain ⟨b1, b2, b3, b4⟩ := puKeep_keys q s.next a1 (by omega)
  obtain ⟨c1, c2, c3, c4⟩ := puBits_keys q s.next bits 64 _ b1
  refine ⟨k1, ⟨h2, k2.2⟩, ⟨by show (s.next : Int) ≤ q + s.c.w; omega, by show (s.ls.length : Int) ≤ q + s.c.room; omega⟩, k4, c1, fun x hx => ?_, fun hn => c3 (b3 hn)⟩
  show (q : Int) ≤ x ∧ x < s.next
  rcases b2 x (c2 x hx) with e | ⟨e, e2⟩
  · have h3 := (a2 x).1 e
    have h4 := k6 x h3.1
    omega
  · omega
theorem PsOk.take {s : Pus} (h : PsOk s) (ack : Bool) (seq : Int) (bits : Nat) (hb : s.ls.length < 1000000) : PsOk (puTake s ack seq bits) := by
  unfold puTake
  split
  · exact h
  · cases hq : puNear s seq with
    | none => exact h
    | some q =>
      obtain ⟨h1, h2, _⟩ := puNear_some hq
      exact ((h.ack q bits h1 h2 hb).on (by show s.ls.length ≤ _; omega)).1
theorem PsOk.new {c : Cfg} (h : puNew c = 0) : PsOk ⟨c, [], 0, 0, []⟩ := by
  have k := puNew_ok h
  have k1 := k.1
  have k2 := k.2.2.2.2
  exact ⟨k, ⟨Nat.le_refl _, Nat.le_refl _⟩, ⟨by show ((0 : Nat) : Int) ≤ ((0 : Nat) : Int) + c.w; omega, by show ((0 : Nat) : Int) ≤ ((0 : Nat) : Int) + c.room; omega⟩, fun m hm => (by cases hm), ⟨k.2.2.2.1, List.Pairwise.nil, fun t ht => (by cases ht)⟩, fun k hk => (by cases hk), fun h => absurd h (Nat.lt_irrefl 0)⟩
/-- how many there are -/
theorem puSend_len (s : Pus) (m : List UInt8) (h : PsOk s) (hb : s.ls.length < 1000000) : (puSend s m).ls.length ≤ s.ls.length + 1 := by
  unfold puSend
  split
  · rename_i hE
    rw [((h.add m hE).on (by show (s.ls ++ [m]).length ≤ _; simp; omega)).2.1]
    show (s.ls ++ [m]).length ≤ _
    simp
  · omega
theorem puTake_len (s : Pus) (ack : Bool) (seq : Int) (bits : Nat) (h : PsOk s) (hb : s.ls.length < 1000000) : (puTake s ack seq bits).ls = s.ls := by
  unfold puTake
  split
  · rfl
  · cases hq : puNear s seq with
    | none => rfl
    | some q =>
      obtain ⟨h1, h2, _⟩ := puNear_some hq
      exact ((h.ack q bits h1 h2 hb).on (by show s.ls.length ≤ _; omega)).2.1
end Go.Proofs.Ytpidbgnlehikeaa
