/- Plain facts on what a scanner finds, and sees, in any bytes. Nothing of the program is in here. -/
import Derived.Test.YtgppoapdpgblmaaFrameM
namespace Go.Proofs.Ytgppoapdpgblmaa
open Go.RowKit
set_option maxRecDepth 20000

/-- what a scanner is at: 0 ahead of the first flag, 1 in a stretch, 2 in one that is too long; what it holds; what it has counted -/
structure Sc where
  at_ : Nat
  h : List UInt8
  g : Nat
  b : Nat
  l : Nat
  z : Nat
def scNew : Sc := ⟨0, [], 0, 0, 0, 0⟩
/-- a stretch is ended by its flag -/
def scEnd (s : Sc) : Sc × List (List UInt8) :=
  if s.h = [] then (⟨1, [], s.g, s.b, s.l, s.z⟩, []) else
  match frameB s.h with
  | none => (⟨1, [], s.g, s.b + 1, s.l, s.z⟩, [])
  | some y => (⟨1, [], s.g + 1, s.b, s.l, s.z⟩, [y])
def scStep (s : Sc) (x : UInt8) : Sc × List (List UInt8) :=
  if s.at_ = 0 then if x = 0x7e then (⟨1, [], s.g, s.b, s.l, s.z⟩, []) else (⟨0, s.h, s.g, s.b, s.l, s.z + 1⟩, [])
  else if s.at_ = 1 then if x = 0x7e then scEnd s else if s.h.length = 200 then (⟨2, s.h, s.g, s.b, s.l, s.z⟩, []) else (⟨1, s.h ++ [x], s.g, s.b, s.l, s.z⟩, [])
  else if x = 0x7e then (⟨1, [], s.g, s.b, s.l + 1, s.z⟩, []) else (⟨2, s.h, s.g, s.b, s.l, s.z⟩, [])
def scNext (p : Sc × List (List UInt8)) (x : UInt8) : Sc × List (List UInt8) := ((scStep p.1 x).1, p.2 ++ (scStep p.1 x).2)
def scRun (p : Sc × List (List UInt8)) (b : List UInt8) : Sc × List (List UInt8) := b.foldl scNext p

theorem scRun_nil (p : Sc × List (List UInt8)) : scRun p [] = p := rfl
theorem scRun_cons (p : Sc × List (List UInt8)) (x : UInt8) (b : List UInt8) : scRun p (x :: b) = scRun (scNext p x) b := rfl
theorem scRun_append (p : Sc × List (List UInt8)) (a b : List UInt8) : scRun p (a ++ b) = scRun (scRun p a) b := by simp [scRun, List.foldl_append]
theorem scRun_snoc (p : Sc × List (List UInt8)) (a : List UInt8) (x : UInt8) : scRun p (a ++ [x]) = scNext (scRun p a) x := by rw [scRun_append]; rfl
theorem scRun_take (p : Sc × List (List UInt8)) (b : List UInt8) (k : Nat) (h : k < b.length) : scRun p (b.take (k + 1)) = scNext (scRun p (b.take k)) b[k] := by
  rw [List.take_succ_eq_append_getElem h, scRun_snoc]
theorem scRun_found (b : List UInt8) : ∀ (s : Sc) (f : List (List UInt8)), scRun (s, f) b = ((scRun (s, []) b).1, f ++ (scRun (s, []) b).2) := by
  induction b with
  | nil => intro s f; simp [scRun]
  | cons x b ih =>
    intro s f
    rw [scRun_cons, scRun_cons, scNext, scNext, ih, ih (scStep s x).1 ([] ++ (scStep s x).2)]
    simp

theorem scStep0 (h : List UInt8) (g b l z : Nat) (x : UInt8) (hx : x ≠ 0x7e) : scStep ⟨0, h, g, b, l, z⟩ x = (⟨0, h, g, b, l, z + 1⟩, []) := by simp [scStep, hx]
theorem scStep0f (h : List UInt8) (g b l z : Nat) : scStep ⟨0, h, g, b, l, z⟩ 0x7e = (⟨1, [], g, b, l, z⟩, []) := by simp [scStep]
theorem scStep1 (h : List UInt8) (g b l z : Nat) (x : UInt8) (hx : x ≠ 0x7e) (hl : h.length ≠ 200) : scStep ⟨1, h, g, b, l, z⟩ x = (⟨1, h ++ [x], g, b, l, z⟩, []) := by simp [scStep, hx, hl]
theorem scStep1l (h : List UInt8) (g b l z : Nat) (x : UInt8) (hx : x ≠ 0x7e) (hl : h.length = 200) : scStep ⟨1, h, g, b, l, z⟩ x = (⟨2, h, g, b, l, z⟩, []) := by simp [scStep, hx, hl]
theorem scStep1f (s : Sc) (h : s.at_ = 1) : scStep s 0x7e = scEnd s := by simp [scStep, h]
theorem scStep2 (h : List UInt8) (g b l z : Nat) (x : UInt8) (hx : x ≠ 0x7e) : scStep ⟨2, h, g, b, l, z⟩ x = (⟨2, h, g, b, l, z⟩, []) := by simp [scStep, hx]
theorem scStep2f (h : List UInt8) (g b l z : Nat) : scStep ⟨2, h, g, b, l, z⟩ 0x7e = (⟨1, [], g, b, l + 1, z⟩, []) := by simp [scStep]
theorem scEnd_nil (a g b l z : Nat) : scEnd ⟨a, [], g, b, l, z⟩ = (⟨1, [], g, b, l, z⟩, []) := by simp [scEnd]
theorem scEnd_none (a : Nat) (h : List UInt8) (g b l z : Nat) (h0 : h ≠ []) (hf : frameB h = none) : scEnd ⟨a, h, g, b, l, z⟩ = (⟨1, [], g, b + 1, l, z⟩, []) := by simp [scEnd, h0, hf]
theorem scEnd_some (a : Nat) (h : List UInt8) (g b l z : Nat) (y : List UInt8) (h0 : h ≠ []) (hf : frameB h = some y) : scEnd ⟨a, h, g, b, l, z⟩ = (⟨1, [], g + 1, b, l, z⟩, [y]) := by simp [scEnd, h0, hf]
/-- behind a flag a new stretch begins, whatever stood ahead -/
theorem scStep_flag (s : Sc) : ∃ g b l z f, scStep s 0x7e = (⟨1, [], g, b, l, z⟩, f) := by
  unfold scStep
  split
  · exact ⟨_, _, _, _, _, rfl⟩
  · split
    · simp only [if_true]
      unfold scEnd
      split
      · exact ⟨_, _, _, _, _, rfl⟩
      · split
        · exact ⟨_, _, _, _, _, rfl⟩
        · exact ⟨_, _, _, _, _, rfl⟩
    · exact ⟨_, _, _, _, _, rfl⟩

/-- no flag in a stretch that is not too long -/
theorem scRun_gather (t : List UInt8) : ∀ (h : List UInt8) (g b l z : Nat) (f : List (List UInt8)), (∀ x ∈ t, x ≠ 0x7e) → h.length + t.length ≤ 200 → scRun (⟨1, h, g, b, l, z⟩, f) t = (⟨1, h ++ t, g, b, l, z⟩, f) := by
  induction t with
  | nil => intro h g b l z f _ _; simp [scRun]
  | cons x t ih =>
    intro h g b l z f hx hl
    simp at hl
    rw [scRun_cons, scNext, scStep1 h g b l z x (hx x (by simp)) (by omega)]
    simp only [List.append_nil]
    rw [ih _ _ _ _ _ _ (fun y hy => hx y (by simp [hy])) (by simp; omega)]
    simp
theorem scRun_pass (t : List UInt8) : ∀ (h : List UInt8) (g b l z : Nat) (f : List (List UInt8)), (∀ x ∈ t, x ≠ 0x7e) → scRun (⟨2, h, g, b, l, z⟩, f) t = (⟨2, h, g, b, l, z⟩, f) := by
  induction t with
  | nil => intro h g b l z f _; rfl
  | cons x t ih =>
    intro h g b l z f hx
    rw [scRun_cons, scNext, scStep2 h g b l z x (hx x (by simp))]
    simp only [List.append_nil]
    exact ih _ _ _ _ _ _ (fun y hy => hx y (by simp [hy]))
theorem scRun_long (t : List UInt8) (g b l z : Nat) (f : List (List UInt8)) (hx : ∀ x ∈ t, x ≠ 0x7e) (hl : 200 < t.length) : ∃ h, scRun (⟨1, [], g, b, l, z⟩, f) t = (⟨2, h, g, b, l, z⟩, f) := by
  have e : t = t.take 200 ++ t[200] :: t.drop 201 := by rw [← List.drop_eq_getElem_cons (by omega), List.take_append_drop]
  refine ⟨t.take 200, ?_⟩
  have h1 := scRun_gather (t.take 200) [] g b l z f (fun x hm => hx x (List.mem_of_mem_take hm)) (by simp; omega)
  have h2 := scRun_pass (t.drop 201) (t.take 200) g b l z f (fun x hm => hx x (List.mem_of_mem_drop hm))
  conv => lhs; rw [e]
  rw [scRun_append, h1, scRun_cons, scNext, List.nil_append, scStep1l _ _ _ _ _ _ (hx _ (List.getElem_mem (by omega))) (by simp; omega)]
  simp only [List.append_nil]
  exact h2
theorem scRun_noise (t : List UInt8) : ∀ (z : Nat), (∀ x ∈ t, x ≠ 0x7e) → scRun (⟨0, [], 0, 0, 0, z⟩, []) t = (⟨0, [], 0, 0, 0, z + t.length⟩, []) := by
  induction t with
  | nil => intro z _; rfl
  | cons x t ih =>
    intro z hx
    rw [scRun_cons, scNext, scStep0 _ _ _ _ _ _ (hx x (by simp))]
    simp only [List.append_nil]
    rw [ih _ (fun y hy => hx y (by simp [hy]))]
    simp; omega

/-- the counts alone -/
def Cnt (s : Sc) (g b l z : Nat) : Prop := s.g = g ∧ s.b = b ∧ s.l = l ∧ s.z = z
/-- What the document's answer is at, at the place i: b[i] is a flag, or the end. -/
def Sinv (b : List UInt8) (i : Nat) (g bd l z : Nat) (out : List (List UInt8)) : Prop :=
  (i < b.length → b[i]? = some 0x7e ∧ scRun (scNew, []) (b.take (i + 1)) = (⟨1, [], g, bd, l, z⟩, out)) ∧
  (b.length ≤ i → (scRun (scNew, []) b).2 = out ∧ Cnt (scRun (scNew, []) b).1 g bd l z)
theorem sinv_noise (b : List UInt8) (i : Nat) (hi : i ≤ b.length) (hn : ∀ x ∈ b.take i, x ≠ 0x7e) (he : i < b.length → b[i]? = some 0x7e) : Sinv b i 0 0 0 i [] := by
  have h1 := scRun_noise (b.take i) 0 hn
  have hlen : (b.take i).length = i := by simp; omega
  rw [hlen, Nat.zero_add] at h1
  constructor
  · intro hlt
    refine ⟨he hlt, ?_⟩
    have hb := he hlt
    rw [List.getElem?_eq_getElem hlt] at hb
    injection hb with hb
    rw [scRun_take _ _ _ hlt, hb, show (scNew, ([] : List (List UInt8))) = (⟨0, [], 0, 0, 0, 0⟩, []) from rfl, h1, scNext, scStep0f]
    rfl
  · intro hge
    have : b.take i = b := List.take_of_length_le hge
    rw [this] at h1
    rw [show (scNew, ([] : List (List UInt8))) = (⟨0, [], 0, 0, 0, 0⟩, []) from rfl, h1]
    exact ⟨rfl, rfl, rfl, rfl, rfl⟩
theorem cut_two (b : List UInt8) (i k : Nat) (h : i ≤ k) : b.take k = b.take i ++ (b.take k).drop i := by
  have h2 := List.take_append_drop i (b.take k)
  rw [List.take_take, Nat.min_eq_left h] at h2
  exact h2.symm
theorem sinv_stop (b : List UInt8) (i : Nat) (g bd l z : Nat) (out : List (List UInt8)) (h : Sinv b i g bd l z out) (hi : i < b.length) (hn : ∀ x ∈ b.drop (i + 1), x ≠ 0x7e) :
    (scRun (scNew, []) b).2 = out ∧ Cnt (scRun (scNew, []) b).1 g bd l z := by
  have h1 := (h.1 hi).2
  have e : b = b.take (i + 1) ++ b.drop (i + 1) := (List.take_append_drop _ _).symm
  by_cases hl : 200 < (b.drop (i + 1)).length
  · obtain ⟨hh, h2⟩ := scRun_long (b.drop (i + 1)) g bd l z out hn hl
    rw [e, scRun_append, h1, h2]
    exact ⟨rfl, rfl, rfl, rfl, rfl⟩
  · have h2 := scRun_gather (b.drop (i + 1)) [] g bd l z out hn (by simp only [List.length_nil]; omega)
    rw [e, scRun_append, h1, h2]
    exact ⟨rfl, rfl, rfl, rfl, rfl⟩
/-- one stretch more -/
theorem sinv_step (b : List UInt8) (i k : Nat) (g bd l z g' bd' l' : Nat) (out out' : List (List UInt8)) (h : Sinv b i g bd l z out) (hik : i < k) (hk : k < b.length) (hn : ∀ x ∈ (b.take k).drop (i + 1), x ≠ 0x7e) (hf : b[k]? = some 0x7e)
    (hc : (200 < ((b.take k).drop (i + 1)).length ∧ g' = g ∧ bd' = bd ∧ l' = l + 1 ∧ out' = out) ∨
      ((b.take k).drop (i + 1) = [] ∧ g' = g ∧ bd' = bd ∧ l' = l ∧ out' = out) ∨
      (((b.take k).drop (i + 1)).length ≤ 200 ∧ (b.take k).drop (i + 1) ≠ [] ∧ frameB ((b.take k).drop (i + 1)) = none ∧ g' = g ∧ bd' = bd + 1 ∧ l' = l ∧ out' = out) ∨
      (((b.take k).drop (i + 1)).length ≤ 200 ∧ (b.take k).drop (i + 1) ≠ [] ∧ ∃ y, frameB ((b.take k).drop (i + 1)) = some y ∧ g' = g + 1 ∧ bd' = bd ∧ l' = l ∧ out' = out ++ [y])) :
    Sinv b k g' bd' l' z out' := by
  have h1 := (h.1 (by omega)).2
  refine ⟨fun _ => ⟨hf, ?_⟩, fun hge => by omega⟩
  have hb := hf
  rw [List.getElem?_eq_getElem hk] at hb
  injection hb with hb
  rw [scRun_take _ _ _ hk, hb, cut_two b (i + 1) k (by omega), scRun_append, h1]
  generalize (b.take k).drop (i + 1) = s at *
  rcases hc with ⟨hl, rfl, rfl, rfl, rfl⟩ | ⟨rfl, rfl, rfl, rfl, rfl⟩ | ⟨hl, h0, hB, rfl, rfl, rfl, rfl⟩ | ⟨hl, h0, y, hB, rfl, rfl, rfl, rfl⟩
  · obtain ⟨hh, h2⟩ := scRun_long s _ _ l z _ hn hl
    rw [h2, scNext, scStep2f]
    simp
  · rw [scRun_nil, scNext, scStep1f _ rfl, scEnd_nil]
    simp
  · rw [scRun_gather s [] _ _ _ z _ hn (by simp only [List.length_nil]; omega), scNext, scStep1f _ rfl, List.nil_append, scEnd_none _ _ _ _ _ _ h0 hB]
    simp
  · rw [scRun_gather s [] _ _ _ z _ hn (by simp only [List.length_nil]; omega), scNext, scStep1f _ rfl, List.nil_append, scEnd_some _ _ _ _ _ _ y h0 hB]

/-- a stretch that carries a body -/
theorem stuffed_facts (y : List UInt8) (hy : y.length ≤ 96) : (∀ x ∈ stuffB (crcPut y), x ≠ 0x7e) ∧ (stuffB (crcPut y)).length ≤ 200 ∧ stuffB (crcPut y) ≠ [] ∧ frameB (stuffB (crcPut y)) = some y := by
  have h1 := crcPut_length y
  have h2 := stuffB_len (crcPut y)
  refine ⟨stuffB_noflag _, by omega, fun e => ?_, frameB_put y hy⟩
  have h5 : (stuffB (crcPut y)).length = 0 := by rw [e]; rfl
  omega
theorem frameW_eq (y : List UInt8) : frameW y = 0x7e :: (stuffB (crcPut y) ++ [0x7e]) := rfl
theorem frameW_tail (y : List UInt8) : (frameW y).drop 1 = stuffB (crcPut y) ++ [0x7e] := rfl
theorem scRun_tail (y : List UInt8) (hy : y.length ≤ 96) (g b l z : Nat) (f : List (List UInt8)) : scRun (⟨1, [], g, b, l, z⟩, f) (stuffB (crcPut y) ++ [0x7e]) = (⟨1, [], g + 1, b, l, z⟩, f ++ [y]) := by
  obtain ⟨h1, h2, h3, h4⟩ := stuffed_facts y hy
  rw [scRun_snoc, scRun_gather _ [] g b l z f h1 (by simp only [List.length_nil]; omega), scNext, scStep1f _ rfl, List.nil_append, scEnd_some _ _ _ _ _ _ y h3 h4]
/-- P5.5 in plain words -/
theorem scRun_comes (y : List UInt8) (hy : y.length ≤ 96) (p : Sc × List (List UInt8)) : ∃ s f, scRun p (frameW y) = (s, f ++ [y]) := by
  obtain ⟨g, b, l, z, f, h⟩ := scStep_flag p.1
  rw [frameW_eq, scRun_cons, scNext, h, scRun_tail y hy]
  exact ⟨_, _, rfl⟩
theorem scRun_one0 (y : List UInt8) (hy : y.length ≤ 96) (g b l z : Nat) (f : List (List UInt8)) : scRun (⟨0, [], g, b, l, z⟩, f) (frameW y) = (⟨1, [], g + 1, b, l, z⟩, f ++ [y]) := by
  rw [frameW_eq, scRun_cons, scNext, scStep0f, List.append_nil, scRun_tail y hy]
theorem scRun_one1 (y : List UInt8) (hy : y.length ≤ 96) (g b l z : Nat) (f : List (List UInt8)) : scRun (⟨1, [], g, b, l, z⟩, f) (frameW y) = (⟨1, [], g + 1, b, l, z⟩, f ++ [y]) := by
  rw [frameW_eq, scRun_cons, scNext, scStep1f _ rfl, scEnd_nil, List.append_nil, scRun_tail y hy]
/-- P5.6: what the i'th body adds -/
def framed (sh : Bool) (i : Nat) (y : List UInt8) : List UInt8 := if sh = true ∧ 0 < i then (frameW y).drop 1 else frameW y
def frames (sh : Bool) : Nat → List (List UInt8) → List UInt8
  | _, [] => []
  | i, y :: r => framed sh i y ++ frames sh (i + 1) r
theorem frames_snoc (sh : Bool) (r : List (List UInt8)) : ∀ (i : Nat) (y : List UInt8), frames sh i (r ++ [y]) = frames sh i r ++ framed sh (i + r.length) y := by
  induction r with
  | nil => intro i y; simp [frames]
  | cons x r ih =>
    intro i y
    simp only [List.cons_append, frames, List.length_cons]
    rw [ih, List.append_assoc, show i + 1 + r.length = i + (r.length + 1) from by omega]
theorem frames_take (sh : Bool) (ls : List (List UInt8)) (k : Nat) (h : k < ls.length) : frames sh 0 (ls.take (k + 1)) = frames sh 0 (ls.take k) ++ framed sh k ls[k] := by
  rw [List.take_succ_eq_append_getElem h, frames_snoc]
  congr 2
  simp; omega
theorem framed_len (sh : Bool) (i : Nat) (y : List UInt8) (hy : y.length ≤ 96) : (framed sh i y).length ≤ 202 := by
  have := (frameW_len y).2
  unfold framed
  split
  · simp; omega
  · omega
theorem frames_len (sh : Bool) (ls : List (List UInt8)) : ∀ i, (∀ y ∈ ls, y.length ≤ 96) → (frames sh i ls).length ≤ 202 * ls.length := by
  induction ls with
  | nil => intro i _; simp [frames]
  | cons y r ih =>
    intro i h
    have h1 := framed_len sh i y (h y (by simp))
    have h2 := ih (i + 1) (fun x hx => h x (by simp [hx]))
    simp only [frames, List.length_append, List.length_cons]
    omega
theorem scRun_frames (sh : Bool) (ls : List (List UInt8)) : ∀ (i g z : Nat) (f : List (List UInt8)), (∀ y ∈ ls, y.length ≤ 96) → 0 < i → scRun (⟨1, [], g, 0, 0, z⟩, f) (frames sh i ls) = (⟨1, [], g + ls.length, 0, 0, z⟩, f ++ ls) := by
  induction ls with
  | nil => intro i g z f _ _; simp [frames, scRun]
  | cons y r ih =>
    intro i g z f h hi
    have hy := h y (by simp)
    have h1 : scRun (⟨1, [], g, 0, 0, z⟩, f) (framed sh i y) = (⟨1, [], g + 1, 0, 0, z⟩, f ++ [y]) := by
      unfold framed
      split
      · rw [frameW_tail, scRun_tail y hy]
      · rw [scRun_one1 y hy]
    simp only [frames]
    rw [scRun_append, h1, ih _ _ _ _ (fun x hx => h x (by simp [hx])) (by omega)]
    simp; omega
theorem scRun_only (sh : Bool) (t : List UInt8) (ls : List (List UInt8)) (ht : ∀ x ∈ t, x ≠ 0x7e) (h : ∀ y ∈ ls, y.length ≤ 96) :
    (scRun (scNew, []) (t ++ frames sh 0 ls)).2 = ls ∧ Cnt (scRun (scNew, []) (t ++ frames sh 0 ls)).1 ls.length 0 0 t.length := by
  have h1 := scRun_noise t 0 ht
  rw [Nat.zero_add] at h1
  rw [scRun_append, show (scNew, ([] : List (List UInt8))) = (⟨0, [], 0, 0, 0, 0⟩, []) from rfl, h1]
  cases ls with
  | nil => exact ⟨rfl, rfl, rfl, rfl, rfl⟩
  | cons y r =>
    have h2 : framed sh 0 y = frameW y := by unfold framed; rw [if_neg (by simp)]
    simp only [frames]
    rw [scRun_append, h2, scRun_one0 y (h y (by simp)), scRun_frames sh r _ _ _ _ (fun x hx => h x (by simp [hx])) (by omega)]
    refine ⟨by simp, ?_, rfl, rfl, rfl⟩
    simp; omega
/-- a stretch that is held is never longer than 200 -/
theorem scStep_held (s : Sc) (x : UInt8) (h : s.h.length ≤ 200) : (scStep s x).1.h.length ≤ 200 ∧ (scStep s x).1.at_ ≤ 2 := by
  unfold scStep
  split
  · split
    · simp
    · exact ⟨h, by simp⟩
  · split
    · split
      · unfold scEnd
        split
        · simp
        · split <;> simp
      · split
        · exact ⟨h, by simp⟩
        · rename_i hne
          simp; omega
    · split
      · simp
      · exact ⟨h, by simp⟩
/-- how much the counts grow -/
theorem scStep_grow (s : Sc) (x : UInt8) : (scStep s x).1.g ≤ s.g + 1 ∧ (scStep s x).1.b ≤ s.b + 1 ∧ (scStep s x).1.l ≤ s.l + 1 ∧ (scStep s x).1.z ≤ s.z + 1 ∧ (scStep s x).2.length ≤ 1 := by
  unfold scStep
  split
  · split <;> simp
  · split
    · split
      · unfold scEnd
        split
        · simp
        · split <;> simp
      · split <;> simp
    · split <;> simp
theorem scRun_grow (b : List UInt8) : ∀ (p : Sc × List (List UInt8)), (scRun p b).1.g ≤ p.1.g + b.length ∧ (scRun p b).1.b ≤ p.1.b + b.length ∧ (scRun p b).1.l ≤ p.1.l + b.length ∧ (scRun p b).1.z ≤ p.1.z + b.length ∧ (scRun p b).2.length ≤ p.2.length + b.length := by
  induction b with
  | nil => intro p; simp [scRun]
  | cons x b ih =>
    intro p
    rw [scRun_cons]
    have h1 := ih (scNext p x)
    have h2 := scStep_grow p.1 x
    simp only [scNext, List.length_append, List.length_cons] at h1 ⊢
    omega
end Go.Proofs.Ytgppoapdpgblmaa
