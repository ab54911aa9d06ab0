/- Plain facts on points of a plane: turns, kinds, points of bytes, bytes of points. Nothing of the program is in here. -/
import Derived.Laws.ComplexArith
namespace Go.Proofs.Ytmpelpmgpklidaa

abbrev Pt := Int × Int
def rot1 (p : Pt) : Pt := (-p.2, p.1)
def rotN : Nat → Pt → Pt
  | 0, p => p
  | n + 1, p => rotN n (rot1 p)
theorem rotN_succ (n : Nat) (p : Pt) : rotN (n + 1) p = rotN n (rot1 p) := rfl
theorem rotN_add (m n : Nat) : ∀ p, rotN (m + n) p = rotN n (rotN m p) := by
  induction m with
  | zero => intro p; simp [rotN]
  | succ m ih => intro p; rw [show m + 1 + n = (m + n) + 1 by omega, rotN_succ, ih, rotN_succ]
theorem rotN_four (p : Pt) : rotN 4 p = p := by simp [rotN, rot1]
theorem rotN_mod (n : Nat) (p : Pt) : rotN n p = rotN (n % 4) p := by
  induction n using Nat.strongRecOn generalizing p with
  | _ n ih =>
    by_cases h : n < 4
    · rw [Nat.mod_eq_of_lt h]
    · have e : n = 4 + (n - 4) := by omega
      rw [e, rotN_add, rotN_four, ih (n - 4) (by omega)]
      congr 1
      omega
/-- a number's rest by 4, from 0 on -/
def rest4 (k : Int) : Nat := (k % 4).toNat
theorem rest4_lt (k : Int) : rest4 k < 4 := by unfold rest4; omega
theorem rest4_cast (k : Int) : (rest4 k : Int) = k % 4 := by unfold rest4; omega
theorem rest4_nat (k : Nat) : rest4 (k : Int) = k % 4 := by unfold rest4; omega
def rotK (k : Int) (p : Pt) : Pt := rotN (rest4 k) p
theorem rotK_add (k n : Int) (p : Pt) : rotK n (rotK k p) = rotK (k + n) p := by
  unfold rotK
  rw [← rotN_add, rotN_mod]
  congr 1
  unfold rest4
  omega
theorem rot1_small {B : Int} {p : Pt} (h : -B ≤ p.1 ∧ p.1 ≤ B ∧ -B ≤ p.2 ∧ p.2 ≤ B) : -B ≤ (rot1 p).1 ∧ (rot1 p).1 ≤ B ∧ -B ≤ (rot1 p).2 ∧ (rot1 p).2 ≤ B := by
  unfold rot1; simp only; omega
theorem rotN_small {B : Int} (n : Nat) : ∀ {p : Pt}, (-B ≤ p.1 ∧ p.1 ≤ B ∧ -B ≤ p.2 ∧ p.2 ≤ B) → -B ≤ (rotN n p).1 ∧ (rotN n p).1 ≤ B ∧ -B ≤ (rotN n p).2 ∧ (rotN n p).2 ≤ B := by
  induction n with
  | zero => intro p h; exact h
  | succ n ih => intro p h; exact ih (rot1_small h)
def turnB (l : List Pt) (k : Int) : List Pt := l.map (rotK k)

/-- the four points -/
def unit (q : Nat) : Pt := rotN q (1, 1)
theorem unit_rot (q j : Nat) : rotN j (unit q) = unit ((q + j) % 4) := by
  unfold unit
  rw [← rotN_add, rotN_mod]
def kindI (p : Pt) : Int := if p = (1, 1) then 0 else if p = (-1, 1) then 1 else if p = (-1, -1) then 2 else if p = (1, -1) then 3 else -1
theorem kindI_unit (q : Nat) (h : q < 4) : kindI (unit q) = q := by
  match q, h with
  | 0, _ => rfl
  | 1, _ => decide +kernel
  | 2, _ => decide +kernel
  | 3, _ => decide +kernel
theorem kindI_range (p : Pt) : -1 ≤ kindI p ∧ kindI p ≤ 3 := by unfold kindI; repeat' split <;> omega
theorem kindI_unit_of (p : Pt) (h : 0 ≤ kindI p) : ∃ q, q < 4 ∧ p = unit q ∧ kindI p = q := by
  unfold kindI at h ⊢
  by_cases h0 : p = (1, 1)
  · exact ⟨0, by decide, h0, by rw [if_pos h0]; rfl⟩
  · rw [if_neg h0] at h ⊢
    by_cases h1 : p = (-1, 1)
    · exact ⟨1, by decide, h1.trans (by decide +kernel), by rw [if_pos h1]; rfl⟩
    · rw [if_neg h1] at h ⊢
      by_cases h2 : p = (-1, -1)
      · exact ⟨2, by decide, h2.trans (by decide +kernel), by rw [if_pos h2]; rfl⟩
      · rw [if_neg h2] at h ⊢
        by_cases h3 : p = (1, -1)
        · exact ⟨3, by decide, h3.trans (by decide +kernel), by rw [if_pos h3]; rfl⟩
        · rw [if_neg h3] at h
          omega
def sliceP (p : Pt) : Pt := (if 0 ≤ p.1 then 1 else -1, if 0 ≤ p.2 then 1 else -1)

/-- the two bits of a byte at place k, from the highest on -/
def twoB (c : UInt8) (k : Nat) : Nat := c.toNat / 4 ^ (3 - k) % 4
def stepsB (b : List UInt8) : List Nat := b.flatMap fun c => [twoB c 0, twoB c 1, twoB c 2, twoB c 3]
def walkP : Pt → List Nat → List Pt
  | _, [] => []
  | z, k :: r => rotN k z :: walkP (rotN k z) r
def endP (z : Pt) (s : List Nat) : Pt := s.foldl (fun z k => rotN k z) z
theorem walkP_append (z : Pt) (s t : List Nat) : walkP z (s ++ t) = walkP z s ++ walkP (endP z s) t := by
  induction s generalizing z with
  | nil => rfl
  | cons k r ih => simp only [List.cons_append, walkP, ih]; rfl
theorem endP_append (z : Pt) (s t : List Nat) : endP z (s ++ t) = endP (endP z s) t := by simp [endP, List.foldl_append]
theorem walkP_snoc (z : Pt) (s : List Nat) (k : Nat) : walkP z (s ++ [k]) = walkP z s ++ [rotN k (endP z s)] := walkP_append z s [k]
theorem endP_snoc (z : Pt) (s : List Nat) (k : Nat) : endP z (s ++ [k]) = rotN k (endP z s) := endP_append z s [k]
theorem walkP_len (z : Pt) (s : List Nat) : (walkP z s).length = s.length := by
  induction s generalizing z with
  | nil => rfl
  | cons k r ih => simp [walkP, ih]
theorem stepsB_len (b : List UInt8) : (stepsB b).length = 4 * b.length := by
  induction b with
  | nil => rfl
  | cons c r ih =>
    have e : stepsB (c :: r) = [twoB c 0, twoB c 1, twoB c 2, twoB c 3] ++ stepsB r := rfl
    rw [e, List.length_append, ih, List.length_cons]
    simp only [List.length_cons, List.length_nil]
    omega
theorem stepsB_take (b : List UInt8) (k : Nat) (h : k < b.length) : stepsB (b.take (k + 1)) = stepsB (b.take k) ++ [twoB b[k] 0, twoB b[k] 1, twoB b[k] 2, twoB b[k] 3] := by
  rw [List.take_succ_eq_append_getElem h]
  unfold stepsB
  rw [List.flatMap_append]
  rfl
def pointsB (b : List UInt8) : List Pt := if 4096 < b.length then [] else (1, 1) :: walkP (1, 1) (stepsB b)

/-- the turn from one point to the next; -1: one is of no kind -/
def stepI (a b : Pt) : Int := if kindI a < 0 ∨ kindI b < 0 then -1 else (kindI b - kindI a) % 4
theorem stepI_range (a b : Pt) : -1 ≤ stepI a b ∧ stepI a b ≤ 3 := by unfold stepI; split <;> omega
/-- four steps are a byte -/
structure Pk where
  out : List UInt8
  n : Nat
  c : Nat
def pkStep (s : Pk) (k : Int) : Pk := if s.c = 3 then ⟨s.out ++ [UInt8.ofNat (4 * s.n + k.toNat)], 0, 0⟩ else ⟨s.out, 4 * s.n + k.toNat, s.c + 1⟩
def pkRun (l : List Int) : Pk := l.foldl pkStep ⟨[], 0, 0⟩
theorem pkRun_snoc (l : List Int) (k : Int) : pkRun (l ++ [k]) = pkStep (pkRun l) k := by simp [pkRun, List.foldl_append]
theorem pkFold (l : List Int) : ∀ s : Pk, s.c < 4 → s.n < 4 ^ s.c → (∀ k ∈ l, k ≤ 3) → (l.foldl pkStep s).c = (s.c + l.length) % 4 ∧ (l.foldl pkStep s).n < 4 ^ (l.foldl pkStep s).c := by
  induction l with
  | nil => intro s hc hn _; exact ⟨(Nat.mod_eq_of_lt hc).symm, hn⟩
  | cons k r ih =>
    intro s hc hn hk
    have h2 := hk k (by simp)
    rw [List.foldl_cons]
    by_cases h : s.c = 3
    · have e : pkStep s k = ⟨s.out ++ [UInt8.ofNat (4 * s.n + k.toNat)], 0, 0⟩ := by unfold pkStep; rw [if_pos h]
      rw [e]
      obtain ⟨i1, i2⟩ := ih ⟨s.out ++ [UInt8.ofNat (4 * s.n + k.toNat)], 0, 0⟩ (by simp) (by simp) (fun x hx => hk x (by simp [hx]))
      refine ⟨?_, i2⟩
      rw [i1]
      simp only [List.length_cons]
      omega
    · have e : pkStep s k = ⟨s.out, 4 * s.n + k.toNat, s.c + 1⟩ := by unfold pkStep; rw [if_neg h]
      rw [e]
      obtain ⟨i1, i2⟩ := ih ⟨s.out, 4 * s.n + k.toNat, s.c + 1⟩ (by simp only; omega) (by simp only [Nat.pow_succ]; omega) (fun x hx => hk x (by simp [hx]))
      refine ⟨?_, i2⟩
      rw [i1]
      simp only [List.length_cons]
      omega
theorem pkRun_c (l : List Int) (h : ∀ k ∈ l, k ≤ 3) : (pkRun l).c = l.length % 4 := by
  have := (pkFold l ⟨[], 0, 0⟩ (by decide) (by decide) h).1
  simpa [pkRun] using this
theorem pkRun_n (l : List Int) (h : ∀ k ∈ l, k ≤ 3) : (pkRun l).n < 4 ^ (pkRun l).c := (pkFold l ⟨[], 0, 0⟩ (by decide) (by decide) h).2
/-- the steps between the points of a list -/
def stepsP : List Pt → List Int
  | a :: b :: r => stepI a b :: stepsP (b :: r)
  | _ => []
theorem stepsP_len (l : List Pt) : (stepsP l).length = l.length - 1 := by
  match l with
  | [] => rfl
  | [a] => rfl
  | a :: b :: r => simp only [stepsP, List.length_cons, stepsP_len (b :: r)]; omega
theorem stepsP_snoc (l : List Pt) (a b : Pt) : stepsP (l ++ [a] ++ [b]) = stepsP (l ++ [a]) ++ [stepI a b] := by
  match l with
  | [] => rfl
  | [x] => rfl
  | x :: y :: r =>
    have := stepsP_snoc (y :: r) a b
    simp only [List.cons_append, stepsP] at this ⊢
    rw [this]
theorem stepsP_take (l : List Pt) (i : Nat) (h0 : 0 < i) (h : i < l.length) : stepsP (l.take (i + 1)) = stepsP (l.take i) ++ [stepI (l[i - 1]'(by omega)) l[i]] := by
  have e1 : l.take i = l.take (i - 1) ++ [l[i - 1]'(by omega)] := by
    have := List.take_succ_eq_append_getElem (l := l) (i := i - 1) (by omega)
    rw [show i - 1 + 1 = i by omega] at this
    exact this
  rw [List.take_succ_eq_append_getElem h]
  conv => lhs; rw [e1]
  conv => rhs; rw [e1]
  exact stepsP_snoc _ _ _
def bytesB (l : List Pt) : List UInt8 × Int :=
  if 16385 < l.length then ([], 2) else
  if l.length % 4 ≠ 1 ∨ kindI (l.getD 0 (0, 0)) < 0 then ([], 70) else
  if ∃ k ∈ stepsP l, k < 0 then ([], 70) else ((pkRun (stepsP l)).out, 0)

def ints (s : List Nat) : List Int := s.map Int.ofNat
/-- P7.5: what was made of bytes is these again, from whichever side it is looked at -/
theorem stepI_turn (k : Int) (q j : Nat) (hj : j < 4) : stepI (rotK k (unit q)) (rotK k (rotN j (unit q))) = j := by
  unfold rotK
  rw [unit_rot, unit_rot, unit_rot]
  unfold stepI
  have h1 := kindI_unit ((q + rest4 k) % 4) (by omega)
  have h2 := kindI_unit (((q + j) % 4 + rest4 k) % 4) (by omega)
  rw [h1, h2, if_neg (by omega)]
  omega
theorem stepsP_walk (k : Int) (s : List Nat) (hs : ∀ j ∈ s, j < 4) : ∀ q, stepsP ((unit q :: walkP (unit q) s).map (rotK k)) = ints s := by
  induction s with
  | nil => intro q; rfl
  | cons j r ih =>
    intro q
    have h1 := stepI_turn k q j (hs j (by simp))
    have h2 := ih (fun x hx => hs x (by simp [hx])) ((q + j) % 4)
    simp only [walkP, List.map_cons, stepsP] at h2 ⊢
    rw [h1, unit_rot, h2]
    rfl
theorem stepsB_lt (b : List UInt8) : ∀ j ∈ stepsB b, j < 4 := by
  intro j hj
  obtain ⟨c, _, hc⟩ := List.mem_flatMap.1 hj
  simp only [List.mem_cons, List.not_mem_nil, or_false] at hc
  unfold twoB at hc
  omega
theorem pk_byte (o : List UInt8) (c : UInt8) : (ints [twoB c 0, twoB c 1, twoB c 2, twoB c 3]).foldl pkStep ⟨o, 0, 0⟩ = ⟨o ++ [c], 0, 0⟩ := by
  have t0 : twoB c 0 = c.toNat / 64 % 4 := rfl
  have t1 : twoB c 1 = c.toNat / 16 % 4 := rfl
  have t2 : twoB c 2 = c.toNat / 4 % 4 := rfl
  have t3 : twoB c 3 = c.toNat % 4 := by show c.toNat / 1 % 4 = _; rw [Nat.div_one]
  have hc := c.toNat_lt
  have e : UInt8.ofNat (4 * (4 * (4 * (4 * 0 + twoB c 0) + twoB c 1) + twoB c 2) + twoB c 3) = c := by
    rw [t0, t1, t2, t3]
    rw [show 4 * (4 * (4 * (4 * 0 + c.toNat / 64 % 4) + c.toNat / 16 % 4) + c.toNat / 4 % 4) + c.toNat % 4 = c.toNat by omega]
    simp
  show (⟨o ++ [UInt8.ofNat (4 * (4 * (4 * (4 * 0 + twoB c 0) + twoB c 1) + twoB c 2) + twoB c 3)], 0, 0⟩ : Pk) = _
  rw [e]
theorem pkRun_steps (b : List UInt8) : pkRun (ints (stepsB b)) = ⟨b, 0, 0⟩ := by
  have key : ∀ (b o : List UInt8), (ints (stepsB b)).foldl pkStep ⟨o, 0, 0⟩ = ⟨o ++ b, 0, 0⟩ := by
    intro b
    induction b with
    | nil => intro o; simp [stepsB, ints]
    | cons c r ih =>
      intro o
      have e : stepsB (c :: r) = [twoB c 0, twoB c 1, twoB c 2, twoB c 3] ++ stepsB r := rfl
      have e2 : ints ([twoB c 0, twoB c 1, twoB c 2, twoB c 3] ++ stepsB r) = ints [twoB c 0, twoB c 1, twoB c 2, twoB c 3] ++ ints (stepsB r) := List.map_append
      rw [e, e2, List.foldl_append, pk_byte, ih]
      simp
  have := key b []
  simpa [pkRun] using this
theorem phase_back (b : List UInt8) (k : Int) (hb : b.length ≤ 4096) : bytesB (turnB (pointsB b) k) = (b, 0) := by
  have hl : (turnB (pointsB b) k).length = 4 * b.length + 1 := by
    unfold turnB pointsB
    rw [if_neg (by omega), List.length_map, List.length_cons, walkP_len, stepsB_len]
  have hs : stepsP (turnB (pointsB b) k) = ints (stepsB b) := by
    unfold turnB pointsB
    rw [if_neg (by omega)]
    exact stepsP_walk k (stepsB b) (stepsB_lt b) 0
  have hk : 0 ≤ kindI ((turnB (pointsB b) k).getD 0 (0, 0)) := by
    unfold turnB pointsB
    rw [if_neg (by omega)]
    simp only [List.map_cons, List.getD_cons_zero]
    have : rotK k (1, 1) = unit (rest4 k) := rfl
    rw [this, kindI_unit _ (rest4_lt k)]
    omega
  unfold bytesB
  rw [if_neg (by omega), if_neg (by omega), hs, if_neg (by rintro ⟨x, hx, h0⟩; obtain ⟨j, _, rfl⟩ := List.mem_map.1 hx; have : (0 : Int) ≤ Int.ofNat j := Int.natCast_nonneg j; omega), pkRun_steps]
end Go.Proofs.Ytmpelpmgpklidaa
